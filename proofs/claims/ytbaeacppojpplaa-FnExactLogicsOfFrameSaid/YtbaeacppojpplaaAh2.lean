/- Whether a frame has the condition of one of the two axioms without flags, by the model. Conditions: those in the theorems. -/
import Derived.Test.YtbaeacppojpplaaAh
import Derived.Test.YtbaeacppojpplaaMsk
namespace Go.Proofs.Ytbaeacppojpplaa
open Go.RowKit

theorem an_z {n : Nat} (hn : n ≤ 30) {x : Int} (hx : InMk n x) : bits .andNot .i64 x 0 = x :=
  T_ext (hx.not hn (InMk.zero n)) hx fun i => by rw [T_not hn hx (InMk.zero n), T_zero]; simp
theorem id_one {n i : Nat} (hn : n ≤ 30) (hi : i < n) : nth (idL n) i = one i := by
  refine T_ext (id_T hn i hi).1 (InMk.one hn hi) fun j => ?_
  rw [Bool.eq_iff_iff, (id_T hn i hi).2 j, T_one (by omega), decide_eq_true_eq]

set_option maxHeartbeats 4000000 in
set_option maxRecDepth 100000 in
theorem l09Holds_10 (xs : List Int) (a : Option Addr) (cap : Nat) (w : World) (h8 : xs.length ≤ 8) (hr : Rel xs.length (nth xs)) (h : At w a xs.length xs) :
    Calls Try.prog 35 #[.agg #[.int .i64 xs.length, .slice a xs.length cap], .string ⟨#[86]⟩] w fun e w' => e = .returned (.bool (axB 10 xs)) ∧ Below w.heap.size w w' := by
  obtain ⟨W, hW, HB, X⟩ : ∃ W : World, W = w.alloc (.cells #[.int .i64 xs.length, .slice a xs.length cap] 31) ∧ Hid (Below w.heap.size w W) ∧ Hid (Bx W w.heap.size xs.length a xs.length cap) := ⟨_, rfl, Lib.hid (alloc_keep _ _).1, Lib.hid (Bx.new _ _ _ _ _ _)⟩
  have HW := Lib.hid hW
  have H := Lib.hid (h.keep HB.out (Nat.le_refl _))
  have HR := Lib.hid hr
  obtain ⟨n, hn⟩ : ∃ n, n = xs.length := ⟨_, rfl⟩
  have HN := Lib.hid hn
  rw [← hn] at X HW ⊢
  have h8' : n ≤ 8 := by omega
  clear h hW hr hn
  go_enter Try.func35, Try.ntmps35
  go_wp2
  go_loopw [5] (fun i wr => ∃ k : Nat, k ≤ n ∧ i = .int .i64 k ∧ Hid (allTo (fun i => bits .andNot .i64 (nth xs i) (nth (zL xs.length) i) == 0) k = true) ∧ Hid (∃ q, wr = W.drewN q)) (fun i _ => n - (intOf i).toNat)
  case atStart =>
    rw [← HW.out]
    exact ⟨0, Nat.zero_le _, rfl, Lib.hid rfl, Lib.hid ⟨0, rfl⟩⟩
  case round =>
    obtain ⟨k, hk, rfl, A, DR⟩ := hrel
    obtain ⟨q, rfl⟩ := DR.out
    clear DR
    by_cases hlt : k < n
    · obtain ⟨lt, x0, x1⟩ := X.out
      have hk2 : k < xs.length := by have := HN.out; omega
      obtain ⟨b, off, rfl, hb, hc⟩ := H.out.2.resolve_left (by omega)
      have g1 : W.cell? ⟨b, off + k, none⟩ = some (.int .i64 (nth xs k)) := hc k hk2
      have hkk : (k : Int) < (n : Int) := by omega
      have E : bits .andNot .i64 (nth xs k) (nth (zL xs.length) k) = nth xs k := by rw [z_T]; exact an_z (by omega) (HR.out k)
      obtain ⟨x, hx⟩ : ∃ x, x = nth xs k := ⟨_, rfl⟩
      rw [← hx] at g1
      by_cases hz : x = 0
      · have Q := Lib.hid (show allTo (fun i => bits .andNot .i64 (nth xs i) (nth (zL xs.length) i) == 0) (k + 1) = true from allTo_next A.out (by rw [E, ← hx, hz]; rfl))
        subst hz
        clear E hx hc
        go_wp2
        go_quiet (fail)
        go_wp2
        go_roundw
        case rel => exact ⟨k + 1, hlt, by go_num, Q, Lib.hid ⟨_, rfl⟩⟩
        case measure => simp [intOf]; omega
      · have Q := Lib.hid (show false = axB 10 xs from (allTo_false hk2 (by rw [E, ← hx]; simpa using hz)).symm)
        have hz2 : (x != 0) = true := by simpa using hz
        clear E hx hc
        go_wp2
        go_quiet (fail)
        go_wp2
        go_ret
        exact ⟨ret_bool Q.out, HB.out.trans ((below_drewN (below_drewN (Below.refl W.heap.size W) _) _).mono HB.out.size)⟩
    · obtain ⟨lt, x0, x1⟩ := X.out
      obtain rfl : k = n := by omega
      have Q := Lib.hid (show true = axB 10 xs by have q := A.out; rw [HN.out] at q; exact q.symm)
      go_wp2
      go_ret
      exact ⟨ret_bool Q.out, HB.out.trans ((below_drewN (Below.refl W.heap.size W) _).mono HB.out.size)⟩

set_option maxHeartbeats 4000000 in
set_option maxRecDepth 100000 in
theorem l09Holds_11 (xs : List Int) (a : Option Addr) (cap : Nat) (w : World) (h8 : xs.length ≤ 8) (hr : Rel xs.length (nth xs)) (h : At w a xs.length xs) :
    Calls Try.prog 35 #[.agg #[.int .i64 xs.length, .slice a xs.length cap], .string ⟨#[88]⟩] w fun e w' => e = .returned (.bool (axB 11 xs)) ∧ Below w.heap.size w w' := by
  obtain ⟨W, hW, HB, X⟩ : ∃ W : World, W = w.alloc (.cells #[.int .i64 xs.length, .slice a xs.length cap] 31) ∧ Hid (Below w.heap.size w W) ∧ Hid (Bx W w.heap.size xs.length a xs.length cap) := ⟨_, rfl, Lib.hid (alloc_keep _ _).1, Lib.hid (Bx.new _ _ _ _ _ _)⟩
  have HW := Lib.hid hW
  have H := Lib.hid (h.keep HB.out (Nat.le_refl _))
  have HR := Lib.hid hr
  obtain ⟨n, hn⟩ : ∃ n, n = xs.length := ⟨_, rfl⟩
  have HN := Lib.hid hn
  rw [← hn] at X HW ⊢
  have h8' : n ≤ 8 := by omega
  clear h hW hr hn
  go_enter Try.func35, Try.ntmps35
  go_wp2
  go_loopw [5] (fun i wr => ∃ k : Nat, k ≤ n ∧ i = .int .i64 k ∧ Hid (allTo (fun i => bits .andNot .i64 (nth xs i) (nth (idL xs.length) i) == 0) k = true) ∧ Hid (∃ q, wr = W.drewN q)) (fun i _ => n - (intOf i).toNat)
  case atStart =>
    rw [← HW.out]
    exact ⟨0, Nat.zero_le _, rfl, Lib.hid rfl, Lib.hid ⟨0, rfl⟩⟩
  case round =>
    obtain ⟨k, hk, rfl, A, DR⟩ := hrel
    obtain ⟨q, rfl⟩ := DR.out
    clear DR
    by_cases hlt : k < n
    · obtain ⟨lt, x0, x1⟩ := X.out
      have hk2 : k < xs.length := by have := HN.out; omega
      obtain ⟨b, off, rfl, hb, hc⟩ := H.out.2.resolve_left (by omega)
      have g1 : W.cell? ⟨b, off + k, none⟩ = some (.int .i64 (nth xs k)) := hc k hk2
      have hkk : (k : Int) < (n : Int) := by omega
      have E : nth (idL xs.length) k = one (k : Int) := id_one (by omega) hk2
      obtain ⟨x, hx⟩ : ∃ x, x = bits .andNot .i64 (nth xs k) (one (k : Int)) := ⟨_, rfl⟩
      by_cases hz : x = 0
      · have Q := Lib.hid (show allTo (fun i => bits .andNot .i64 (nth xs i) (nth (idL xs.length) i) == 0) (k + 1) = true from allTo_next A.out (by rw [E, ← hx, hz]; rfl))
        have hx2 : bits .andNot .i64 (nth xs k) (one (k : Int)) = 0 := by rw [← hx, hz]
        clear E hx hc hz
        go_wp2
        go_quiet ((go_at_call 59; exact q_same (l01One_any _ _ (by omega) (by omega)) rfl))
        go_wp2
        go_roundw
        case rel => exact ⟨k + 1, hlt, by go_num, Q, Lib.hid ⟨_, rfl⟩⟩
        case measure => simp [intOf]; omega
      · have Q := Lib.hid (show false = axB 11 xs from (allTo_false hk2 (by rw [E, ← hx]; simpa using hz)).symm)
        have hx2 : ¬ bits .andNot .i64 (nth xs k) (one (k : Int)) = 0 := by rw [← hx]; exact hz
        clear E hx hc hz
        go_wp2
        go_quiet ((go_at_call 59; exact q_same (l01One_any _ _ (by omega) (by omega)) rfl))
        go_wp2
        go_ret
        exact ⟨ret_bool Q.out, HB.out.trans ((below_drewN (below_drewN (Below.refl W.heap.size W) _) _).mono HB.out.size)⟩
    · obtain ⟨lt, x0, x1⟩ := X.out
      obtain rfl : k = n := by omega
      have Q := Lib.hid (show true = axB 11 xs by have q := A.out; rw [HN.out] at q; exact q.symm)
      go_wp2
      go_ret
      exact ⟨ret_bool Q.out, HB.out.trans ((below_drewN (Below.refl W.heap.size W) _).mono HB.out.size)⟩

end Go.Proofs.Ytbaeacppojpplaa
