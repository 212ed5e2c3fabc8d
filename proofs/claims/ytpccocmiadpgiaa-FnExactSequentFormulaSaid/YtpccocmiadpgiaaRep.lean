/- Contract of slices.Repeat at a list of one node. Conditions: those in the theorems. -/
import Derived.Test.YtpccocmiadpgiaaMul
import Derived.Test.YtpccocmiadpgiaaBend
namespace Go.Proofs.Ytpccocmiadpgiaa
open Go.RowKit Go.Deep

/-- j nodes x, then zeros. -/
def rpN (x : Nd) (n j : Nat) : List Nd := List.replicate j x ++ List.replicate (n - j) (0, 0)
theorem rpN_len (x : Nd) (n j : Nat) (h : j ≤ n) : (rpN x n j).length = n := by simp [rpN]; omega
theorem rpN_take (x : Nd) (n j : Nat) : (rpN x n j).take j = List.replicate j x := by simp [rpN]
theorem rpN_copy (x : Nd) (n j m : Nat) (hm : m ≤ j) : splN (rpN x n j) j ((rpN x n j).take j) m = rpN x n (j + m) := by
  unfold splN
  have e : (rpN x n j).drop (j + m) = List.replicate (n - (j + m)) (0, 0) := by
    rw [rpN, List.drop_append]
    simp
    omega
  rw [e, rpN_take, List.take_replicate, Nat.min_eq_left hm, ← List.append_assoc, List.replicate_append_replicate, rpN]
theorem rpN_first (x : Nd) (n m : Nat) (hm : m = Nat.min 1 n) : splN (rpN x n 0) 0 [x] m = rpN x n m := by
  unfold splN
  rcases Nat.eq_zero_or_pos n with rfl | h
  · obtain rfl : m = 0 := by rw [hm]; rfl
    rfl
  · obtain rfl : m = 1 := by rw [hm]; exact Nat.min_eq_left h
    have e : (rpN x n 0).drop (0 + 1) = List.replicate (n - 1) (0, 0) := by simp [rpN]
    rw [e]
    rfl

set_option maxHeartbeats 1000000 in
set_option maxRecDepth 100000 in
theorem repeat_any (k s : Int) (n : Nat) (a : Option Addr) (cap : Nat) (w : World) (hn : n ≤ 1048576) (h : AtN w a 1 [(k, s)]) :
    Calls Try.prog 56 #[.slice a 1 cap, .int .i64 n] w fun e w' => ∃ v, e = .returned v ∧ OwnN w' w.heap.size v (List.replicate n (k, s)) ∧ Below w.heap.size w w' := by
  obtain ⟨i0, hi, hz0, hz1, hz2⟩ := info_parts infoNd
  obtain ⟨b, off, rfl, hb, -⟩ := h.2.resolve_left (by omega)
  have H := Lib.hid h
  clear h
  go_enter Try.func56, Try.ntmps56
  have M := mul_small 1 n (by omega) (by omega)
  rw [Nat.one_mul] at M
  have hu : IntKind.u64.wrap (n : Int) = (n : Int) := by rw [IntKind.wrap_u64]; omega
  have hu2 : IntKind.i64.wrap (n : Int) = (n : Int) := by rw [IntKind.wrap_i64]; omega
  have hbig : ¬ (9223372036854775807 : Int) < (n : Int) := by omega
  go_wp2_with fail
  refine (M _).mono ?_
  rintro e w1 ⟨rfl, rfl⟩
  go_wp2_with (at_make; refine wpList_make_full _ rfl _ _ 32 rfl w1.heap.size 55 i0 (.agg #[.int .i64 0, .int .i64 0]) 2 Try.underlying32 hi hz0 hz1 _ _ _ _ n rfl rfl rfl rfl ?b2 ?b3 (Nat.le_refl _) ?_)
  case b2 => rw [hz2]; omega
  case b3 => unfold maxLen; omega
  intro w0 hown0 hgrow0
  clear hi hz0 hz1 hz2
  have ho0 : OwnN w0 w1.heap.size (.slice (some ⟨w1.heap.size, 0, none⟩) n n) (rpN (k, s) n 0) := by
    unfold OwnN
    rw [rpN_len _ _ _ (Nat.zero_le _)]
    rw [cellsN_made] at hown0
    simpa [rpN] using hown0
  have HO0 := Lib.hid ho0
  have B0 := Lib.hid ((Below.refl w1.heap.size w1).grown hgrow0 (Nat.le_refl _) (fun k h => by cases h))
  clear hown0 ho0 hgrow0
  have HA := Lib.hid (H.out.keep B0.out (Nat.le_refl _))
  obtain ⟨m, hm⟩ : ∃ m, m = Nat.min 1 n := ⟨_, rfl⟩
  have hmn : m ≤ n := by rw [hm]; exact Nat.min_le_right _ _
  have hm0 : n = 0 ∨ 0 < m := by
    rcases Nat.eq_zero_or_pos n with h | h
    · exact .inl h
    · right; rw [hm]; show 0 < min 1 n; omega
  have HM := Lib.hid hm
  clear hm
  go_wp2_with (refine list_copyN rfl _ _ rfl w1.heap.size w1.heap.size n n (rpN (k, s) n 0) HO0.out 0 n n rfl [(k, s)] b off 1 cap rfl HA.out m HM.out (by rw [Nat.zero_add]; exact hmn) ?_)
  intro w2 ho2 hg2
  rw [rpN_first _ _ _ HM.out] at ho2
  have B2 := Lib.hid (B0.out.grown hg2 B0.out.size (fun k h => by cases h; exact Nat.le_refl _))
  have O2 := Lib.hid ho2
  clear ho2 hg2 HO0 B0 HA HM M
  go_wp2
  go_loopw [8] (fun v wr => ∃ j : Nat, j ≤ n ∧ (n = 0 ∨ 0 < j) ∧ v = .int .i64 j ∧ OwnN wr w1.heap.size (.slice (some ⟨w1.heap.size, 0, none⟩) n n) (rpN (k, s) n j) ∧ Below w1.heap.size w1 wr) (fun v _ => n - (intOf v).toNat)
  case atStart => exact ⟨m, hmn, hm0, rfl, O2.out, B2.out⟩
  case round =>
    obtain ⟨j, hj, hj0, rfl, hown, hbel⟩ := hrel
    have O := Lib.hid hown
    have B := Lib.hid hbel
    clear hown hbel
    by_cases hlt : j < n
    · have hz1 : (j : Int) ≤ (n : Int) := by omega
      have hz0 : (0 : Int) ≤ (j : Int) := by omega
      have hne : ¬ n = j := by omega
      have hat : AtN wr (some ⟨w1.heap.size, 0, none⟩) j ((rpN (k, s) n j).take j) := by
        obtain ⟨a1, c1, hv, at1, -⟩ := O.out.at
        rw [rpN_len _ _ _ hj] at hv at1
        simp only [Value.slice.injEq] at hv
        rw [← hv.1] at at1
        have := at1.sub 0 j (by omega)
        simpa using this
      have A := Lib.hid hat
      clear hat
      obtain ⟨q, hq⟩ : ∃ q, q = Nat.min j (n - j) := ⟨_, rfl⟩
      have hq1 : q ≤ j := by rw [hq]; exact Nat.min_le_left _ _
      have hq2 : q ≤ n - j := by rw [hq]; exact Nat.min_le_right _ _
      have hq3 : 0 < q := by rw [hq]; show 0 < min j (n - j); omega
      have HQ := Lib.hid hq
      clear hq
      go_wp2
      go_region_law (refine step_copyN rfl _ _ rfl w1.heap.size w1.heap.size n n (rpN (k, s) n j) O.out.drew j (n - j) (n - j) (by go_simp) ((rpN (k, s) n j).take j) w1.heap.size 0 j n (by go_simp) A.out.drew q HQ.out (by omega) ?_; intro w4 ho4 hg4)
      all_goals
        rw [rpN_copy _ _ _ _ hq1] at ho4
        have O4 := Lib.hid ho4
        have B4 := Lib.hid (B.out.drew.grown hg4 B.out.drew.size (fun k h => by cases h; exact Nat.le_refl _))
        clear ho4 hg4
        have hw2 : IntKind.i64.wrap ((j : Int) + (q : Int)) = (j : Int) + (q : Int) := by rw [IntKind.wrap_i64]; omega
        go_simp
        go_wp2
        go_roundw
        case rel => exact ⟨j + q, by omega, by omega, by simp, O4.out, B4.out⟩
        case measure => simp [intOf]; omega
    · obtain rfl : j = n := by omega
      go_wp2
      go_ret
      exact ⟨_, rfl, by have := O.out; simpa [rpN] using this, B.out⟩

end Go.Proofs.Ytpccocmiadpgiaa
