/- Contracts of PullValues of the model and of the program, told by values. Conditions: those in the theorems. -/
import Derived.Test.YtomldealpmohhaaThP
import Derived.Test.YtomldealpmohhaaIx2
namespace Go.Proofs.Ytomldealpmohhaa
open Go.RowKit

def pvK (n0 : Int) (xs : List Int) (n1 : Int) (ps ls ys : List Int) : Bool := imK n0 xs n1 ps ls && mksTo n1 ys ys.length
def pvC (n0 : Int) (xs : List Int) (n1 : Int) (ps ls ys : List Int) : Int := if pvK n0 xs n1 ps ls ys then 0 else 1
def pvL (n0 : Int) (xs : List Int) (n1 : Int) (ps ls ys : List Int) : List Int := if pvK n0 xs n1 ps ls ys && decide (ys.length ≤ 1048576) then plL ls ys else []
theorem pv_bad {n0 n1 : Int} {xs ps ls ys : List Int} (h : pvK n0 xs n1 ps ls ys = false) : pvC n0 xs n1 ps ls ys = 1 ∧ pvL n0 xs n1 ps ls ys = [] := by rw [pvC, pvL, h]; exact ⟨rfl, rfl⟩
theorem pv_ok {n0 n1 : Int} {xs ps ls ys : List Int} (h : pvK n0 xs n1 ps ls ys = true) (hy : ys.length ≤ 1048576) : pvC n0 xs n1 ps ls ys = 0 ∧ pvL n0 xs n1 ps ls ys = plL ls ys := by rw [pvC, pvL, h, decide_eq_true hy]; exact ⟨rfl, rfl⟩
theorem PullValues_len (n0 : Int) (xs : List Int) (n1 : Int) (ps ls ys : List Int) : (pvL n0 xs n1 ps ls ys).length ≤ 1048576 := by
  unfold pvL
  split
  · rename_i h
    rw [Bool.and_eq_true, decide_eq_true_eq] at h
    rw [plL_len]; exact h.2
  · simp

/-! The masks. -/
set_option maxHeartbeats 1000000 in
theorem l08Pull_any (ls ys : List Int) (n : Nat) (a : Option Addr) (cap : Nat) (b : Option Addr) (d : Nat) (w : World) (hl : ls.length ≤ 30) (hn : n ≤ 30) (hok : LsOk n ls) (hy : ys.length ≤ 1048576) (h : At w a ls.length ls) (h' : At w b ys.length ys) :
    Calls Try.prog 81 #[.slice a ls.length cap, .slice b ys.length d] w fun e w' => ∃ v, e = .returned v ∧ Own w' w.heap.size v (plL ls ys) ∧ Below w.heap.size w w' := by
  have H := Lib.hid h
  have H' := Lib.hid h'
  have OK := Lib.hid hok
  clear h h' hok
  go_enter Try.func81, Try.ntmps81
  go_wp2
  go_loopw [5, 6] (fun v i wr => ∃ k : Nat, k ≤ ys.length ∧ i = .int .i64 k ∧ Hid (wr.ownsRow w.heap.size 2 1 v k ((tab k (fun t => sqTo ls (nth ys t) ls.length)).map (Value.int .i64))) ∧ Hid (Below w.heap.size w wr)) (fun _ i _ => ys.length - (intOf i).toNat)
  case atStart => exact ⟨0, Nat.zero_le _, rfl, Lib.hid (World.ownsRow_lit w #[] 0 (Nat.le_refl _) (by unfold maxLen; omega) rfl), Lib.hid ((Below.refl _ _).alloc (Nat.le_refl _) _)⟩
  case round =>
    obtain ⟨k, hk, rfl, O, B⟩ := hrel
    have hsz := B.out.size
    by_cases hlt : k < ys.length
    · obtain ⟨b', off', rfl, hb', hc'⟩ := (H'.out.keep B.out (Nat.le_refl _)).2.resolve_left (by omega)
      have hcy := hc' k hlt
      have AL := Lib.hid (H.out.keep B.out (Nat.le_refl _))
      obtain ⟨y, hy0⟩ : ∃ y, y = nth ys k := ⟨_, rfl⟩
      rw [← hy0] at hcy
      have Y := Lib.hid hy0
      have hky : (k : Int) < (ys.length : Int) := by omega
      clear hc' hy0
      go_wp2
      go_loopw [7, 8] (fun s i wq => ∃ j q : Nat, j ≤ ls.length ∧ i = .int .i64 j ∧ s = .int .i64 (sqTo ls y j) ∧ wq = wr.drewN q) (fun _ i _ => ls.length - (intOf i).toNat)
      case atStart => exact ⟨0, 0, Nat.zero_le _, rfl, rfl, rfl⟩
      case round =>
        obtain ⟨j, q, hj, rfl, rfl, rfl⟩ := hrel
        by_cases hjt : j < ls.length
        · obtain ⟨b0, o0, rfl, hb0, hc0⟩ := AL.out.2.resolve_left (by omega)
          obtain ⟨p, hp, hpn⟩ := OK.out j hjt
          have hcl := hc0 j hjt
          rw [hp] at hcl
          have HP := Lib.hid hp
          have hjl : (j : Int) < (ls.length : Int) := by omega
          clear hc0 hp
          cases hb : bitB y (p : Int)
          all_goals
            have HB := Lib.hid hb
            go_wp2
            go_quiet ((go_at_call 52; exact q_same ((l01Bit_any _ _ _ (by omega) (by omega)).mono fun _ _ h => ⟨h.1.trans (ret_bool HB.out), h.2⟩) rfl))
            go_wp2_with (go_at_call 66; refine (l01One_any _ _ (by omega) (by omega)).mono ?_; rintro e w' ⟨rfl, rfl⟩)
            go_roundw
            case rel => exact ⟨j + 1, _, hjt, by go_num, by simp only [sqTo, HP.out, HB.out]; rfl, rfl⟩
            case measure => simp [intOf]; omega
        · obtain rfl : j = ls.length := by omega
          have OQ := Lib.hid (show (wr.drewN q).ownsRow w.heap.size 2 1 _ k ((tab k (fun t => sqTo ls (nth ys t) ls.length)).map (Value.int .i64)) from O.out)
          go_wp2_with (at_builtin; refine list_app1 rfl _ _ rfl w.heap.size _ k _ rfl (OQ.out.alloc _) ⟨wr.heap.size, 0, none⟩ 1 _ rfl (World.cell?_alloc_at _ _ _ _ rfl) (by omega) (by simp; omega) ?_; intro v' w1' hown1 hgr1)
          have hbel := Lib.hid (below_app B.out ((below_drewN (Below.refl _ _) q).alloc hsz _) hsz O.out hgr1)
          clear hgr1
          go_roundw
          case rel => exact ⟨k + 1, hlt, by go_num, Lib.hid (by rw [tab_next, List.map_append]; rw [Y.out] at hown1; exact hown1), hbel⟩
          case measure => simp [intOf]; omega
    · obtain rfl : k = ys.length := by omega
      have O5 := Lib.hid (show Own wr w.heap.size _ (plL ls ys) from by have := O.out; unfold Own; rw [plL_len]; exact this)
      go_wp2
      go_ret
      exact ⟨_, rfl, O5.out, B.out⟩

set_option maxHeartbeats 1000000 in
theorem pulled_any (ls ys : List Int) (n : Nat) (a : Option Addr) (cap : Nat) (b : Option Addr) (d : Nat) (w : World) (hl : ls.length ≤ 30) (hn : n ≤ 30) (hok : LsOk n ls) (hy : ys.length ≤ 1048576) (h : At w a ls.length ls) (h' : At w b ys.length ys) :
    Calls Try.prog 84 #[.slice a ls.length cap, .slice b ys.length d] w fun e w' => ∃ v, e = .returned v ∧ Own w' w.heap.size v (plL ls ys) ∧ Below w.heap.size w w' := by
  have PI := Lib.hid (fun x w (hat : At w a ls.length ls) => placesIn_any ls x n a ls.length cap w hl hn hok hat)
  have hmk := fun (W : World) => run_make_row' (P := Try.prog) 22 2 (.int .i64 0) 8 Try.underlying22 info64 rfl .i64 .i64 ys.length (by omega) (by omega) W
  have H := Lib.hid h
  have H' := Lib.hid h'
  have R0 := Lib.hid (World.rowIs_made w (.int .i64 0) ys.length 2)
  clear h h' hok
  go_enter Try.func84, Try.ntmps84
  go_wp2
  clear hmk
  go_loopw [13] (fun i wr => ∃ k : Nat, k ≤ ys.length ∧ i = .int .i64 k ∧ Hid (wr.rowIs w.heap.size 2 ys.length (fun t => .int .i64 (upS (fun t => sqTo ls (nth ys t) ls.length) k t))) ∧ Hid (Below w.heap.size w wr)) (fun i _ => ys.length - (intOf i).toNat)
  case atStart => exact ⟨0, Nat.zero_le _, rfl, Lib.hid (R0.out.congr fun t _ => by rw [upS_start]), Lib.hid (alloc_keep _ _).1⟩
  case round =>
    obtain ⟨k, hk, rfl, R, B⟩ := hrel
    by_cases hlt : k < ys.length
    · obtain ⟨b', off', rfl, hb', hc'⟩ := (H'.out.keep B.out (Nat.le_refl _)).2.resolve_left (by omega)
      have hcy := hc' k hlt
      have AL := Lib.hid (H.out.keep B.out (Nat.le_refl _))
      have hcg : wr.cell? ⟨w.heap.size, k, none⟩ = some (.int .i64 (upS (fun t => sqTo ls (nth ys t) ls.length) k k)) := R.out.cell hlt
      have hfg : wr.frozen? ⟨w.heap.size, k, none⟩ = false := R.out.frozen k
      clear hc'
      go_wp2_with (go_at_call 100; refine (PI.out _ _ AL.out).mono ?_; rintro e w' ⟨rfl, rfl⟩)
      go_roundw
      case rel => exact ⟨k + 1, hlt, by go_num, Lib.hid (row_setI R.out (fun t => upS_set rfl t)), Lib.hid (B.out.setCell (p := ⟨w.heap.size, k, none⟩) (Nat.le_refl _) _)⟩
      case measure => simp [intOf]; omega
    · obtain rfl : k = ys.length := by omega
      have O5 := Lib.hid (show Own wr w.heap.size _ (plL ls ys) from own_of_row (F := fun t => sqTo ls (nth ys t) ls.length) (B := w.heap.size) (Nat.le_refl _) (by omega) (R.out.congr fun t ht => by rw [upS_all ht]))
      go_wp2
      go_ret
      exact ⟨_, rfl, O5.out, B.out⟩

theorem pvl1_any (x n1 : Int) (R : Nat) (w : World) (hn : 0 ≤ n1) (hn2 : n1 ≤ 30) (h : w.cell? ⟨R, 0, none⟩ = some (.int .i64 n1)) :
    Calls Try.prog 82 #[.int .i64 x, .pointer (some ⟨R, 0, none⟩)] w fun e w' => e = .returned (.bool (!(mskB n1 x))) ∧ w = w' := by
  go_enter Try.func82, Try.ntmps82
  go_wp2_with (go_at_call 61; refine (isMaskWithin_any _ _ _ hn hn2).mono ?_; rintro e w' ⟨rfl, rfl⟩)
  go_ret
  exact ⟨rfl, rfl⟩

end Go.Proofs.Ytomldealpmohhaa
