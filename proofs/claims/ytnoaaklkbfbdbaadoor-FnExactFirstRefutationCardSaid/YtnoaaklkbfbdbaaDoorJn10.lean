/- 2 texts in one: Form, IsF. -/
import Derived.Deep.RegionWith
import Derived.RegionTactic
import Derived.BigRegion
import Derived.ChangeAlike
import Derived.Test.YtnoaaklkbfbdbaaDoorNodes
/- Contracts of the program's functions that read a list of nodes: is it a formula, where does a part end. Conditions: those in the theorems. -/
namespace Go.Proofs.YtnoaaklkbfbdbaaDoor
open Go.RowKit

set_option maxHeartbeats 400000 in
theorem partCount_any (k : Int) (w : World) : Calls Tryd.prog 67 #[.int .i64 k] w fun e w' => e = .returned (.int .i64 (prt k)) ∧ w = w' := by
  by_cases h : k = 2 ∨ k = 3 ∨ k = 4 ∨ k = 5 ∨ k = 6
  · rcases h with rfl | rfl | rfl | rfl | rfl
    all_goals
      go_enter Tryd.func67, Tryd.ntmps67
      go_wp2
      go_ret
      exact ⟨rfl, rfl⟩
  · have e2 : (k == 2) = false := by simp; omega
    have e3 : (k == 3) = false := by simp; omega
    have e4 : (k == 4) = false := by simp; omega
    have e5 : (k == 5) = false := by simp; omega
    have e6 : (k == 6) = false := by simp; omega
    have HP : Hid (prt k = 0) := by show prt k = 0; unfold prt; rw [if_neg (by omega), if_neg (by omega)]
    clear h
    go_enter Tryd.func67, Tryd.ntmps67
    go_wp2
    go_ret
    exact ⟨ret_int HP.out.symm, rfl⟩

def okN' (k s : Int) : Bool := if k = 0 then decide (0 ≤ s) && decide (s < 6) else decide (0 < k) && decide (k < 7) && decide (s = 0)
theorem okN_eq (k s : Int) : okN' k s = okN k s := by
  unfold okN' okN inB
  rw [Bool.eq_iff_iff]
  split
  · subst k; simp; omega
  · simp; omega

set_option maxHeartbeats 1000000 in
theorem isNode_any (k s : Int) (w : World) : Calls Tryd.prog 65 #[.agg #[.int .i64 k, .int .i64 s]] w fun e w' => e = .returned (.bool (okN k s)) ∧ Below w.heap.size w w' := by
  rw [← okN_eq]
  by_cases h0 : k = 0
  · subst h0
    have HE : Hid (okN' 0 s = (decide (0 ≤ s) && decide (s < 6))) := rfl
    by_cases h1 : 0 ≤ s
    · by_cases h2 : s < 6
      all_goals
        go_enter Tryd.func65, Tryd.ntmps65
        go_wp2
        go_ret
        exact ⟨ret_bool (by rw [HE.out]; simp <;> omega), (Below.refl _ _).alloc (Nat.le_refl _) _⟩
    · have h1' : decide (0 ≤ s) = false := by simpa using h1
      go_enter Tryd.func65, Tryd.ntmps65
      go_wp2
      go_ret
      exact ⟨ret_bool (by rw [HE.out]; simp <;> omega), (Below.refl _ _).alloc (Nat.le_refl _) _⟩
  · have HE : Hid (okN' k s = (decide (0 < k) && decide (k < 7) && decide (s = 0))) := by show okN' k s = _; unfold okN'; rw [if_neg h0]
    have h0' : (k == 0) = false := by simpa using h0
    by_cases h1 : 0 < k
    · by_cases h2 : k < 7
      · cases h3 : (s == 0)
        all_goals
          go_enter Tryd.func65, Tryd.ntmps65
          go_wp2
          go_ret
          exact ⟨ret_bool (by rw [HE.out]; simp at h3; simp [h1, h2, h3]), (Below.refl _ _).alloc (Nat.le_refl _) _⟩
      · have h2' : decide (k < 7) = false := by simpa using h2
        go_enter Tryd.func65, Tryd.ntmps65
        go_wp2
        go_ret
        exact ⟨ret_bool (by rw [HE.out, h2']; simp), (Below.refl _ _).alloc (Nat.le_refl _) _⟩
    · have h1' : decide (0 < k) = false := by simpa using h1
      go_enter Tryd.func65, Tryd.ntmps65
      go_wp2
      go_ret
      exact ⟨ret_bool (by rw [HE.out, h1']; simp), (Below.refl _ _).alloc (Nat.le_refl _) _⟩

end Go.Proofs.YtnoaaklkbfbdbaaDoor

/- Contract of the program's IsFormula: it answers as the model does, at every list of nodes of at most 2^20 nodes. -/
namespace Go.Proofs.YtnoaaklkbfbdbaaDoor
open Go.RowKit

/-- How many parts are missing behind k nodes. -/
def ms (xs : List Nd) : Nat → Int
  | 0 => 1
  | k + 1 => ms xs k - 1 + prt (kd xs k)
def runB (xs : List Nd) : Nat → Bool
  | 0 => true
  | k + 1 => runB xs k && (decide (0 < ms xs k) && okN (kd xs k) (sy xs k))
theorem ms_le (xs : List Nd) (k : Nat) : ms xs k ≤ 1 + k := by
  induction k with
  | zero => simp [ms]
  | succ k ih => have := prt_bd (kd xs k); rw [ms]; omega
theorem run_ge {xs : List Nd} {k : Nat} (h : runB xs k = true) : 0 ≤ ms xs k := by
  cases k with
  | zero => simp [ms]
  | succ k =>
    rw [runB] at h
    simp only [Bool.and_eq_true, decide_eq_true_eq] at h
    have := prt_bd (kd xs k)
    rw [ms]; omega
theorem run_tree {xs : List Nd} {k : Nat} (h : runB xs k = true) : treeTo xs k = true := by
  induction k with
  | zero => rfl
  | succ k ih =>
    rw [runB] at h
    simp only [Bool.and_eq_true] at h
    rw [treeTo, ih h.1, h.2.2]; rfl
theorem run_pe {xs : List Nd} {k len : Nat} (hk : k ≤ len) (h : runB xs k = true) : pe xs len 1 0 = pe xs (len - k) (ms xs k) k := by
  induction k with
  | zero => rfl
  | succ k ih =>
    rw [runB] at h
    simp only [Bool.and_eq_true, decide_eq_true_eq] at h
    rw [ih (by omega) h.1, show len - k = (len - (k + 1)) + 1 by omega, pe, if_neg (by omega), ms]
theorem is_big {xs : List Nd} {len : Nat} (h : 40 < len) : isB xs len = false := by rw [isB, decide_eq_false (by omega)]; rfl
theorem is_small {xs : List Nd} {len : Nat} (h : len ≤ 40) : isB xs len = treeB xs len := by rw [isB, decide_eq_true h, Bool.true_and]
theorem tree_stop {xs : List Nd} {k len : Nat} (hk : k < len) (h : runB xs k = true) (h0 : ms xs k = 0) : treeB xs len = false := by
  have hp := run_pe (Nat.le_of_lt hk) h
  have : pe xs len 1 0 = k := by rw [hp, h0, show len - k = (len - (k + 1)) + 1 by omega, pe, if_pos (by omega)]
  rw [treeB, this]
  have : ((k : Int) == (len : Int)) = false := by simp; omega
  rw [this, Bool.and_false]
theorem tree_end {xs : List Nd} {len : Nat} (h : runB xs len = true) : treeB xs len = (ms xs len == 0) := by
  have hp := run_pe (Nat.le_refl _) h
  have hg := run_ge h
  rw [treeB, run_tree h, hp, Nat.sub_self, pe]
  by_cases h0 : len = 0
  · subst h0; rfl
  rw [decide_eq_true (by omega : 0 < len)]
  by_cases hz : ms xs len = 0
  · rw [if_pos (by omega), hz]; simp
  · rw [if_neg (by omega)]
    have e1 : (ms xs len == 0) = false := by simpa using hz
    rw [e1]; simp
theorem run_step {xs : List Nd} {k : Nat} (h : runB xs k = true) (h0 : ms xs k ≠ 0) (hok : okN (kd xs k) (sy xs k) = true) : runB xs (k + 1) = true := by
  have := run_ge h
  rw [runB, h, hok, decide_eq_true (by omega : 0 < ms xs k)]; rfl

set_option maxHeartbeats 400000 in
theorem isF1_any (k s : Int) (w : World) : Calls Tryd.prog 66 #[.agg #[.int .i64 k, .int .i64 s]] w fun e w' => e = .returned (.int .i64 (prt k)) ∧ Below w.heap.size w w' := by
  go_enter Tryd.func66, Tryd.ntmps66
  go_wp2_with (go_at_call 67; refine (partCount_any _ _).mono ?_; rintro e w' ⟨rfl, rfl⟩)
  go_ret
  exact ⟨rfl, (Below.refl _ _).alloc (Nat.le_refl _) _⟩

set_option maxHeartbeats 1000000 in
theorem isTree_any (xs : List Nd) (a : Option Addr) (len cap : Nat) (w : World) (hl : len ≤ 1048576) (h : AtN w a len xs) :
    Calls Tryd.prog 64 #[.slice a len cap, .func (.func 65) #[] #[], .func (.func 66) #[] #[]] w fun e w' => e = .returned (.bool (treeB xs len)) ∧ Below w.heap.size w w' := by
  have H := Lib.hid h
  clear h
  go_enter Tryd.func64, Tryd.ntmps64
  go_wp2
  go_loopw [7, 12] (fun m i wr => ∃ k p : Nat, k ≤ len ∧ p ≤ 1 + k ∧ i = .int .i64 k ∧ m = .int .i64 p ∧ ms xs k = p ∧ runB xs k = true ∧ Below w.heap.size w wr) (fun _ i _ => len - (intOf i).toNat)
  case atStart => exact ⟨0, 1, Nat.zero_le _, by omega, rfl, rfl, rfl, rfl, Below.refl _ _⟩
  case round =>
    obtain ⟨k, p, hk, hp, rfl, rfl, hms, hrun, hbel⟩ := hrel
    have HM := Lib.hid hms
    have HR := Lib.hid hrun
    clear hms hrun
    by_cases hlt : k < len
    · obtain ⟨b, off, rfl, hb, hc⟩ := H.out.2.resolve_left (by omega)
      have hc1 : wr.cell? ⟨b, off + k * 2, none⟩ = some (.int .i64 (kd xs k)) := (hbel.cell (p := ⟨b, off + k * 2, none⟩) hb).trans (hc k hlt).1
      have hc2 : wr.cell? ⟨b, off + k * 2 + 1, none⟩ = some (.int .i64 (sy xs k)) := (hbel.cell (p := ⟨b, off + k * 2 + 1, none⟩) hb).trans (hc k hlt).2
      clear hc
      have hb2 := prt_bd (kd xs k)
      obtain ⟨q, hq⟩ := Int.eq_ofNat_of_zero_le hb2.1
      have hq2 : q ≤ 2 := by omega
      have HQ := Lib.hid hq
      clear hb2 hq
      by_cases hz : p = 0
      · subst hz
        have HF := Lib.hid (tree_stop hlt HR.out HM.out)
        go_wp2
        go_ret
        exact ⟨ret_bool HF.out.symm, hbel.alloc hbel.size _⟩
      · have hz' : ((p : Int) == 0) = false := by simp; omega
        cases hok : okN (kd xs k) (sy xs k)
        · have HF := Lib.hid (tree_bad hlt hok)
          go_wp2_with (go_at_call 65; refine (isNode_any _ _ _).mono ?_; rw [hok]; rintro e w1 ⟨rfl, hb1⟩)
          go_ret
          exact ⟨ret_bool HF.out.symm, (hbel.alloc hbel.size _).trans (hb1.mono (by have := hbel.size; simp; omega))⟩
        · have HS := Lib.hid (run_step HR.out (by rw [HM.out]; omega) hok)
          have hms2 : ms xs (k + 1) = ((p - 1 + q : Nat) : Int) := by rw [ms, HM.out, HQ.out]; omega
          have HM2 := Lib.hid hms2
          clear hms2
          go_wp2_with fail
          refine (isNode_any _ _ _).mono ?_
          rw [hok]
          rintro e w1 ⟨rfl, hb1⟩
          have hsz := hb1.size
          have hg1 : w1.cell? ⟨wr.heap.size, 0, none⟩ = some (.int .i64 (kd xs k)) := (hb1.cell (p := ⟨wr.heap.size, 0, none⟩) (by simp)).trans (World.cell?_alloc_at _ _ _ _ rfl)
          have hg2 : w1.cell? ⟨wr.heap.size, 1, none⟩ = some (.int .i64 (sy xs k)) := (hb1.cell (p := ⟨wr.heap.size, 1, none⟩) (by simp)).trans (World.cell?_alloc_at _ _ _ _ rfl)
          have hbel1 := (hbel.alloc hbel.size (.cells #[.int .i64 (kd xs k), .int .i64 (sy xs k)] 51)).trans (hb1.mono (by have := hbel.size; simp; omega))
          have HB1 := Lib.hid hbel1
          clear hbel1 hb1 hsz
          go_wp2_with fail
          refine (isF1_any _ _ _).mono ?_
          rw [HQ.out]
          rintro e w2 ⟨rfl, hb2⟩
          have HB2 := Lib.hid (HB1.out.trans (hb2.mono HB1.out.size))
          clear hb2
          go_wp2
          go_roundw
          case rel => exact ⟨k + 1, p - 1 + q, hlt, by omega, by go_num, by congr 1; omega, HM2.out, HS.out, HB2.out⟩
          case measure => simp [intOf]; omega
    · obtain rfl : k = len := by omega
      have HE := Lib.hid (tree_end HR.out)
      go_wp2
      go_ret
      exact ⟨ret_bool (by rw [HE.out, HM.out]), hbel⟩

set_option maxHeartbeats 1000000 in
theorem implIsF_any (xs : List Nd) (a : Option Addr) (len cap : Nat) (w : World) (hl : len ≤ 1048576) (h : AtN w a len xs) :
    Calls Tryd.prog 57 #[.slice a len cap] w fun e w' => e = .returned (.bool (isB xs len)) ∧ Below w.heap.size w w' := by
  have H := Lib.hid h
  clear h
  by_cases hbig : 40 < len
  · go_enter Tryd.func57, Tryd.ntmps57
    go_wp2
    go_ret
    exact ⟨ret_bool (is_big hbig).symm, Below.refl _ _⟩
  · have hs : len ≤ 40 := by omega
    have S := Lib.hid (is_small (xs := xs) hs)
    go_enter Tryd.func57, Tryd.ntmps57
    go_wp2_with (go_at_call 64; refine (isTree_any xs _ _ _ _ hl H.out).mono ?_; rintro e w' ⟨rfl, hb⟩)
    go_ret
    exact ⟨ret_bool S.out.symm, hb⟩

end Go.Proofs.YtnoaaklkbfbdbaaDoor
