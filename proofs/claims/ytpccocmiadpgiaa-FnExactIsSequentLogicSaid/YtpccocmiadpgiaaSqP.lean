/- The logics with sequents: the program's table, its search in it, and IsSequentLogic. Conditions: those in the theorems. -/
import Derived.Test.YtpccocmiadpgiaaSqM
namespace Go.Proofs.Ytpccocmiadpgiaa
open Go.RowKit

def sqR : Array Value := #[.string (stx [68]), .bool false, .bool true, .bool true, .bool false, .bool false, .bool false, .string (stx [71, 76]), .bool false, .bool false, .bool true, .bool true, .bool false, .bool true, .string (stx [75]), .bool false, .bool false, .bool true, .bool false, .bool false, .bool false, .string (stx [75, 52]), .bool false, .bool false, .bool true, .bool true, .bool false, .bool false, .string (stx [83, 52]), .bool true, .bool false, .bool false, .bool true, .bool false, .bool false, .string (stx [83, 53]), .bool true, .bool false, .bool false, .bool false, .bool true, .bool false, .string (stx [84]), .bool true, .bool false, .bool true, .bool false, .bool false, .bool false]
/-- The table of the logics with sequents lies in block b. -/
def TbQ (w : World) (b : Nat) : Prop := b < w.heap.size ∧ ∀ j, j < 7 → w.cell? ⟨b, j * 7, none⟩ = some (.string (stx (nthS sqN j))) ∧ ∀ i, i < 6 → w.cell? ⟨b, j * 7 + (1 + i), none⟩ = some (.bool (sqB j i))
theorem TbQ.keep {w w' : World} {b : Nat} (h : TbQ w b) (hb : Below w.heap.size w w') : TbQ w' b :=
  ⟨Nat.lt_of_lt_of_le h.1 hb.size, fun j hj => ⟨(hb.cell (p := ⟨b, j * 7, none⟩) h.1).trans (h.2 j hj).1, fun i hi => (hb.cell (p := ⟨b, j * 7 + (1 + i), none⟩) h.1).trans ((h.2 j hj).2 i hi)⟩⟩
theorem sqR_0 : ∀ j, j < 7 → sqR[j * 7]? = some (.string (stx (nthS sqN j)))
  | 0, _ => rfl | 1, _ => rfl | 2, _ => rfl | 3, _ => rfl | 4, _ => rfl | 5, _ => rfl | 6, _ => rfl
theorem sqR_1 : ∀ j, j < 7 → ∀ i, i < 6 → sqR[j * 7 + (1 + i)]? = some (.bool (sqB j i)) := by
  intro j hj i hi
  have hj : j = 0 ∨ j = 1 ∨ j = 2 ∨ j = 3 ∨ j = 4 ∨ j = 5 ∨ j = 6 := by omega
  have hi : i = 0 ∨ i = 1 ∨ i = 2 ∨ i = 3 ∨ i = 4 ∨ i = 5 := by omega
  rcases hj with rfl | rfl | rfl | rfl | rfl | rfl | rfl <;> rcases hi with rfl | rfl | rfl | rfl | rfl | rfl <;> rfl

theorem tbq_of (w : World) (T : TypeId) : TbQ (w.alloc (.cells sqR T)) w.heap.size ∧ Below w.heap.size w (w.alloc (.cells sqR T)) := by
  refine ⟨⟨by simp [World.alloc_eq], fun j hj => ⟨?_, fun i hi => ?_⟩⟩, (Below.refl _ _).alloc (Nat.le_refl _) _⟩
  · exact (World.cell?_alloc_new w sqR T (j * 7)).trans (sqR_0 j hj)
  · exact (World.cell?_alloc_new w sqR T (j * 7 + (1 + i))).trans (sqR_1 j hj i hi)

set_option maxHeartbeats 2000000 in
theorem sequentLogicTable_any (w : World) : Calls Try.prog 36 #[] w fun e w' => ∃ b, e = .returned (.slice (some ⟨b, 0, none⟩) 7 7) ∧ w.heap.size ≤ b ∧ TbQ w' b ∧ Below w.heap.size w w' := by
  go_enter Try.func36, Try.ntmps36
  go_wp2
  go_ret
  exact ⟨w.heap.size, rfl, Nat.le_refl _, (tbq_of w _).1, (tbq_of w _).2⟩

/-- The number of a logic among those with sequents; 7: it is none of them. -/
def sqJ (s : ByteArray) : Nat := if fdV sqN s = -1 then 7 else (fdV sqN s).toNat
def sqI (s : ByteArray) : Int := if fdV sqN s = -1 then 0 else fdV sqN s
def sqC (s : ByteArray) : Int := if fdV sqN s = -1 then 4 else 0
def sqK (s : ByteArray) : Int := if fdV sqN s = -1 then 2 else 0
/-- The flags of a logic as a value. -/
def sqA (j : Nat) : Value := .agg #[.bool (sqB j 0), .bool (sqB j 1), .bool (sqB j 2), .bool (sqB j 3), .bool (sqB j 4), .bool (sqB j 5)]

set_option maxHeartbeats 4000000 in
theorem findQ_any (s : ByteArray) (b : Nat) (w : World) (h : TbQ w b) :
    Calls Try.prog 50 #[.slice (some ⟨b, 0, none⟩) 7 7, .string s] w fun e w' => e = .returned (.tuple #[.int .i64 (sqI s), .int .i64 (sqC s)]) ∧ Below w.heap.size w w' := by
  have H := Lib.hid h
  have hbs := h.1
  clear h
  go_enter Try.func50, Try.ntmps50
  go_wp2
  go_loopw [10] (fun i wr => ∃ k : Nat, k ≤ 7 ∧ i = .int .i64 k ∧ Hid (fdF (sqN.drop k) s (k : Int) = fdV sqN s) ∧ Hid (Below w.heap.size w wr)) (fun i _ => 7 - (intOf i).toNat)
  case atStart => exact ⟨0, by omega, rfl, Lib.hid rfl, Lib.hid (Below.refl _ _)⟩
  case round =>
    obtain ⟨k, hk, rfl, HF, HB⟩ := hrel
    by_cases hlt : k < 7
    · obtain ⟨t, ht⟩ : ∃ t, t = stx (nthS sqN k) := ⟨_, rfl⟩
      obtain ⟨c, hc⟩ : ∃ c : Nat → Bool, c = sqB k := ⟨_, rfl⟩
      obtain ⟨h1, h2⟩ := H.out.2 k hlt
      rw [← ht] at h1
      rw [← hc] at h2
      have g0 : wr.cell? ⟨b, k * 7, none⟩ = some (.string t) := (HB.out.cell (p := ⟨b, k * 7, none⟩) hbs).trans h1
      have g1 : wr.cell? ⟨b, k * 7 + 1, none⟩ = some (.bool (c 0)) := (HB.out.cell (p := ⟨b, k * 7 + 1, none⟩) hbs).trans (h2 0 (by omega))
      have g2 : wr.cell? ⟨b, k * 7 + 2, none⟩ = some (.bool (c 1)) := (HB.out.cell (p := ⟨b, k * 7 + 2, none⟩) hbs).trans (h2 1 (by omega))
      have g3 : wr.cell? ⟨b, k * 7 + 3, none⟩ = some (.bool (c 2)) := (HB.out.cell (p := ⟨b, k * 7 + 3, none⟩) hbs).trans (h2 2 (by omega))
      have g4 : wr.cell? ⟨b, k * 7 + 4, none⟩ = some (.bool (c 3)) := (HB.out.cell (p := ⟨b, k * 7 + 4, none⟩) hbs).trans (h2 3 (by omega))
      have g5 : wr.cell? ⟨b, k * 7 + 5, none⟩ = some (.bool (c 4)) := (HB.out.cell (p := ⟨b, k * 7 + 5, none⟩) hbs).trans (h2 4 (by omega))
      have g6 : wr.cell? ⟨b, k * 7 + 6, none⟩ = some (.bool (c 5)) := (HB.out.cell (p := ⟨b, k * 7 + 6, none⟩) hbs).trans (h2 5 (by omega))
      have ST := HF.out
      rw [fd_step (by show k < 7; omega), ← ht] at ST
      have ST := Lib.hid ST
      clear ht hc h1 h2
      have B2 := Lib.hid (HB.out.alloc HB.out.size (.cells #[.string t, .bool (c 0), .bool (c 1), .bool (c 2), .bool (c 3), .bool (c 4), .bool (c 5)] 68))
      by_cases e : t = s
      · subst e
        have R := Lib.hid (show Ending.returned (.tuple #[.int .i64 (k : Int), .int .i64 0]) = .returned (.tuple #[.int .i64 (sqI t), .int .i64 (sqC t)]) by have q := ST.out; rw [if_pos rfl] at q; rw [sqI, sqC, ← q, if_neg (by omega), if_neg (by omega)])
        clear ST HF HB
        go_wp2
        go_ret2
        exact ⟨R.out, B2.out⟩
      · have R := Lib.hid (show fdF (sqN.drop (k + 1)) s ((k + 1 : Nat) : Int) = fdV sqN s by have q := ST.out; rwa [if_neg e] at q)
        have en := bs_no e
        go_wp2
        go_roundw
        case rel => exact ⟨k + 1, hlt, by go_num, R, B2⟩
        case measure => simp [intOf]; omega
    · obtain rfl : k = 7 := by omega
      have R := Lib.hid (show (-1 : Int) = fdV sqN s by have q := HF.out; exact q)
      go_wp2
      go_ret2
      exact ⟨by rw [sqI, sqC, ← R.out]; rfl, HB.out⟩

theorem sqA7 : sqA 7 = .agg #[.bool false, .bool false, .bool false, .bool false, .bool false, .bool false] := rfl
/-- A box of six flags that are not set. -/
def Zq (w : World) (b : Nat) : Prop := b < w.heap.size ∧ ∀ i, i < 6 → w.cell? ⟨b, i, none⟩ = some (.bool false) ∧ w.frozen? ⟨b, i, none⟩ = false
theorem Zq.keep {w w' : World} {b : Nat} (h : Zq w b) (hb : Below w.heap.size w w') : Zq w' b :=
  ⟨Nat.lt_of_lt_of_le h.1 hb.size, fun i hi => ⟨(hb.cell (p := ⟨b, i, none⟩) h.1).trans (h.2 i hi).1, (hb.frozen (p := ⟨b, i, none⟩) h.1).trans (h.2 i hi).2⟩⟩
theorem Zq.new (w : World) (T : TypeId) : Zq (w.alloc (.cells #[.bool false, .bool false, .bool false, .bool false, .bool false, .bool false] T)) w.heap.size := by
  refine ⟨by simp, fun i hi => ⟨(World.cell?_alloc_new w _ T i).trans ?_, by simp⟩⟩
  have hi : i = 0 ∨ i = 1 ∨ i = 2 ∨ i = 3 ∨ i = 4 ∨ i = 5 := by omega
  rcases hi with rfl | rfl | rfl | rfl | rfl | rfl <;> rfl
theorem Zq.six {w : World} {b : Nat} (h : Zq w b) : w.cell? ⟨b, 0, none⟩ = some (.bool false) ∧ w.cell? ⟨b, 1, none⟩ = some (.bool false) ∧ w.cell? ⟨b, 2, none⟩ = some (.bool false) ∧ w.cell? ⟨b, 3, none⟩ = some (.bool false) ∧ w.cell? ⟨b, 4, none⟩ = some (.bool false) ∧ w.cell? ⟨b, 5, none⟩ = some (.bool false) ∧ w.frozen? ⟨b, 0, none⟩ = false ∧ w.frozen? ⟨b, 1, none⟩ = false ∧ w.frozen? ⟨b, 2, none⟩ = false ∧ w.frozen? ⟨b, 3, none⟩ = false ∧ w.frozen? ⟨b, 4, none⟩ = false ∧ w.frozen? ⟨b, 5, none⟩ = false :=
  ⟨(h.2 0 (by omega)).1, (h.2 1 (by omega)).1, (h.2 2 (by omega)).1, (h.2 3 (by omega)).1, (h.2 4 (by omega)).1, (h.2 5 (by omega)).1, (h.2 0 (by omega)).2, (h.2 1 (by omega)).2, (h.2 2 (by omega)).2, (h.2 3 (by omega)).2, (h.2 4 (by omega)).2, (h.2 5 (by omega)).2⟩
theorem set6 {w w' : World} {B b : Nat} {c0 c1 c2 c3 c4 c5 : Value} (hb : Below B w w') (hB : B ≤ b) : Below B w ((((((w'.setCell ⟨b, 0, none⟩ c0).setCell ⟨b, 1, none⟩ c1).setCell ⟨b, 2, none⟩ c2).setCell ⟨b, 3, none⟩ c3).setCell ⟨b, 4, none⟩ c4).setCell ⟨b, 5, none⟩ c5) :=
  (((((hb.setCell (by exact hB) _).setCell (by exact hB) _).setCell (by exact hB) _).setCell (by exact hB) _).setCell (by exact hB) _).setCell (by exact hB) _
theorem cells6 {w1 : World} {b : Nat} {c0 c1 c2 c3 c4 c5 : Value} (h : Zq w1 b) (o : Obj) : (((((((w1.setCell ⟨b, 0, none⟩ c0).setCell ⟨b, 1, none⟩ c1).setCell ⟨b, 2, none⟩ c2).setCell ⟨b, 3, none⟩ c3).setCell ⟨b, 4, none⟩ c4).setCell ⟨b, 5, none⟩ c5).alloc o).cell? ⟨b, 0, none⟩ = some c0 ∧ (((((((w1.setCell ⟨b, 0, none⟩ c0).setCell ⟨b, 1, none⟩ c1).setCell ⟨b, 2, none⟩ c2).setCell ⟨b, 3, none⟩ c3).setCell ⟨b, 4, none⟩ c4).setCell ⟨b, 5, none⟩ c5).alloc o).cell? ⟨b, 1, none⟩ = some c1 ∧ (((((((w1.setCell ⟨b, 0, none⟩ c0).setCell ⟨b, 1, none⟩ c1).setCell ⟨b, 2, none⟩ c2).setCell ⟨b, 3, none⟩ c3).setCell ⟨b, 4, none⟩ c4).setCell ⟨b, 5, none⟩ c5).alloc o).cell? ⟨b, 2, none⟩ = some c2 ∧ (((((((w1.setCell ⟨b, 0, none⟩ c0).setCell ⟨b, 1, none⟩ c1).setCell ⟨b, 2, none⟩ c2).setCell ⟨b, 3, none⟩ c3).setCell ⟨b, 4, none⟩ c4).setCell ⟨b, 5, none⟩ c5).alloc o).cell? ⟨b, 3, none⟩ = some c3 ∧ (((((((w1.setCell ⟨b, 0, none⟩ c0).setCell ⟨b, 1, none⟩ c1).setCell ⟨b, 2, none⟩ c2).setCell ⟨b, 3, none⟩ c3).setCell ⟨b, 4, none⟩ c4).setCell ⟨b, 5, none⟩ c5).alloc o).cell? ⟨b, 4, none⟩ = some c4 ∧ (((((((w1.setCell ⟨b, 0, none⟩ c0).setCell ⟨b, 1, none⟩ c1).setCell ⟨b, 2, none⟩ c2).setCell ⟨b, 3, none⟩ c3).setCell ⟨b, 4, none⟩ c4).setCell ⟨b, 5, none⟩ c5).alloc o).cell? ⟨b, 5, none⟩ = some c5 := by
  obtain ⟨z0, z1, z2, z3, z4, z5, f0, f1, f2, f3, f4, f5⟩ := h.six
  have q1 := h.1
  obtain ⟨W, hW⟩ : ∃ W, W = ((((((w1.setCell ⟨b, 0, none⟩ c0).setCell ⟨b, 1, none⟩ c1).setCell ⟨b, 2, none⟩ c2).setCell ⟨b, 3, none⟩ c3).setCell ⟨b, 4, none⟩ c4).setCell ⟨b, 5, none⟩ c5) := ⟨_, rfl⟩
  have hs : b < W.heap.size := by rw [hW]; simpa [World.setCell] using q1
  have key : ∀ i v, W.cell? ⟨b, i, none⟩ = some v → (W.alloc o).cell? ⟨b, i, none⟩ = some v := fun i v e => (((Below.refl W.heap.size W).alloc (Nat.le_refl _) o).cell (p := ⟨b, i, none⟩) hs).trans e
  rw [← hW]
  refine ⟨key 0 c0 ?_, key 1 c1 ?_, key 2 c2 ?_, key 3 c3 ?_, key 4 c4 ?_, key 5 c5 ?_⟩ <;> (rw [hW]; simp [go_sem, z0, z1, z2, z3, z4, z5])

set_option maxHeartbeats 4000000 in
theorem entryQ_any (s : ByteArray) (b : Nat) (w : World) (h : TbQ w b) :
    Calls Try.prog 37 #[.slice (some ⟨b, 0, none⟩) 7 7, .string s] w fun e w' => e = .returned (.tuple #[sqA (sqJ s), .int .i64 (sqC s)]) ∧ Below w.heap.size w w' := by
  have hbs := h.1
  have Z0 := Zq.new w 40
  have T0 := h.keep ((Below.refl _ _).alloc (Nat.le_refl _) (.cells #[.bool false, .bool false, .bool false, .bool false, .bool false, .bool false] 40))
  have b0 : Below w.heap.size w (w.alloc (.cells #[.bool false, .bool false, .bool false, .bool false, .bool false, .bool false] 40)) := (Below.refl _ _).alloc (Nat.le_refl _) _
  have HT := Lib.hid T0
  have HZ := Lib.hid Z0
  have HB := Lib.hid b0
  clear T0 Z0 b0
  rcases fd_cases sqN s with e0 | ⟨i, hi, hs, e0⟩
  · have E1 := Lib.hid (show sqI s = 0 by rw [sqI, if_pos e0])
    have E2 := Lib.hid (show sqC s = 4 by rw [sqC, if_pos e0])
    have E3 := Lib.hid (show sqJ s = 7 by rw [sqJ, if_pos e0])
    clear h e0
    go_enter Try.func37, Try.ntmps37
    go_wp2_with fail
    refine (findQ_any s b _ HT.out).mono ?_
    rw [E1.out, E2.out]
    rintro e w1 ⟨rfl, hb⟩
    obtain ⟨q1, z0, z1, z2, z3, z4, z5, f0, f1, f2, f3, f4, f5⟩ : w.heap.size < w1.heap.size ∧ _ := ⟨(HZ.out.keep hb).1, (HZ.out.keep hb).six⟩
    have HC := Lib.hid (cells6 (c0 := .bool false) (c1 := .bool false) (c2 := .bool false) (c3 := .bool false) (c4 := .bool false) (c5 := .bool false) (HZ.out.keep hb) (.cells #[.bool false, .bool false, .bool false, .bool false, .bool false, .bool false] 40))
    have HB1 := Lib.hid (HB.out.trans (hb.mono HB.out.size))
    clear hb
    have q2 : ¬ w.heap.size = w1.heap.size := by omega
    go_wp2
    obtain ⟨y0, y1, y2, y3, y4, y5⟩ := HC.out
    exact bodyPost_ret (v := .tuple #[.agg #[.bool false, .bool false, .bool false, .bool false, .bool false, .bool false], .int .i64 4]) (by simp [results, Try.results37, go_sem, y0, y1, y2, y3, y4, y5]) rfl ⟨by rw [E3.out, sqA7, E2.out], (set6 HB1.out (Nat.le_refl _)).alloc (by simpa [World.setCell] using HB1.out.size) _⟩
  · have hi2 : i < 7 := hi
    have hi3 : (i : Int) < 7 := by omega
    have E1 := Lib.hid (show sqI s = i by rw [sqI, if_neg (by rw [e0]; omega), e0])
    have E2 := Lib.hid (show sqC s = 0 by rw [sqC, if_neg (by rw [e0]; omega)])
    have E3 := Lib.hid (show sqJ s = i by rw [sqJ, if_neg (by rw [e0]; omega), e0]; rfl)
    clear h e0 hs hi
    go_enter Try.func37, Try.ntmps37
    go_wp2_with fail
    refine (findQ_any s b _ HT.out).mono ?_
    rw [E1.out, E2.out]
    rintro e w1 ⟨rfl, hb⟩
    obtain ⟨q1, z0, z1, z2, z3, z4, z5, f0, f1, f2, f3, f4, f5⟩ : w.heap.size < w1.heap.size ∧ _ := ⟨(HZ.out.keep hb).1, (HZ.out.keep hb).six⟩
    have HB1 := Lib.hid (HB.out.trans (hb.mono HB.out.size))
    obtain ⟨k0, h2⟩ := (HT.out.keep hb).2 i hi2
    clear hb
    obtain ⟨c, hc⟩ : ∃ c : Nat → Bool, c = sqB i := ⟨_, rfl⟩
    have EA := Lib.hid (show sqA i = .agg #[.bool (c 0), .bool (c 1), .bool (c 2), .bool (c 3), .bool (c 4), .bool (c 5)] by rw [hc]; rfl)
    rw [← hc] at h2
    have g1 : w1.cell? ⟨b, i * 7 + 1, none⟩ = some (.bool (c 0)) := h2 0 (by omega)
    have g2 : w1.cell? ⟨b, i * 7 + 2, none⟩ = some (.bool (c 1)) := h2 1 (by omega)
    have g3 : w1.cell? ⟨b, i * 7 + 3, none⟩ = some (.bool (c 2)) := h2 2 (by omega)
    have g4 : w1.cell? ⟨b, i * 7 + 4, none⟩ = some (.bool (c 3)) := h2 3 (by omega)
    have g5 : w1.cell? ⟨b, i * 7 + 5, none⟩ = some (.bool (c 4)) := h2 4 (by omega)
    have g6 : w1.cell? ⟨b, i * 7 + 6, none⟩ = some (.bool (c 5)) := h2 5 (by omega)
    clear h2 hc k0
    go_wp2
    exact bodyPost_ret (v := .tuple #[.agg #[.bool (c 0), .bool (c 1), .bool (c 2), .bool (c 3), .bool (c 4), .bool (c 5)], .int .i64 0]) (by simp [results, Try.results37, go_sem, z0, z1, z2, z3, z4, z5]) rfl ⟨by rw [E3.out, EA.out, E2.out], set6 HB1.out (Nat.le_refl _)⟩

set_option maxHeartbeats 4000000 in
theorem sequentLogicOf_any (s : ByteArray) (w : World) :
    Calls Try.prog 20 #[.string s] w fun e w' => e = .returned (.tuple #[sqA (sqJ s), .int .i64 (sqK s)]) ∧ Below w.heap.size w w' := by
  have HZ := Lib.hid (Zq.new w 40)
  have HB := Lib.hid (show Below w.heap.size w (w.alloc (.cells #[.bool false, .bool false, .bool false, .bool false, .bool false, .bool false] 40)) from (Below.refl _ _).alloc (Nat.le_refl _) _)
  go_enter Try.func20, Try.ntmps20
  go_wp2_with fail
  refine (sequentLogicTable_any _).mono ?_
  rintro e w1 ⟨b, rfl, -, ht, hb⟩
  have HZ1 := Lib.hid (HZ.out.keep hb)
  have HB1 := Lib.hid (HB.out.trans (hb.mono HB.out.size))
  have HT := Lib.hid ht
  clear hb ht HZ HB
  go_wp2_with fail
  refine (entryQ_any s b _ HT.out).mono ?_
  rintro e w2 ⟨rfl, hb⟩
  obtain ⟨q1, z0, z1, z2, z3, z4, z5, f0, f1, f2, f3, f4, f5⟩ : w.heap.size < w2.heap.size ∧ _ := ⟨(HZ1.out.keep hb).1, (HZ1.out.keep hb).six⟩
  have HB2 := Lib.hid (HB1.out.trans (hb.mono HB1.out.size))
  have HZ2 := Lib.hid (HZ1.out.keep hb)
  clear hb HT HZ1 HB1
  have q2 : ¬ w2.heap.size = w.heap.size := by omega
  have q3 : ¬ w.heap.size = w2.heap.size := by omega
  by_cases e0 : fdV sqN s = -1
  · have E2 : sqC s = 4 := by rw [sqC, if_pos e0]
    have E3 : sqJ s = 7 := by rw [sqJ, if_pos e0]
    have E4 : sqK s = 2 := by rw [sqK, if_pos e0]
    rw [E2, E3]
    clear E2 e0
    rw [sqA7]
    go_wp2
    obtain ⟨y0, y1, y2, y3, y4, y5⟩ := cells6 (c0 := .bool false) (c1 := .bool false) (c2 := .bool false) (c3 := .bool false) (c4 := .bool false) (c5 := .bool false) HZ2.out (.cells #[.bool false, .bool false, .bool false, .bool false, .bool false, .bool false] 40)
    exact bodyPost_ret (v := .tuple #[.agg #[.bool false, .bool false, .bool false, .bool false, .bool false, .bool false], .int .i64 2]) (by simp [results, Try.results20, go_sem, y0, y1, y2, y3, y4, y5]) rfl ⟨by rw [E4, E3, sqA7], (set6 HB2.out (Nat.le_refl _)).alloc (by simpa [World.setCell] using HB2.out.size) _⟩
  · have E2 : sqC s = 0 := by rw [sqC, if_neg e0]
    have E4 : sqK s = 0 := by rw [sqK, if_neg e0]
    obtain ⟨c, hc⟩ : ∃ c : Nat → Bool, c = sqB (sqJ s) := ⟨_, rfl⟩
    have EA : sqA (sqJ s) = .agg #[.bool (c 0), .bool (c 1), .bool (c 2), .bool (c 3), .bool (c 4), .bool (c 5)] := by rw [hc]; rfl
    rw [E2, EA]
    have EB := Lib.hid EA
    clear EA
    clear E2 hc e0
    go_wp2
    obtain ⟨y0, y1, y2, y3, y4, y5⟩ := cells6 (c0 := .bool (c 0)) (c1 := .bool (c 1)) (c2 := .bool (c 2)) (c3 := .bool (c 3)) (c4 := .bool (c 4)) (c5 := .bool (c 5)) HZ2.out (.cells #[.bool (c 0), .bool (c 1), .bool (c 2), .bool (c 3), .bool (c 4), .bool (c 5)] 40)
    exact bodyPost_ret (v := .tuple #[.agg #[.bool (c 0), .bool (c 1), .bool (c 2), .bool (c 3), .bool (c 4), .bool (c 5)], .int .i64 0]) (by simp [results, Try.results20, go_sem, y0, y1, y2, y3, y4, y5]) rfl ⟨by rw [E4, EB.out], (set6 HB2.out (Nat.le_refl _)).alloc (by simpa [World.setCell] using HB2.out.size) _⟩

set_option maxHeartbeats 4000000 in
theorem implIsSequentLogic_v (s : ByteArray) (w : World) : Calls Try.prog 7 #[.string s] w fun e w' => e = .returned (.bool (sqV s)) ∧ Below w.heap.size w w' := by
  go_enter Try.func7, Try.ntmps7
  go_wp2_with fail
  refine (sequentLogicOf_any s _).mono ?_
  rintro e w1 ⟨rfl, hb⟩
  have R := Lib.hid (show Ending.returned (.bool (decide (sqK s = 0))) = .returned (.bool (sqV s)) by
    rw [sqV_fd, sqK]
    by_cases h : fdV sqN s = -1
    · rw [if_pos h, decide_eq_false (by omega), decide_eq_false (by simpa using h)]
    · rw [if_neg h, decide_eq_true (by omega), decide_eq_true h])
  have HB := Lib.hid hb
  clear hb
  obtain ⟨k, hk⟩ : ∃ k, k = sqK s := ⟨_, rfl⟩
  rw [← hk] at R
  rw [← hk]
  obtain ⟨c, hc⟩ : ∃ c : Nat → Bool, c = sqB (sqJ s) := ⟨_, rfl⟩
  have EA : sqA (sqJ s) = .agg #[.bool (c 0), .bool (c 1), .bool (c 2), .bool (c 3), .bool (c 4), .bool (c 5)] := by rw [hc]; rfl
  rw [EA]
  clear EA hc hk
  go_wp2
  go_ret
  exact ⟨R.out, HB.out.alloc HB.out.size _⟩

end Go.Proofs.Ytpccocmiadpgiaa
