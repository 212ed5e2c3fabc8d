/- The table of axioms: what the program makes. Conditions: those in the theorems. -/
import Derived.Test.YtbfpfhmhgcmbaaaAt0
namespace Go.Proofs.Ytbfpfhmhgcmbaaa
open Go.RowKit

/-- The texts of the axioms. -/
def txA : List (List UInt8) := [[91, 93, 112, 62, 91, 93, 91, 93, 112], [60, 62, 112, 62, 91, 93, 60, 62, 112], [112, 62, 91, 93, 60, 62, 112], [91, 93, 91, 93, 112, 62, 91, 93, 112], [91, 93, 112, 62, 60, 62, 112], [60, 62, 112, 62, 91, 93, 112], [60, 62, 91, 93, 112, 62, 91, 93, 60, 62, 112], [91, 93, 40, 91, 93, 112, 62, 113, 41, 124, 91, 93, 40, 91, 93, 113, 62, 112, 41], [91, 93, 40, 91, 93, 112, 62, 112, 41, 62, 91, 93, 112], [91, 93, 112, 62, 112], [91, 93, 70], [112, 62, 91, 93, 112], [91, 93, 40, 91, 93, 40, 112, 62, 91, 93, 112, 41, 62, 112, 41, 62, 112]]

/-- The value v is the condition of the axiom i. -/
def CondV (w : World) (i : Nat) (v : Value) : Prop :=
  (i ≠ 10 ∧ i ≠ 11 ∧ ∃ B, v = .func (.func 42) #[] #[.pointer (some ⟨B, 0, none⟩)] ∧ CB w B (wfE i)) ∨ (i = 10 ∧ v = .func (.func 29) #[] #[]) ∨ (i = 11 ∧ v = .func (.func 30) #[] #[])
theorem CondV.keep {w w' : World} {i : Nat} {v : Value} (h : CondV w i v) (hb : Below w.heap.size w w') : CondV w' i v := by
  rcases h with ⟨h1, h2, B, rfl, h3⟩ | h | h
  · exact .inl ⟨h1, h2, B, rfl, h3.keep hb⟩
  · exact .inr (.inl h)
  · exact .inr (.inr h)
/-- The table of the axioms lies in block b. -/
def AxT (w : World) (b : Nat) : Prop := b < w.heap.size ∧ ∀ j, j < 13 → w.cell? ⟨b, j * 3, none⟩ = some (.string (stx (nthS nmA j))) ∧ w.cell? ⟨b, j * 3 + 1, none⟩ = some (.string (stx (nthS txA j))) ∧ ∃ v, w.cell? ⟨b, j * 3 + 2, none⟩ = some v ∧ CondV w j v
theorem AxT.keep {w w' : World} {b : Nat} (h : AxT w b) (hb : Below w.heap.size w w') : AxT w' b := by
  refine ⟨Nat.lt_of_lt_of_le h.1 hb.size, fun j hj => ?_⟩
  obtain ⟨h1, h2, v, h3, h4⟩ := h.2 j hj
  exact ⟨(hb.cell (p := ⟨b, j * 3, none⟩) h.1).trans h1, (hb.cell (p := ⟨b, j * 3 + 1, none⟩) h.1).trans h2, v, (hb.cell (p := ⟨b, j * 3 + 2, none⟩) h.1).trans h3, h4.keep hb⟩
theorem at_lit1 (W : World) (x : Int) : At (W.alloc (.cells #[.int .i64 x] 2)) (some ⟨W.heap.size, 0, none⟩) 1 [x] :=
  ⟨rfl, .inr ⟨W.heap.size, 0, rfl, by simp, fun j hj => by
    obtain rfl : j = 0 := by omega
    exact World.cell?_alloc_new W _ _ 0⟩⟩
theorem at_lit2 (W : World) (x y : Int) : At (W.alloc (.cells #[.int .i64 x, .int .i64 y] 2)) (some ⟨W.heap.size, 0, none⟩) 2 [x, y] :=
  ⟨rfl, .inr ⟨W.heap.size, 0, rfl, by simp, fun j hj => by
    have : j = 0 ∨ j = 1 := by omega
    rcases this with rfl | rfl <;> exact World.cell?_alloc_new W _ _ _⟩⟩
theorem at_lit3 (W : World) (x y z : Int) : At (W.alloc (.cells #[.int .i64 x, .int .i64 y, .int .i64 z] 2)) (some ⟨W.heap.size, 0, none⟩) 3 [x, y, z] :=
  ⟨rfl, .inr ⟨W.heap.size, 0, rfl, by simp, fun j hj => by
    have : j = 0 ∨ j = 1 ∨ j = 2 := by omega
    rcases this with rfl | rfl | rfl <;> exact World.cell?_alloc_new W _ _ _⟩⟩
theorem wf_at {w : World} {B : Nat} {fs : List Int} {i : Nat} (h : CB w B (wfF fs fs.length)) (e : wfL.getD i [] = fs) : CB w B (wfE i) := by
  have q : wfF fs fs.length = wfE i := by rw [wfF_all]; funext j; rw [wfE, e]
  rw [← q]; exact h

set_option maxHeartbeats 8000000 in
set_option maxRecDepth 100000 in
theorem axiomTable_any (w : World) : Calls Try.prog 20 #[] w fun e w' => ∃ b, e = .returned (.slice (some ⟨b, 0, none⟩) 13 13) ∧ AxT w' b ∧ Below w.heap.size w w' := by
  go_enter Try.func20, Try.ntmps20
  go_wp2_with fail
  refine (withFlags_any [2] _ _ _ (by decide) (by decide) (at_lit1 w 2)).mono ?_
  rintro e w1 ⟨B1, rfl, -, hc, hb⟩
  have D1 := Lib.hid (show Below w.heap.size w w1 from (alloc_keep _ _).1.trans (hb.mono (alloc_keep _ _).1.size))
  have T1 := Lib.hid (show Below w.heap.size w w1 from D1.out)
  have C1_1 := Lib.hid (show CB w1 B1 (wfE 0) from wf_at hc rfl)
  clear hc hb D1
  go_wp2_with fail
  refine (withFlags_any [4] _ _ _ (by decide) (by decide) (at_lit1 w1 4)).mono ?_
  rintro e w2 ⟨B2, rfl, -, hc, hb⟩
  have D2 := Lib.hid (show Below w1.heap.size w1 w2 from (alloc_keep _ _).1.trans (hb.mono (alloc_keep _ _).1.size))
  have T2 := Lib.hid (show Below w.heap.size w w2 from T1.out.trans (D2.out.mono T1.out.size))
  have C2_2 := Lib.hid (show CB w2 B2 (wfE 1) from wf_at hc rfl)
  have C1_2 := Lib.hid (C1_1.out.keep D2.out)
  clear hc hb D2 C1_1
  go_wp2_with fail
  refine (withFlags_any [3] _ _ _ (by decide) (by decide) (at_lit1 w2 3)).mono ?_
  rintro e w3 ⟨B3, rfl, -, hc, hb⟩
  have D3 := Lib.hid (show Below w2.heap.size w2 w3 from (alloc_keep _ _).1.trans (hb.mono (alloc_keep _ _).1.size))
  have T3 := Lib.hid (show Below w.heap.size w w3 from T2.out.trans (D3.out.mono T2.out.size))
  have C3_3 := Lib.hid (show CB w3 B3 (wfE 2) from wf_at hc rfl)
  have C1_3 := Lib.hid (C1_2.out.keep D3.out)
  have C2_3 := Lib.hid (C2_2.out.keep D3.out)
  clear hc hb D3 C1_2 C2_2
  go_wp2_with fail
  refine (withFlags_any [9] _ _ _ (by decide) (by decide) (at_lit1 w3 9)).mono ?_
  rintro e w4 ⟨B4, rfl, -, hc, hb⟩
  have D4 := Lib.hid (show Below w3.heap.size w3 w4 from (alloc_keep _ _).1.trans (hb.mono (alloc_keep _ _).1.size))
  have T4 := Lib.hid (show Below w.heap.size w w4 from T3.out.trans (D4.out.mono T3.out.size))
  have C4_4 := Lib.hid (show CB w4 B4 (wfE 3) from wf_at hc rfl)
  have C1_4 := Lib.hid (C1_3.out.keep D4.out)
  have C2_4 := Lib.hid (C2_3.out.keep D4.out)
  have C3_4 := Lib.hid (C3_3.out.keep D4.out)
  clear hc hb D4 C1_3 C2_3 C3_3
  go_wp2_with fail
  refine (withFlags_any [1] _ _ _ (by decide) (by decide) (at_lit1 w4 1)).mono ?_
  rintro e w5 ⟨B5, rfl, -, hc, hb⟩
  have D5 := Lib.hid (show Below w4.heap.size w4 w5 from (alloc_keep _ _).1.trans (hb.mono (alloc_keep _ _).1.size))
  have T5 := Lib.hid (show Below w.heap.size w w5 from T4.out.trans (D5.out.mono T4.out.size))
  have C5_5 := Lib.hid (show CB w5 B5 (wfE 4) from wf_at hc rfl)
  have C1_5 := Lib.hid (C1_4.out.keep D5.out)
  have C2_5 := Lib.hid (C2_4.out.keep D5.out)
  have C3_5 := Lib.hid (C3_4.out.keep D5.out)
  have C4_5 := Lib.hid (C4_4.out.keep D5.out)
  clear hc hb D5 C1_4 C2_4 C3_4 C4_4
  go_wp2_with fail
  refine (withFlags_any [10] _ _ _ (by decide) (by decide) (at_lit1 w5 10)).mono ?_
  rintro e w6 ⟨B6, rfl, -, hc, hb⟩
  have D6 := Lib.hid (show Below w5.heap.size w5 w6 from (alloc_keep _ _).1.trans (hb.mono (alloc_keep _ _).1.size))
  have T6 := Lib.hid (show Below w.heap.size w w6 from T5.out.trans (D6.out.mono T5.out.size))
  have C6_6 := Lib.hid (show CB w6 B6 (wfE 5) from wf_at hc rfl)
  have C1_6 := Lib.hid (C1_5.out.keep D6.out)
  have C2_6 := Lib.hid (C2_5.out.keep D6.out)
  have C3_6 := Lib.hid (C3_5.out.keep D6.out)
  have C4_6 := Lib.hid (C4_5.out.keep D6.out)
  have C5_6 := Lib.hid (C5_5.out.keep D6.out)
  clear hc hb D6 C1_5 C2_5 C3_5 C4_5 C5_5
  go_wp2_with fail
  refine (withFlags_any [5] _ _ _ (by decide) (by decide) (at_lit1 w6 5)).mono ?_
  rintro e w7 ⟨B7, rfl, -, hc, hb⟩
  have D7 := Lib.hid (show Below w6.heap.size w6 w7 from (alloc_keep _ _).1.trans (hb.mono (alloc_keep _ _).1.size))
  have T7 := Lib.hid (show Below w.heap.size w w7 from T6.out.trans (D7.out.mono T6.out.size))
  have C7_7 := Lib.hid (show CB w7 B7 (wfE 6) from wf_at hc rfl)
  have C1_7 := Lib.hid (C1_6.out.keep D7.out)
  have C2_7 := Lib.hid (C2_6.out.keep D7.out)
  have C3_7 := Lib.hid (C3_6.out.keep D7.out)
  have C4_7 := Lib.hid (C4_6.out.keep D7.out)
  have C5_7 := Lib.hid (C5_6.out.keep D7.out)
  have C6_7 := Lib.hid (C6_6.out.keep D7.out)
  clear hc hb D7 C1_6 C2_6 C3_6 C4_6 C5_6 C6_6
  go_wp2_with fail
  refine (withFlags_any [6] _ _ _ (by decide) (by decide) (at_lit1 w7 6)).mono ?_
  rintro e w8 ⟨B8, rfl, -, hc, hb⟩
  have D8 := Lib.hid (show Below w7.heap.size w7 w8 from (alloc_keep _ _).1.trans (hb.mono (alloc_keep _ _).1.size))
  have T8 := Lib.hid (show Below w.heap.size w w8 from T7.out.trans (D8.out.mono T7.out.size))
  have C8_8 := Lib.hid (show CB w8 B8 (wfE 7) from wf_at hc rfl)
  have C1_8 := Lib.hid (C1_7.out.keep D8.out)
  have C2_8 := Lib.hid (C2_7.out.keep D8.out)
  have C3_8 := Lib.hid (C3_7.out.keep D8.out)
  have C4_8 := Lib.hid (C4_7.out.keep D8.out)
  have C5_8 := Lib.hid (C5_7.out.keep D8.out)
  have C6_8 := Lib.hid (C6_7.out.keep D8.out)
  have C7_8 := Lib.hid (C7_7.out.keep D8.out)
  clear hc hb D8 C1_7 C2_7 C3_7 C4_7 C5_7 C6_7 C7_7
  go_wp2_with fail
  refine (withFlags_any [2, 7] _ _ _ (by decide) (by decide) (at_lit2 w8 2 7)).mono ?_
  rintro e w9 ⟨B9, rfl, -, hc, hb⟩
  have D9 := Lib.hid (show Below w8.heap.size w8 w9 from (alloc_keep _ _).1.trans (hb.mono (alloc_keep _ _).1.size))
  have T9 := Lib.hid (show Below w.heap.size w w9 from T8.out.trans (D9.out.mono T8.out.size))
  have C9_9 := Lib.hid (show CB w9 B9 (wfE 8) from wf_at hc rfl)
  have C1_9 := Lib.hid (C1_8.out.keep D9.out)
  have C2_9 := Lib.hid (C2_8.out.keep D9.out)
  have C3_9 := Lib.hid (C3_8.out.keep D9.out)
  have C4_9 := Lib.hid (C4_8.out.keep D9.out)
  have C5_9 := Lib.hid (C5_8.out.keep D9.out)
  have C6_9 := Lib.hid (C6_8.out.keep D9.out)
  have C7_9 := Lib.hid (C7_8.out.keep D9.out)
  have C8_9 := Lib.hid (C8_8.out.keep D9.out)
  clear hc hb D9 C1_8 C2_8 C3_8 C4_8 C5_8 C6_8 C7_8 C8_8
  go_wp2_with fail
  refine (withFlags_any [0] _ _ _ (by decide) (by decide) (at_lit1 w9 0)).mono ?_
  rintro e w10 ⟨B10, rfl, -, hc, hb⟩
  have D10 := Lib.hid (show Below w9.heap.size w9 w10 from (alloc_keep _ _).1.trans (hb.mono (alloc_keep _ _).1.size))
  have T10 := Lib.hid (show Below w.heap.size w w10 from T9.out.trans (D10.out.mono T9.out.size))
  have C10_10 := Lib.hid (show CB w10 B10 (wfE 9) from wf_at hc rfl)
  have C1_10 := Lib.hid (C1_9.out.keep D10.out)
  have C2_10 := Lib.hid (C2_9.out.keep D10.out)
  have C3_10 := Lib.hid (C3_9.out.keep D10.out)
  have C4_10 := Lib.hid (C4_9.out.keep D10.out)
  have C5_10 := Lib.hid (C5_9.out.keep D10.out)
  have C6_10 := Lib.hid (C6_9.out.keep D10.out)
  have C7_10 := Lib.hid (C7_9.out.keep D10.out)
  have C8_10 := Lib.hid (C8_9.out.keep D10.out)
  have C9_10 := Lib.hid (C9_9.out.keep D10.out)
  clear hc hb D10 C1_9 C2_9 C3_9 C4_9 C5_9 C6_9 C7_9 C8_9 C9_9
  go_wp2_with fail
  refine (withFlags_any [0, 2, 8] _ _ _ (by decide) (by decide) (at_lit3 w10 0 2 8)).mono ?_
  rintro e w11 ⟨B11, rfl, -, hc, hb⟩
  have D11 := Lib.hid (show Below w10.heap.size w10 w11 from (alloc_keep _ _).1.trans (hb.mono (alloc_keep _ _).1.size))
  have T11 := Lib.hid (show Below w.heap.size w w11 from T10.out.trans (D11.out.mono T10.out.size))
  have C11_11 := Lib.hid (show CB w11 B11 (wfE 12) from wf_at hc rfl)
  have C1_11 := Lib.hid (C1_10.out.keep D11.out)
  have C2_11 := Lib.hid (C2_10.out.keep D11.out)
  have C3_11 := Lib.hid (C3_10.out.keep D11.out)
  have C4_11 := Lib.hid (C4_10.out.keep D11.out)
  have C5_11 := Lib.hid (C5_10.out.keep D11.out)
  have C6_11 := Lib.hid (C6_10.out.keep D11.out)
  have C7_11 := Lib.hid (C7_10.out.keep D11.out)
  have C8_11 := Lib.hid (C8_10.out.keep D11.out)
  have C9_11 := Lib.hid (C9_10.out.keep D11.out)
  have C10_11 := Lib.hid (C10_10.out.keep D11.out)
  clear hc hb D11 C1_10 C2_10 C3_10 C4_10 C5_10 C6_10 C7_10 C8_10 C9_10 C10_10
  go_wp2
  go_ret
  refine ⟨w11.heap.size, rfl, ⟨by simp, fun j hj => ?_⟩, T11.out.trans ((alloc_keep _ _).1.mono T11.out.size)⟩
  have hh : j = 0 ∨ j = 1 ∨ j = 2 ∨ j = 3 ∨ j = 4 ∨ j = 5 ∨ j = 6 ∨ j = 7 ∨ j = 8 ∨ j = 9 ∨ j = 10 ∨ j = 11 ∨ j = 12 := by omega
  rcases hh with rfl | rfl | rfl | rfl | rfl | rfl | rfl | rfl | rfl | rfl | rfl | rfl | rfl
  · exact ⟨World.cell?_alloc_new _ _ _ _, World.cell?_alloc_new _ _ _ _, _, World.cell?_alloc_new _ _ _ _, .inl ⟨by decide, by decide, B1, rfl, C1_11.out.keep (alloc_keep _ _).1⟩⟩
  · exact ⟨World.cell?_alloc_new _ _ _ _, World.cell?_alloc_new _ _ _ _, _, World.cell?_alloc_new _ _ _ _, .inl ⟨by decide, by decide, B2, rfl, C2_11.out.keep (alloc_keep _ _).1⟩⟩
  · exact ⟨World.cell?_alloc_new _ _ _ _, World.cell?_alloc_new _ _ _ _, _, World.cell?_alloc_new _ _ _ _, .inl ⟨by decide, by decide, B3, rfl, C3_11.out.keep (alloc_keep _ _).1⟩⟩
  · exact ⟨World.cell?_alloc_new _ _ _ _, World.cell?_alloc_new _ _ _ _, _, World.cell?_alloc_new _ _ _ _, .inl ⟨by decide, by decide, B4, rfl, C4_11.out.keep (alloc_keep _ _).1⟩⟩
  · exact ⟨World.cell?_alloc_new _ _ _ _, World.cell?_alloc_new _ _ _ _, _, World.cell?_alloc_new _ _ _ _, .inl ⟨by decide, by decide, B5, rfl, C5_11.out.keep (alloc_keep _ _).1⟩⟩
  · exact ⟨World.cell?_alloc_new _ _ _ _, World.cell?_alloc_new _ _ _ _, _, World.cell?_alloc_new _ _ _ _, .inl ⟨by decide, by decide, B6, rfl, C6_11.out.keep (alloc_keep _ _).1⟩⟩
  · exact ⟨World.cell?_alloc_new _ _ _ _, World.cell?_alloc_new _ _ _ _, _, World.cell?_alloc_new _ _ _ _, .inl ⟨by decide, by decide, B7, rfl, C7_11.out.keep (alloc_keep _ _).1⟩⟩
  · exact ⟨World.cell?_alloc_new _ _ _ _, World.cell?_alloc_new _ _ _ _, _, World.cell?_alloc_new _ _ _ _, .inl ⟨by decide, by decide, B8, rfl, C8_11.out.keep (alloc_keep _ _).1⟩⟩
  · exact ⟨World.cell?_alloc_new _ _ _ _, World.cell?_alloc_new _ _ _ _, _, World.cell?_alloc_new _ _ _ _, .inl ⟨by decide, by decide, B9, rfl, C9_11.out.keep (alloc_keep _ _).1⟩⟩
  · exact ⟨World.cell?_alloc_new _ _ _ _, World.cell?_alloc_new _ _ _ _, _, World.cell?_alloc_new _ _ _ _, .inl ⟨by decide, by decide, B10, rfl, C10_11.out.keep (alloc_keep _ _).1⟩⟩
  · exact ⟨World.cell?_alloc_new _ _ _ _, World.cell?_alloc_new _ _ _ _, _, World.cell?_alloc_new _ _ _ _, .inr (.inl ⟨rfl, rfl⟩)⟩
  · exact ⟨World.cell?_alloc_new _ _ _ _, World.cell?_alloc_new _ _ _ _, _, World.cell?_alloc_new _ _ _ _, .inr (.inr ⟨rfl, rfl⟩)⟩
  · exact ⟨World.cell?_alloc_new _ _ _ _, World.cell?_alloc_new _ _ _ _, _, World.cell?_alloc_new _ _ _ _, .inl ⟨by decide, by decide, B11, rfl, C11_11.out.keep (alloc_keep _ _).1⟩⟩

end Go.Proofs.Ytbfpfhmhgcmbaaa
