/- FrameHolds: the model's entry. Conditions: those in the theorems. -/
import Derived.Deep.RegionWith
import Derived.Deep.RegionLaw
import Derived.RegionTactic
import Derived.BigRegion
import Derived.ChangeAlike
import Derived.Test.YtbfnagmjnaacoaaFhA
import Derived.Test.YtbfnagmjnaacoaaFrs
namespace Go.Proofs.Ytbfnagmjnaacoaa
open Go.RowKit

def z10 : List Int := List.replicate 10 0
def z6 : List Int := List.replicate 6 0
theorem wz_10 (N : Nat) : Wz N z10 := ⟨rfl, fun h i hi => ⟨0, by omega, by
  have h10 : i = 0 ∨ i = 1 ∨ i = 2 ∨ i = 3 ∨ i = 4 ∨ i = 5 ∨ i = 6 ∨ i = 7 ∨ i = 8 ∨ i = 9 := by omega
  rcases h10 with rfl | rfl | rfl | rfl | rfl | rfl | rfl | rfl | rfl | rfl <;> rfl⟩⟩

theorem at_made (W W' : World) (n : Nat) (hb : Below (W.heap.size + 1) (W.alloc (.cells (madeCells #[.int .i64 0] n) 2)) W') : At W' (some ⟨W.heap.size, 0, none⟩) n (List.replicate n 0) := by
  refine ⟨by rw [List.length_replicate], .inr ⟨W.heap.size, 0, rfl, Nat.lt_of_lt_of_le (by simp) hb.size, fun k hk => ?_⟩⟩
  have h2 := World.cell?_alloc_new W (madeCells #[.int .i64 0] n) 2 k
  rw [Nat.zero_add]
  refine (hb.cell (p := ⟨W.heap.size, k, none⟩) (by show W.heap.size < _; omega)).trans (h2.trans ?_)
  rw [← Array.getElem?_toList, toList_madeCells_one, List.getElem?_replicate, if_pos hk]
  rw [nth, List.getD_eq_getElem?_getD, List.getElem?_replicate, if_pos hk]
  rfl
theorem two_made (W : World) (n m : Nat) : Hid (Below W.heap.size W ((W.alloc (.cells (madeCells #[.int .i64 0] n) 2)).alloc (.cells (madeCells #[.int .i64 0] m) 2)).drew ∧ At ((W.alloc (.cells (madeCells #[.int .i64 0] n) 2)).alloc (.cells (madeCells #[.int .i64 0] m) 2)).drew (some ⟨W.heap.size, 0, none⟩) n (List.replicate n 0) ∧ At ((W.alloc (.cells (madeCells #[.int .i64 0] n) 2)).alloc (.cells (madeCells #[.int .i64 0] m) 2)).drew (some ⟨W.heap.size + 1, 0, none⟩) m (List.replicate m 0)) := by
  have b1 : Below W.heap.size W (W.alloc (.cells (madeCells #[.int .i64 0] n) 2)) := (Below.refl _ _).alloc (Nat.le_refl _) _
  obtain ⟨V, hV⟩ : ∃ V, V = W.alloc (.cells (madeCells #[.int .i64 0] n) 2) := ⟨_, rfl⟩
  have hs : V.heap.size = W.heap.size + 1 := by rw [hV]; simp
  have b2 : Below V.heap.size V (V.alloc (.cells (madeCells #[.int .i64 0] m) 2)) := (Below.refl _ _).alloc (Nat.le_refl _) _
  rw [← hV] at b1 ⊢
  refine Lib.hid ⟨(b1.trans (b2.mono b1.size)).drew, ?_, ?_⟩
  · rw [hs] at b2
    rw [hV] at b2 ⊢
    exact at_made W _ n b2.drew
  · have h3 := at_made V _ m (Below.refl _ _).drew
    rw [hs] at h3
    exact h3

theorem two_a (W : World) : Hid (Below W.heap.size W ((W.alloc (.cells (madeCells #[.int .i64 0] 6) 2)).alloc (.cells (madeCells #[.int .i64 0] 10) 2)).drew ∧ At ((W.alloc (.cells (madeCells #[.int .i64 0] 6) 2)).alloc (.cells (madeCells #[.int .i64 0] 10) 2)).drew (some ⟨W.heap.size, 0, none⟩) 6 z6 ∧ At ((W.alloc (.cells (madeCells #[.int .i64 0] 6) 2)).alloc (.cells (madeCells #[.int .i64 0] 10) 2)).drew (some ⟨W.heap.size + 1, 0, none⟩) 10 z10) := two_made W 6 10
theorem two_b (W : World) : Hid (Below W.heap.size W ((W.alloc (.cells (madeCells #[.int .i64 0] 10) 2)).alloc (.cells (madeCells #[.int .i64 0] 6) 2)).drew ∧ At ((W.alloc (.cells (madeCells #[.int .i64 0] 10) 2)).alloc (.cells (madeCells #[.int .i64 0] 6) 2)).drew (some ⟨W.heap.size, 0, none⟩) 10 z10 ∧ At ((W.alloc (.cells (madeCells #[.int .i64 0] 10) 2)).alloc (.cells (madeCells #[.int .i64 0] 6) 2)).drew (some ⟨W.heap.size + 1, 0, none⟩) 6 z6) := two_made W 10 6

set_option maxHeartbeats 2000000 in
set_option maxRecDepth 100000 in
theorem l10Frame_any (f : Pt) (hf : f.ok) (N : Nat) (hN : N ≤ 8) (xs : List Int) (hx : xs.length = N) (a : Option Addr) (c : Nat) (b off len cap : Nat) (w : World) (hl : len ≤ 1048576) (hv : vok N 6 f) (hat : At w a xs.length xs) (h : AtT w b off len cap f) :
    Calls Try.prog 58 #[.agg #[.int .i64 (N : Int), .slice a xs.length c], .slice (some ⟨b, off, none⟩) len cap] w fun e w' => e = .returned (.bool (hol xs z6 N f z10)) ∧ Below w.heap.size w w' := by
  obtain ⟨W, hW⟩ : ∃ W, W = w.alloc (.cells #[.int .i64 (N : Int), .slice a xs.length c] 38) := ⟨_, rfl⟩
  have hWb : Below w.heap.size w W := by rw [hW]; exact (Below.refl _ _).alloc (Nat.le_refl _) _
  have x0 : W.cell? ⟨w.heap.size, 0, none⟩ = some (.int .i64 N) := by rw [hW]; exact World.cell?_alloc_new _ _ _ 0
  have x1 : W.cell? ⟨w.heap.size, 1, none⟩ = some (.slice a xs.length c) := by rw [hW]; exact World.cell?_alloc_new _ _ _ 1
  have HB := Lib.hid hWb
  have A1 := Lib.hid (hat.keep hWb (Nat.le_refl _))
  have T1 := Lib.hid (h.keep hWb (Nat.le_refl _))
  obtain ⟨r, hr⟩ : ∃ r, r = hol xs z6 N f z10 := ⟨_, rfl⟩
  have HH := Lib.hid (fun (b6 b10 : Nat) (W' : World) (hW' : Below W.heap.size W W') (h6 : At W' (some ⟨b6, 0, none⟩) 6 z6) (h10 : At W' (some ⟨b10, 0, none⟩) 10 z10) => l10Holds_any f hf N a c xs (some ⟨b6, 0, none⟩) 6 z6 (some ⟨b10, 0, none⟩) 10 z10 b off len cap W' hl (by omega) (by decide) ⟨hN, hx, A1.out.keep hW' (Nat.le_refl _), h6, h10, wz_10 N, fun h => by cases h⟩ hv (T1.out.keep hW' (Nat.le_refl _)))
  rw [← hr] at HH ⊢
  rw [show z6.length = 6 from rfl] at HH
  have hWs : w.heap.size < W.heap.size := by rw [hW]; simp
  have HW := Lib.hid hW
  have HX := Lib.hid hx
  clear hW hx hr hv hat h hWb
  have hm6 : ∀ W : World, (Instr.makeSlice 28 (.int .i64 6) (.int .i64 6)).run Try.prog W = .ok (.slice (some ⟨W.heap.size, 0, none⟩) 6 6) (W.alloc (.cells (madeCells #[.int .i64 0] 6) 2)) := fun W => run_make_row' (P := Try.prog) 28 2 (.int .i64 0) 8 Try.underlying28 info64 rfl .i64 .i64 6 (by omega) (by omega) W
  have hm10 : ∀ W : World, (Instr.makeSlice 28 (.int .i64 10) (.int .i64 10)).run Try.prog W = .ok (.slice (some ⟨W.heap.size, 0, none⟩) 10 10) (W.alloc (.cells (madeCells #[.int .i64 0] 10) 2)) := fun W => run_make_row' (P := Try.prog) 28 2 (.int .i64 0) 8 Try.underlying28 info64 rfl .i64 .i64 10 (by omega) (by omega) W
  go_enter Try.func58, Try.ntmps58
  go_wp2_with fail
  rw [← HW.out]
  have V1 := two_a W
  have V2 := two_b W
  go_region_law (first | (go_simp; go_at_call 50; with_reducible refine (HH.out _ _ _ V1.out.1 V1.out.2.1 V1.out.2.2).mono ?_; rintro e w2 ⟨rfl, hb2⟩; have B2 := Lib.hid (V1.out.1.trans (hb2.mono V1.out.1.size)); clear hb2) | (go_simp; go_at_call 50; with_reducible refine (HH.out _ _ _ V2.out.1 V2.out.2.2 V2.out.2.1).mono ?_; rintro e w2 ⟨rfl, hb2⟩; have B2 := Lib.hid (V2.out.1.trans (hb2.mono V2.out.1.size)); clear hb2))
  all_goals
    go_wp2
    go_ret
    exact ⟨rfl, HB.out.trans (B2.out.mono HB.out.size)⟩

end Go.Proofs.Ytbfnagmjnaacoaa
