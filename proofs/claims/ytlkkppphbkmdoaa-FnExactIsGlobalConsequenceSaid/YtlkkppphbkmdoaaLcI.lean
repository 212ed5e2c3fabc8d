/- What the program answers for local and global consequences. Conditions: those in the theorems. -/
import Derived.Test.YtlkkppphbkmdoaaLcH
namespace Go.Proofs.Ytlkkppphbkmdoaa
open Go.RowKit

/-- Whether a formula is a local consequence of others; a global one. -/
noncomputable def lcV (n : Int) (xs : List Int) (xss : List (List Nd)) (zs : List Nd) : Bool := cqV (fun k => loB xs (vlL xs.length (vrM (xss ++ [zs]) (xss.length + 1)) k) xss xss.length zs) n xs xss zs
noncomputable def gcV (n : Int) (xs : List Int) (xss : List (List Nd)) (zs : List Nd) : Bool := cqV (fun k => glB xs (vlL xs.length (vrM (xss ++ [zs]) (xss.length + 1)) k) xss xss.length zs) n xs xss zs
theorem szTo_snoc (xss : List (List Nd)) (zs : List Nd) : ∀ k, k ≤ xss.length → szTo (xss ++ [zs]) k = szTo xss k
  | 0, _ => rfl
  | k + 1, h => by rw [szTo, szTo, szTo_snoc xss zs k (by omega), nthL_app, if_pos (by omega)]
theorem sz_snoc {xss : List (List Nd)} {zs : List Nd} (h : szTo xss xss.length ≤ 1048576) (hz : zs.length ≤ 1048576) : szTo (xss ++ [zs]) (xss.length + 1) ≤ 4194304 := by
  rw [szTo, szTo_snoc xss zs _ (Nat.le_refl _), nthL_app, if_neg (by omega), if_pos rfl]; omega
theorem hi_snoc {xss : List (List Nd)} {zs : List Nd} (h : szTo xss xss.length ≤ 1048576) (hz : zs.length ≤ 1048576) : ∀ j, j < xss.length + 1 → (nthL (xss ++ [zs]) j).length ≤ 1048576 := by
  intro j hj
  rw [nthL_app]
  split
  · rename_i e
    have h1 := szTo_mono xss (show j + 1 ≤ xss.length by omega)
    rw [szTo] at h1
    omega
  · rw [if_pos (by omega)]; exact hz
theorem box3c (w : World) (n : Int) (a : Option Addr) (l c : Nat) (a' : Option Addr) (l' c' : Nat) (a2 : Option Addr) (l2 c2 : Nat) : ∃ W : World, W = ((w.alloc (.cells #[.int .i64 n, .slice a l c] 32)).alloc (.cells #[.slice a' l' c'] 34)).alloc (.cells #[.slice a2 l2 c2] 36) ∧
    Hid (Below w.heap.size w W) ∧ Hid (Bx W w.heap.size n a l c) ∧ Hid (W.cell? ⟨w.heap.size + 1, 0, none⟩ = some (.slice a' l' c')) ∧ Hid (W.cell? ⟨w.heap.size + 1 + 1, 0, none⟩ = some (.slice a2 l2 c2)) ∧ Hid (W.heap.size = w.heap.size + 1 + 1 + 1) := by
  obtain ⟨A, hA⟩ : ∃ A, A = w.alloc (.cells #[.int .i64 n, .slice a l c] 32) := ⟨_, rfl⟩
  obtain ⟨B, hB⟩ : ∃ B, B = A.alloc (.cells #[.slice a' l' c'] 34) := ⟨_, rfl⟩
  obtain ⟨E, hE⟩ : ∃ E, E = B.alloc (.cells #[.slice a2 l2 c2] 36) := ⟨_, rfl⟩
  have sA : A.heap.size = w.heap.size + 1 := by rw [hA]; simp
  have sB : B.heap.size = w.heap.size + 1 + 1 := by rw [hB]; simp [sA]
  have sE : E.heap.size = w.heap.size + 1 + 1 + 1 := by rw [hE]; simp [sB]
  have kA : Below w.heap.size w A := by rw [hA]; exact (alloc_keep _ _).1
  have kB : Below A.heap.size A B := by rw [hB]; exact (alloc_keep _ _).1
  have kE : Below B.heap.size B E := by rw [hE]; exact (alloc_keep _ _).1
  have tA : Below A.heap.size A E := kB.trans (kE.mono kB.size)
  refine ⟨E, by rw [hE, hB, hA], Lib.hid (kA.trans (tA.mono kA.size)), Lib.hid ((show Bx A w.heap.size n a l c by rw [hA]; exact Bx.new _ _ _ _ _ _).keep tA), Lib.hid ((kE.cell (p := ⟨w.heap.size + 1, 0, none⟩) (by show w.heap.size + 1 < _; omega)).trans (by rw [hB]; exact World.cell?_alloc_at _ _ _ _ sA.symm)), Lib.hid (by rw [hE]; exact World.cell?_alloc_at _ _ _ _ sB.symm), Lib.hid sE⟩

set_option maxHeartbeats 2000000 in
set_option maxRecDepth 100000 in
theorem implIsLocalConsequence_v (n0 : Int) (xs : List Int) (xss : List (List Nd)) (zs : List Nd) (v0 : Value) (lo0 hi0 : Nat) (v1 : Value) (lo1 hi1 : Nat) (v2 : Value) (lo2 hi2 : Nat) (w : World) (hl0 : xs.length ≤ 1048576) (hl1 : xss.length ≤ 1048576 ∧ szTo xss xss.length ≤ 1048576) (hl2 : zs.length ≤ 1048576) (h0 : InF w lo0 hi0 v0 n0 xs) (h1 : InNN w lo1 hi1 v1 xss) (h2 : InN w lo2 hi2 v2 zs) :
    Calls Try.prog 12 #[v0, v1, v2] w fun e w' => e = .returned (.tuple #[.bool (lcV n0 xs xss zs), .int .i64 (cqC n0 xs xss zs)]) ∧ Below w.heap.size w w' := by
  obtain ⟨a0, c0, rfl, hat0, -⟩ := h0.at
  obtain ⟨p, c, rfl, hc0, hat1⟩ := h1.atC
  obtain ⟨a1, c1, rfl, hn, hc1, hc2⟩ := h2.at'
  obtain ⟨W, hW, HB, X, Y, Z, HS⟩ := box3c w n0 a0 xs.length c0 p xss.length c a1 zs.length c1
  have HW := Lib.hid hW
  obtain ⟨lt0, x0, x1⟩ := X.out
  have x2 := Y.out
  have x3 := Z.out
  have IC := Lib.hid (isCqL_any n0 xs xss zs a0 c0 p c a1 c1 (w.heap.size + 1) (w.heap.size + 1 + 1) W hl0 hl1.1 (sz_snoc hl1.2 hl2) (hi_snoc hl1.2 hl2) (hat0.keep HB.out (Nat.le_refl _)) (hat1.keep HB.out (Nat.le_refl _)) (hn.keep HB.out (Nat.le_refl _)) hc1 hc2 Y.out Z.out)
  have LV := Lib.hid (show lcV n0 xs xss zs = _ from rfl)
  clear h0 h1 h2 hat0 hat1 hn hW
  go_enter Try.func12, Try.ntmps12
  go_wp2_with fail
  rw [← HW.out]
  refine IC.out.mono ?_
  rintro e w2 ⟨rfl, hb⟩
  have T2 := Lib.hid (HB.out.trans (hb.mono HB.out.size))
  clear hb x0 x1 x2 x3 lt0
  go_wp2
  go_ret2
  exact ⟨rfl, T2.out⟩

set_option maxHeartbeats 2000000 in
set_option maxRecDepth 100000 in
theorem implIsGlobalConsequence_v (n0 : Int) (xs : List Int) (xss : List (List Nd)) (zs : List Nd) (v0 : Value) (lo0 hi0 : Nat) (v1 : Value) (lo1 hi1 : Nat) (v2 : Value) (lo2 hi2 : Nat) (w : World) (hl0 : xs.length ≤ 1048576) (hl1 : xss.length ≤ 1048576 ∧ szTo xss xss.length ≤ 1048576) (hl2 : zs.length ≤ 1048576) (h0 : InF w lo0 hi0 v0 n0 xs) (h1 : InNN w lo1 hi1 v1 xss) (h2 : InN w lo2 hi2 v2 zs) :
    Calls Try.prog 17 #[v0, v1, v2] w fun e w' => e = .returned (.tuple #[.bool (gcV n0 xs xss zs), .int .i64 (cqC n0 xs xss zs)]) ∧ Below w.heap.size w w' := by
  obtain ⟨a0, c0, rfl, hat0, -⟩ := h0.at
  obtain ⟨p, c, rfl, hc0, hat1⟩ := h1.atC
  obtain ⟨a1, c1, rfl, hn, hc1, hc2⟩ := h2.at'
  obtain ⟨W, hW, HB, X, Y, Z, HS⟩ := box3c w n0 a0 xs.length c0 p xss.length c a1 zs.length c1
  have HW := Lib.hid hW
  obtain ⟨lt0, x0, x1⟩ := X.out
  have x2 := Y.out
  have x3 := Z.out
  have IC := Lib.hid (isCqG_any n0 xs xss zs a0 c0 p c a1 c1 (w.heap.size + 1) (w.heap.size + 1 + 1) w.heap.size a0 xs.length c0 W hl0 hl1.1 (sz_snoc hl1.2 hl2) (hi_snoc hl1.2 hl2) (hat0.keep HB.out (Nat.le_refl _)) (hat1.keep HB.out (Nat.le_refl _)) (hn.keep HB.out (Nat.le_refl _)) hc1 hc2 Y.out Z.out X.out.2.1 X.out.2.2)
  have LV := Lib.hid (show gcV n0 xs xss zs = _ from rfl)
  clear h0 h1 h2 hat0 hat1 hn hW
  go_enter Try.func17, Try.ntmps17
  go_wp2_with fail
  rw [← HW.out]
  refine IC.out.mono ?_
  rintro e w2 ⟨rfl, hb⟩
  have T2 := Lib.hid (HB.out.trans (hb.mono HB.out.size))
  clear hb x0 x1 x2 x3 lt0
  go_wp2
  go_ret2
  exact ⟨rfl, T2.out⟩

end Go.Proofs.Ytlkkppphbkmdoaa
