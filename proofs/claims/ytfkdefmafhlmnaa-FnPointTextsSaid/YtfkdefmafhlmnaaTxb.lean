/- The model's text of a point formula, of two parts. Conditions: those in the theorems. -/
import Derived.Deep.RegionWith
import Derived.Deep.RegionLaw
import Derived.RegionTactic
import Derived.BigRegion
import Derived.ChangeAlike
import Derived.Test.YtfkdefmafhlmnaaDec
import Derived.Test.YtfkdefmafhlmnaaJn06
import Derived.Test.YtfkdefmafhlmnaaTxs
namespace Go.Proofs.Ytfkdefmafhlmnaa
open Go.RowKit

set_option maxHeartbeats 4000000 in
set_option maxRecDepth 100000 in
theorem tx_neg (x : Pt) (hx : x.ok) (zs : List UInt8) (hz : zs.length ≤ 786432) (ih : TxC x zs) : TxC (.bi 6 x (.le 3 0 0)) (126 :: zs) := by
  intro b off len cap w hl h
  obtain ⟨hb, c1, c2, c3⟩ := h.head
  have hlen := h.len
  have h0 : 0 < len := by rw [hlen]; exact Pt.sz_pos _
  replace c1 : w.cell? ⟨b, off, none⟩ = some (.int .i64 6) := c1
  replace c2 : w.cell? ⟨b, off + 1, none⟩ = some (.int .i64 0) := c2
  replace c3 : w.cell? ⟨b, off + 2, none⟩ = some (.int .i64 0) := c3
  obtain ⟨W, hW⟩ : ∃ W, W = w.alloc (.cells #[.int .i64 6, .int .i64 0, .int .i64 0] 61) := ⟨_, rfl⟩
  have hWb : Below w.heap.size w W := by rw [hW]; exact (Below.refl _ _).alloc (Nat.le_refl _) _
  have x0 : W.cell? ⟨w.heap.size, 0, none⟩ = some (.int .i64 6) := by rw [hW]; exact World.cell?_alloc_new _ _ _ 0
  have x1 : W.cell? ⟨w.heap.size, 1, none⟩ = some (.int .i64 0) := by rw [hW]; exact World.cell?_alloc_new _ _ _ 1
  have x2 : W.cell? ⟨w.heap.size, 2, none⟩ = some (.int .i64 0) := by rw [hW]; exact World.cell?_alloc_new _ _ _ 2
  have hWs : w.heap.size < W.heap.size := by rw [hW]; simp
  have CB := Lib.hid (fun (w1 : World) (hb1 : Below W.heap.size W w1) => (show w1.cell? ⟨w.heap.size, 0, none⟩ = some (.int .i64 6) ∧ w1.cell? ⟨w.heap.size, 1, none⟩ = some (.int .i64 0) ∧ w1.cell? ⟨w.heap.size, 2, none⟩ = some (.int .i64 0) from ⟨(hb1.cell (p := ⟨w.heap.size, 0, none⟩) hWs).trans x0, (hb1.cell (p := ⟨w.heap.size, 1, none⟩) hWs).trans x1, (hb1.cell (p := ⟨w.heap.size, 2, none⟩) hWs).trans x2⟩))
  have HB := Lib.hid hWb
  have HW := Lib.hid hW
  have hs : (Pt.bi 6 x (.le 3 0 0)).sz = 1 + x.sz + 1 := rfl
  have hok : (Pt.bi 6 x (.le 3 0 0)).ok := ⟨by omega, hx, .inr (.inr ⟨rfl, rfl, rfl⟩)⟩
  have LE := Lib.hid (fun W' (hW' : Below W.heap.size W W') => l10Left_any 6 x (.le 3 0 0) hok b off len cap W' (by omega) ((h.keep hWb (Nat.le_refl _)).keep hW' (Nat.le_refl _)))
  have RI := Lib.hid (fun W' (hW' : Below W.heap.size W W') => l10Right_any 6 x (.le 3 0 0) hok b off len cap W' (by omega) ((h.keep hWb (Nat.le_refl _)).keep hW' (Nat.le_refl _)))
  have X := Lib.hid ((h.keep hWb (Nat.le_refl _)).left)
  obtain ⟨g1, g2, -⟩ := ((h.keep hWb (Nat.le_refl _)).right).head
  have g2' : W.cell? ⟨b, off + (1 + x.sz) * 3, none⟩ = some (.int .i64 3) := g2
  have IH := Lib.hid (fun W' (hW' : Below W.heap.size W W') => ih b (off + 3) x.sz (cap - 1) W' (by omega) (X.out.keep hW' (Nat.le_refl _)))
  obtain ⟨S2, hS2⟩ : ∃ S, S = str zs := ⟨_, rfl⟩
  obtain ⟨S4, hS4⟩ : ∃ S, S = str (126 :: zs) := ⟨_, rfl⟩
  have ad2 : ∀ w, (Op.stringOp .add ⟨#[126]⟩ S2).run Try.prog w = .ok (.string S4) w := fun w => by rw [hS2, hS4]; exact add_str [126] zs (by simp; omega) w
  rw [← hS2] at IH
  rw [← hS4]
  have h1s : (Pt.le 3 0 0).sz = 1 := rfl
  rw [h1s] at RI
  clear h hlen hWb hWs hW hS2 hS4 hs ih hok g2 h1s
  go_enter Try.func38, Try.ntmps38
  go_wp2_with fail
  rw [← HW.out]
  refine (LE.out _ (Below.refl _ _)).mono ?_
  rintro e w' ⟨rfl, rfl⟩
  go_wp2_with fail
  refine (RI.out _ (Below.refl _ _)).mono ?_
  rintro e w' ⟨rfl, rfl⟩
  go_wp2_with fail
  refine (IH.out _ (Below.refl _ _)).mono ?_
  rintro e w1 ⟨rfl, hb1⟩
  have B1 := Lib.hid (HB.out.trans (hb1.mono HB.out.size))
  clear hb1
  go_wp2
  go_ret
  exact ⟨rfl, B1.out⟩

set_option maxHeartbeats 4000000 in
set_option maxRecDepth 100000 in
theorem tx_b4 (x y : Pt) (hok : (Pt.bi 4 x y).ok) (zs zs' : List UInt8) (hz : zs.length + zs'.length ≤ 786432) (ih : TxC x zs) (jh : TxC y zs') : TxC (.bi 4 x y) (40 :: (zs ++ 38 :: (zs' ++ [41]))) := by
  intro b off len cap w hl h
  obtain ⟨hb, c1, c2, c3⟩ := h.head
  have hlen := h.len
  have h0 : 0 < len := by rw [hlen]; exact Pt.sz_pos _
  replace c1 : w.cell? ⟨b, off, none⟩ = some (.int .i64 4) := c1
  replace c2 : w.cell? ⟨b, off + 1, none⟩ = some (.int .i64 0) := c2
  replace c3 : w.cell? ⟨b, off + 2, none⟩ = some (.int .i64 0) := c3
  obtain ⟨W, hW⟩ : ∃ W, W = w.alloc (.cells #[.int .i64 4, .int .i64 0, .int .i64 0] 61) := ⟨_, rfl⟩
  have hWb : Below w.heap.size w W := by rw [hW]; exact (Below.refl _ _).alloc (Nat.le_refl _) _
  have x0 : W.cell? ⟨w.heap.size, 0, none⟩ = some (.int .i64 4) := by rw [hW]; exact World.cell?_alloc_new _ _ _ 0
  have x1 : W.cell? ⟨w.heap.size, 1, none⟩ = some (.int .i64 0) := by rw [hW]; exact World.cell?_alloc_new _ _ _ 1
  have x2 : W.cell? ⟨w.heap.size, 2, none⟩ = some (.int .i64 0) := by rw [hW]; exact World.cell?_alloc_new _ _ _ 2
  have hWs : w.heap.size < W.heap.size := by rw [hW]; simp
  have CB := Lib.hid (fun (w1 : World) (hb1 : Below W.heap.size W w1) => (show w1.cell? ⟨w.heap.size, 0, none⟩ = some (.int .i64 4) ∧ w1.cell? ⟨w.heap.size, 1, none⟩ = some (.int .i64 0) ∧ w1.cell? ⟨w.heap.size, 2, none⟩ = some (.int .i64 0) from ⟨(hb1.cell (p := ⟨w.heap.size, 0, none⟩) hWs).trans x0, (hb1.cell (p := ⟨w.heap.size, 1, none⟩) hWs).trans x1, (hb1.cell (p := ⟨w.heap.size, 2, none⟩) hWs).trans x2⟩))
  have HB := Lib.hid hWb
  have HW := Lib.hid hW
  have hs : (Pt.bi 4 x y).sz = 1 + x.sz + y.sz := rfl
  have LE := Lib.hid (fun W' (hW' : Below W.heap.size W W') => l10Left_any 4 x y hok b off len cap W' (by omega) ((h.keep hWb (Nat.le_refl _)).keep hW' (Nat.le_refl _)))
  have RI := Lib.hid (fun W' (hW' : Below W.heap.size W W') => l10Right_any 4 x y hok b off len cap W' (by omega) ((h.keep hWb (Nat.le_refl _)).keep hW' (Nat.le_refl _)))
  have X := Lib.hid ((h.keep hWb (Nat.le_refl _)).left)
  have Y := Lib.hid ((h.keep hWb (Nat.le_refl _)).right)
  have IH := Lib.hid (fun W' (hW' : Below W.heap.size W W') => ih b (off + 3) x.sz (cap - 1) W' (by omega) (X.out.keep hW' (Nat.le_refl _)))
  have JH := Lib.hid (fun W' (hW' : Below W.heap.size W W') => jh b (off + (1 + x.sz) * 3) y.sz (cap - (1 + x.sz)) W' (by omega) (Y.out.keep hW' (Nat.le_refl _)))
  obtain ⟨S1, hS1⟩ : ∃ S, S = str zs := ⟨_, rfl⟩
  obtain ⟨S2, hS2⟩ : ∃ S, S = str zs' := ⟨_, rfl⟩
  obtain ⟨S3, hS3⟩ : ∃ S, S = str (40 :: zs) := ⟨_, rfl⟩
  obtain ⟨S4, hS4⟩ : ∃ S, S = str ((40 :: zs) ++ [38]) := ⟨_, rfl⟩
  obtain ⟨S5, hS5⟩ : ∃ S, S = str (((40 :: zs) ++ [38]) ++ zs') := ⟨_, rfl⟩
  obtain ⟨S6, hS6⟩ : ∃ S, S = str ((((40 :: zs) ++ [38]) ++ zs') ++ [41]) := ⟨_, rfl⟩
  have ad1 : ∀ w, (Op.stringOp .add ⟨#[40]⟩ S1).run Try.prog w = .ok (.string S3) w := fun w => by rw [hS1, hS3]; exact add_str [40] zs (by simp; omega) w
  have ad2 : ∀ w, (Op.stringOp .add S3 ⟨#[38]⟩).run Try.prog w = .ok (.string S4) w := fun w => by rw [hS3, hS4]; exact add_str (40 :: zs) [38] (by simp; omega) w
  have ad3 : ∀ w, (Op.stringOp .add S4 S2).run Try.prog w = .ok (.string S5) w := fun w => by rw [hS4, hS2, hS5]; exact add_str ((40 :: zs) ++ [38]) zs' (by simp; omega) w
  have ad4 : ∀ w, (Op.stringOp .add S5 ⟨#[41]⟩).run Try.prog w = .ok (.string S6) w := fun w => by rw [hS5, hS6]; exact add_str (((40 :: zs) ++ [38]) ++ zs') [41] (by simp; omega) w
  rw [← hS1] at IH
  rw [← hS2] at JH
  have e6 : str (40 :: (zs ++ 38 :: (zs' ++ [41]))) = S6 := by rw [hS6]; congr 1; simp
  rw [e6]
  clear h hlen hWb hWs hW hS1 hS2 hS3 hS4 hS5 hS6 hs ih jh hok e6
  go_enter Try.func38, Try.ntmps38
  go_wp2_with fail
  rw [← HW.out]
  refine (LE.out _ (Below.refl _ _)).mono ?_
  rintro e w' ⟨rfl, rfl⟩
  go_wp2_with fail
  refine (RI.out _ (Below.refl _ _)).mono ?_
  rintro e w' ⟨rfl, rfl⟩
  go_wp2_with fail
  refine (IH.out _ (Below.refl _ _)).mono ?_
  rintro e w1 ⟨rfl, hb1⟩
  have T1 := Lib.hid hb1
  have B1 := Lib.hid (HB.out.trans (hb1.mono HB.out.size))
  clear hb1
  go_wp2_with fail
  refine (JH.out _ T1.out).mono ?_
  rintro e w2 ⟨rfl, hb2⟩
  have B2 := Lib.hid (B1.out.trans (hb2.mono B1.out.size))
  clear hb2
  go_wp2
  go_ret
  exact ⟨rfl, B2.out⟩

set_option maxHeartbeats 4000000 in
set_option maxRecDepth 100000 in
theorem tx_b5 (x y : Pt) (hok : (Pt.bi 5 x y).ok) (zs zs' : List UInt8) (hz : zs.length + zs'.length ≤ 786432) (ih : TxC x zs) (jh : TxC y zs') : TxC (.bi 5 x y) (40 :: (zs ++ 124 :: (zs' ++ [41]))) := by
  intro b off len cap w hl h
  obtain ⟨hb, c1, c2, c3⟩ := h.head
  have hlen := h.len
  have h0 : 0 < len := by rw [hlen]; exact Pt.sz_pos _
  replace c1 : w.cell? ⟨b, off, none⟩ = some (.int .i64 5) := c1
  replace c2 : w.cell? ⟨b, off + 1, none⟩ = some (.int .i64 0) := c2
  replace c3 : w.cell? ⟨b, off + 2, none⟩ = some (.int .i64 0) := c3
  obtain ⟨W, hW⟩ : ∃ W, W = w.alloc (.cells #[.int .i64 5, .int .i64 0, .int .i64 0] 61) := ⟨_, rfl⟩
  have hWb : Below w.heap.size w W := by rw [hW]; exact (Below.refl _ _).alloc (Nat.le_refl _) _
  have x0 : W.cell? ⟨w.heap.size, 0, none⟩ = some (.int .i64 5) := by rw [hW]; exact World.cell?_alloc_new _ _ _ 0
  have x1 : W.cell? ⟨w.heap.size, 1, none⟩ = some (.int .i64 0) := by rw [hW]; exact World.cell?_alloc_new _ _ _ 1
  have x2 : W.cell? ⟨w.heap.size, 2, none⟩ = some (.int .i64 0) := by rw [hW]; exact World.cell?_alloc_new _ _ _ 2
  have hWs : w.heap.size < W.heap.size := by rw [hW]; simp
  have CB := Lib.hid (fun (w1 : World) (hb1 : Below W.heap.size W w1) => (show w1.cell? ⟨w.heap.size, 0, none⟩ = some (.int .i64 5) ∧ w1.cell? ⟨w.heap.size, 1, none⟩ = some (.int .i64 0) ∧ w1.cell? ⟨w.heap.size, 2, none⟩ = some (.int .i64 0) from ⟨(hb1.cell (p := ⟨w.heap.size, 0, none⟩) hWs).trans x0, (hb1.cell (p := ⟨w.heap.size, 1, none⟩) hWs).trans x1, (hb1.cell (p := ⟨w.heap.size, 2, none⟩) hWs).trans x2⟩))
  have HB := Lib.hid hWb
  have HW := Lib.hid hW
  have hs : (Pt.bi 5 x y).sz = 1 + x.sz + y.sz := rfl
  have LE := Lib.hid (fun W' (hW' : Below W.heap.size W W') => l10Left_any 5 x y hok b off len cap W' (by omega) ((h.keep hWb (Nat.le_refl _)).keep hW' (Nat.le_refl _)))
  have RI := Lib.hid (fun W' (hW' : Below W.heap.size W W') => l10Right_any 5 x y hok b off len cap W' (by omega) ((h.keep hWb (Nat.le_refl _)).keep hW' (Nat.le_refl _)))
  have X := Lib.hid ((h.keep hWb (Nat.le_refl _)).left)
  have Y := Lib.hid ((h.keep hWb (Nat.le_refl _)).right)
  have IH := Lib.hid (fun W' (hW' : Below W.heap.size W W') => ih b (off + 3) x.sz (cap - 1) W' (by omega) (X.out.keep hW' (Nat.le_refl _)))
  have JH := Lib.hid (fun W' (hW' : Below W.heap.size W W') => jh b (off + (1 + x.sz) * 3) y.sz (cap - (1 + x.sz)) W' (by omega) (Y.out.keep hW' (Nat.le_refl _)))
  obtain ⟨S1, hS1⟩ : ∃ S, S = str zs := ⟨_, rfl⟩
  obtain ⟨S2, hS2⟩ : ∃ S, S = str zs' := ⟨_, rfl⟩
  obtain ⟨S3, hS3⟩ : ∃ S, S = str (40 :: zs) := ⟨_, rfl⟩
  obtain ⟨S4, hS4⟩ : ∃ S, S = str ((40 :: zs) ++ [124]) := ⟨_, rfl⟩
  obtain ⟨S5, hS5⟩ : ∃ S, S = str (((40 :: zs) ++ [124]) ++ zs') := ⟨_, rfl⟩
  obtain ⟨S6, hS6⟩ : ∃ S, S = str ((((40 :: zs) ++ [124]) ++ zs') ++ [41]) := ⟨_, rfl⟩
  have ad1 : ∀ w, (Op.stringOp .add ⟨#[40]⟩ S1).run Try.prog w = .ok (.string S3) w := fun w => by rw [hS1, hS3]; exact add_str [40] zs (by simp; omega) w
  have ad2 : ∀ w, (Op.stringOp .add S3 ⟨#[124]⟩).run Try.prog w = .ok (.string S4) w := fun w => by rw [hS3, hS4]; exact add_str (40 :: zs) [124] (by simp; omega) w
  have ad3 : ∀ w, (Op.stringOp .add S4 S2).run Try.prog w = .ok (.string S5) w := fun w => by rw [hS4, hS2, hS5]; exact add_str ((40 :: zs) ++ [124]) zs' (by simp; omega) w
  have ad4 : ∀ w, (Op.stringOp .add S5 ⟨#[41]⟩).run Try.prog w = .ok (.string S6) w := fun w => by rw [hS5, hS6]; exact add_str (((40 :: zs) ++ [124]) ++ zs') [41] (by simp; omega) w
  rw [← hS1] at IH
  rw [← hS2] at JH
  have e6 : str (40 :: (zs ++ 124 :: (zs' ++ [41]))) = S6 := by rw [hS6]; congr 1; simp
  rw [e6]
  clear h hlen hWb hWs hW hS1 hS2 hS3 hS4 hS5 hS6 hs ih jh hok e6
  go_enter Try.func38, Try.ntmps38
  go_wp2_with fail
  rw [← HW.out]
  refine (LE.out _ (Below.refl _ _)).mono ?_
  rintro e w' ⟨rfl, rfl⟩
  go_wp2_with fail
  refine (RI.out _ (Below.refl _ _)).mono ?_
  rintro e w' ⟨rfl, rfl⟩
  go_wp2_with fail
  refine (IH.out _ (Below.refl _ _)).mono ?_
  rintro e w1 ⟨rfl, hb1⟩
  have T1 := Lib.hid hb1
  have B1 := Lib.hid (HB.out.trans (hb1.mono HB.out.size))
  clear hb1
  go_wp2_with fail
  refine (JH.out _ T1.out).mono ?_
  rintro e w2 ⟨rfl, hb2⟩
  have B2 := Lib.hid (B1.out.trans (hb2.mono B1.out.size))
  clear hb2
  go_wp2
  go_ret
  exact ⟨rfl, B2.out⟩

set_option maxHeartbeats 4000000 in
set_option maxRecDepth 100000 in
theorem tx_b6 (x y : Pt) (hok : (Pt.bi 6 x y).ok) (zs zs' : List UInt8) (hz : zs.length + zs'.length ≤ 786432) (hn : (y.kind == 3) = false) (ih : TxC x zs) (jh : TxC y zs') : TxC (.bi 6 x y) (40 :: (zs ++ 62 :: (zs' ++ [41]))) := by
  intro b off len cap w hl h
  obtain ⟨hb, c1, c2, c3⟩ := h.head
  have hlen := h.len
  have h0 : 0 < len := by rw [hlen]; exact Pt.sz_pos _
  replace c1 : w.cell? ⟨b, off, none⟩ = some (.int .i64 6) := c1
  replace c2 : w.cell? ⟨b, off + 1, none⟩ = some (.int .i64 0) := c2
  replace c3 : w.cell? ⟨b, off + 2, none⟩ = some (.int .i64 0) := c3
  obtain ⟨W, hW⟩ : ∃ W, W = w.alloc (.cells #[.int .i64 6, .int .i64 0, .int .i64 0] 61) := ⟨_, rfl⟩
  have hWb : Below w.heap.size w W := by rw [hW]; exact (Below.refl _ _).alloc (Nat.le_refl _) _
  have x0 : W.cell? ⟨w.heap.size, 0, none⟩ = some (.int .i64 6) := by rw [hW]; exact World.cell?_alloc_new _ _ _ 0
  have x1 : W.cell? ⟨w.heap.size, 1, none⟩ = some (.int .i64 0) := by rw [hW]; exact World.cell?_alloc_new _ _ _ 1
  have x2 : W.cell? ⟨w.heap.size, 2, none⟩ = some (.int .i64 0) := by rw [hW]; exact World.cell?_alloc_new _ _ _ 2
  have hWs : w.heap.size < W.heap.size := by rw [hW]; simp
  have CB := Lib.hid (fun (w1 : World) (hb1 : Below W.heap.size W w1) => (show w1.cell? ⟨w.heap.size, 0, none⟩ = some (.int .i64 6) ∧ w1.cell? ⟨w.heap.size, 1, none⟩ = some (.int .i64 0) ∧ w1.cell? ⟨w.heap.size, 2, none⟩ = some (.int .i64 0) from ⟨(hb1.cell (p := ⟨w.heap.size, 0, none⟩) hWs).trans x0, (hb1.cell (p := ⟨w.heap.size, 1, none⟩) hWs).trans x1, (hb1.cell (p := ⟨w.heap.size, 2, none⟩) hWs).trans x2⟩))
  have HB := Lib.hid hWb
  have HW := Lib.hid hW
  have hs : (Pt.bi 6 x y).sz = 1 + x.sz + y.sz := rfl
  have LE := Lib.hid (fun W' (hW' : Below W.heap.size W W') => l10Left_any 6 x y hok b off len cap W' (by omega) ((h.keep hWb (Nat.le_refl _)).keep hW' (Nat.le_refl _)))
  have RI := Lib.hid (fun W' (hW' : Below W.heap.size W W') => l10Right_any 6 x y hok b off len cap W' (by omega) ((h.keep hWb (Nat.le_refl _)).keep hW' (Nat.le_refl _)))
  have X := Lib.hid ((h.keep hWb (Nat.le_refl _)).left)
  have Y := Lib.hid ((h.keep hWb (Nat.le_refl _)).right)
  have IH := Lib.hid (fun W' (hW' : Below W.heap.size W W') => ih b (off + 3) x.sz (cap - 1) W' (by omega) (X.out.keep hW' (Nat.le_refl _)))
  have JH := Lib.hid (fun W' (hW' : Below W.heap.size W W') => jh b (off + (1 + x.sz) * 3) y.sz (cap - (1 + x.sz)) W' (by omega) (Y.out.keep hW' (Nat.le_refl _)))
  obtain ⟨g1, g2, -⟩ := Y.out.head
  have gy := y.sz_pos
  obtain ⟨q, hq⟩ : ∃ q, q = y.kind := ⟨_, rfl⟩
  rw [← hq] at g2 hn
  clear hq
  obtain ⟨S1, hS1⟩ : ∃ S, S = str zs := ⟨_, rfl⟩
  obtain ⟨S2, hS2⟩ : ∃ S, S = str zs' := ⟨_, rfl⟩
  obtain ⟨S3, hS3⟩ : ∃ S, S = str (40 :: zs) := ⟨_, rfl⟩
  obtain ⟨S4, hS4⟩ : ∃ S, S = str ((40 :: zs) ++ [62]) := ⟨_, rfl⟩
  obtain ⟨S5, hS5⟩ : ∃ S, S = str (((40 :: zs) ++ [62]) ++ zs') := ⟨_, rfl⟩
  obtain ⟨S6, hS6⟩ : ∃ S, S = str ((((40 :: zs) ++ [62]) ++ zs') ++ [41]) := ⟨_, rfl⟩
  have ad1 : ∀ w, (Op.stringOp .add ⟨#[40]⟩ S1).run Try.prog w = .ok (.string S3) w := fun w => by rw [hS1, hS3]; exact add_str [40] zs (by simp; omega) w
  have ad2 : ∀ w, (Op.stringOp .add S3 ⟨#[62]⟩).run Try.prog w = .ok (.string S4) w := fun w => by rw [hS3, hS4]; exact add_str (40 :: zs) [62] (by simp; omega) w
  have ad3 : ∀ w, (Op.stringOp .add S4 S2).run Try.prog w = .ok (.string S5) w := fun w => by rw [hS4, hS2, hS5]; exact add_str ((40 :: zs) ++ [62]) zs' (by simp; omega) w
  have ad4 : ∀ w, (Op.stringOp .add S5 ⟨#[41]⟩).run Try.prog w = .ok (.string S6) w := fun w => by rw [hS5, hS6]; exact add_str (((40 :: zs) ++ [62]) ++ zs') [41] (by simp; omega) w
  rw [← hS1] at IH
  rw [← hS2] at JH
  have e6 : str (40 :: (zs ++ 62 :: (zs' ++ [41]))) = S6 := by rw [hS6]; congr 1; simp
  rw [e6]
  clear h hlen hWb hWs hW hS1 hS2 hS3 hS4 hS5 hS6 hs ih jh hok e6
  go_enter Try.func38, Try.ntmps38
  go_wp2_with fail
  rw [← HW.out]
  refine (LE.out _ (Below.refl _ _)).mono ?_
  rintro e w' ⟨rfl, rfl⟩
  go_wp2_with fail
  refine (RI.out _ (Below.refl _ _)).mono ?_
  rintro e w' ⟨rfl, rfl⟩
  go_wp2_with fail
  refine (IH.out _ (Below.refl _ _)).mono ?_
  rintro e w1 ⟨rfl, hb1⟩
  have T1 := Lib.hid hb1
  have B1 := Lib.hid (HB.out.trans (hb1.mono HB.out.size))
  clear hb1
  go_wp2_with fail
  refine (JH.out _ T1.out).mono ?_
  rintro e w2 ⟨rfl, hb2⟩
  have B2 := Lib.hid (B1.out.trans (hb2.mono B1.out.size))
  clear hb2
  go_wp2
  go_ret
  exact ⟨rfl, B2.out⟩

theorem kind_f {y : Pt} (hy : y.ok) : (y.kind == 3) = decide (y.enc = [(3, 0, 0)]) := by
  rw [Bool.eq_iff_iff, decide_eq_true_eq, beq_iff_eq]
  constructor
  · intro h
    cases y with
    | le k f s =>
      obtain rfl : k = 3 := h
      rcases hy with ⟨h, -⟩ | ⟨h, -⟩ | ⟨-, rfl, rfl⟩
      · omega
      · omega
      · rfl
    | bi k a b => exfalso; have e : k = 3 := h; have := hy.1; omega
    | un k x a => exfalso; have e : k = 3 := h; have := hy.1; omega
  · intro h
    cases y with
    | le k f s => simp [Pt.enc] at h; exact h.1
    | bi k a b => simp only [Pt.enc, List.cons.injEq, Prod.mk.injEq] at h; exact h.1.1
    | un k x a => simp only [Pt.enc, List.cons.injEq, Prod.mk.injEq] at h; exact h.1.1
theorem enc_f {y : Pt} (hy : y.ok) (h : y.enc = [(3, 0, 0)]) : y = .le 3 0 0 :=
  (encP_inj y hy (.le 3 0 0) [] [] (.inr (.inr ⟨rfl, rfl, rfl⟩)) (by rw [h]; rfl)).1

theorem l10Text_any (f : Pt) (hf : f.ok) (hz : f.sz ≤ 262144) : TxC f f.wr := by
  induction f with
  | le k x y =>
    rcases hf with ⟨rfl | rfl, h1, h2, h3, h4⟩ | ⟨rfl, h1, h2, h3, h4⟩ | ⟨rfl, rfl, rfl⟩
    · rw [Pt.wr, if_pos rfl]; exact tx_s x y h1 h2 h3 h4
    · rw [Pt.wr, if_neg (by omega), if_pos rfl]; exact tx_e x y h1 h2 h3 h4
    · rw [Pt.wr, if_neg (by omega), if_neg (by omega), if_pos rfl]; exact tx_v x y h1 h2 h3 h4
    · rw [Pt.wr, if_neg (by omega), if_neg (by omega), if_neg (by omega)]; exact tx_f
  | un k x a ih =>
    have hs : (Pt.un k x a).sz = 1 + a.sz := rfl
    have hl := a.wr_len
    rw [Pt.wr]
    rcases hf.1 with rfl | rfl
    · rw [if_pos rfl]; exact tx_q7 x a _ (by omega) hf.2.1.1 hf.2.1.2 (ih hf.2.2 (by omega))
    · rw [if_neg (by omega)]; exact tx_q8 x a _ (by omega) hf.2.1.1 hf.2.1.2 (ih hf.2.2 (by omega))
  | bi k a b iha ihb =>
    have hs : (Pt.bi k a b).sz = 1 + a.sz + b.sz := rfl
    have hla := a.wr_len
    have hlb := b.wr_len
    rw [Pt.wr]
    by_cases hn : k = 6 ∧ b.enc = [(3, 0, 0)]
    · rw [if_pos hn]
      obtain ⟨rfl, hb⟩ := hn
      rw [enc_f hf.2.2 hb]
      exact tx_neg a hf.2.1 _ (by omega) (iha hf.2.1 (by omega))
    · rw [if_neg hn]
      rcases hf.1 with rfl | rfl | rfl
      · rw [if_pos rfl]; exact tx_b4 a b hf _ _ (by omega) (iha hf.2.1 (by omega)) (ihb hf.2.2 (by omega))
      · rw [if_neg (by omega), if_pos rfl]; exact tx_b5 a b hf _ _ (by omega) (iha hf.2.1 (by omega)) (ihb hf.2.2 (by omega))
      · rw [if_neg (by omega), if_neg (by omega)]; exact tx_b6 a b hf _ _ (by omega) (by rw [kind_f hf.2.2]; exact decide_eq_false fun h => hn ⟨rfl, h⟩) (iha hf.2.1 (by omega)) (ihb hf.2.2 (by omega))

end Go.Proofs.Ytfkdefmafhlmnaa
