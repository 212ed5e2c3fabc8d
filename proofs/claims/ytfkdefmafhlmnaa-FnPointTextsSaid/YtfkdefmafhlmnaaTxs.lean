/- The model's text of a point formula. Conditions: those in the theorems. -/
import Derived.Deep.RegionWith
import Derived.Deep.RegionLaw
import Derived.RegionTactic
import Derived.BigRegion
import Derived.ChangeAlike
import Derived.Test.YtfkdefmafhlmnaaDec
import Derived.Test.YtfkdefmafhlmnaaJn06
namespace Go.Proofs.Ytfkdefmafhlmnaa
open Go.RowKit

theorem below_undrew {C : Nat} {w w' : World} (h : Below C w.drew w') : Below C w w' := ⟨h.os, h.tape, h.output, h.size, h.block⟩
/-- What l10Text is to do. -/
def TxC (f : Pt) (zs : List UInt8) : Prop := ∀ (b off len cap : Nat) (w : World), len ≤ 262144 → AtT w b off len cap f →
    Calls Try.prog 38 #[.slice (some ⟨b, off, none⟩) len cap] w fun e w' => e = .returned (.string (str zs)) ∧ Below w.heap.size w w'

set_option maxHeartbeats 4000000 in
set_option maxRecDepth 100000 in
theorem tx_s (f s : Int) (h1 : 0 ≤ f) (h2 : f ≤ 9) (h3 : 0 ≤ s) (h4 : s ≤ 9) : TxC (.le 0 f s) [82, dg f, dg s] := by
  intro b off len cap w hl h
  obtain ⟨hb, c1, c2, c3⟩ := h.head
  have hlen := h.len
  have h0 : 0 < len := by rw [hlen]; exact Pt.sz_pos _
  replace c1 : w.cell? ⟨b, off, none⟩ = some (.int .i64 0) := c1
  replace c2 : w.cell? ⟨b, off + 1, none⟩ = some (.int .i64 f) := c2
  replace c3 : w.cell? ⟨b, off + 2, none⟩ = some (.int .i64 s) := c3
  obtain ⟨W, hW⟩ : ∃ W, W = w.alloc (.cells #[.int .i64 0, .int .i64 f, .int .i64 s] 61) := ⟨_, rfl⟩
  have hWb : Below w.heap.size w W := by rw [hW]; exact (Below.refl _ _).alloc (Nat.le_refl _) _
  have x0 : W.cell? ⟨w.heap.size, 0, none⟩ = some (.int .i64 0) := by rw [hW]; exact World.cell?_alloc_new _ _ _ 0
  have x1 : W.cell? ⟨w.heap.size, 1, none⟩ = some (.int .i64 f) := by rw [hW]; exact World.cell?_alloc_new _ _ _ 1
  have x2 : W.cell? ⟨w.heap.size, 2, none⟩ = some (.int .i64 s) := by rw [hW]; exact World.cell?_alloc_new _ _ _ 2
  have hWs : w.heap.size < W.heap.size := by rw [hW]; simp
  have CB := Lib.hid (fun (w1 : World) (hb1 : Below W.heap.size W w1) => (show w1.cell? ⟨w.heap.size, 0, none⟩ = some (.int .i64 0) ∧ w1.cell? ⟨w.heap.size, 1, none⟩ = some (.int .i64 f) ∧ w1.cell? ⟨w.heap.size, 2, none⟩ = some (.int .i64 s) from ⟨(hb1.cell (p := ⟨w.heap.size, 0, none⟩) hWs).trans x0, (hb1.cell (p := ⟨w.heap.size, 1, none⟩) hWs).trans x1, (hb1.cell (p := ⟨w.heap.size, 2, none⟩) hWs).trans x2⟩))
  have HB := Lib.hid hWb
  have HW := Lib.hid hW
  have KA := Lib.hid (fun W => (l01Dec_d f h1 h2 W))
  have KB := Lib.hid (fun W => (l01Dec_d s h3 h4 W))
  obtain ⟨S1, hS1⟩ : ∃ S, S = str [dg f] := ⟨_, rfl⟩
  obtain ⟨S2, hS2⟩ : ∃ S, S = str [dg s] := ⟨_, rfl⟩
  obtain ⟨S3, hS3⟩ : ∃ S, S = str [82, dg f] := ⟨_, rfl⟩
  obtain ⟨S4, hS4⟩ : ∃ S, S = str [82, dg f, dg s] := ⟨_, rfl⟩
  have ad1 : ∀ w, (Op.stringOp .add ⟨#[82]⟩ S1).run Try.prog w = .ok (.string S3) w := fun w => by rw [hS1, hS3]; exact add_str [82] [dg f] (by simp) w
  have ad2 : ∀ w, (Op.stringOp .add S3 S2).run Try.prog w = .ok (.string S4) w := fun w => by rw [hS2, hS3, hS4]; exact add_str [82, dg f] [dg s] (by simp) w
  rw [← hS1] at KA
  rw [← hS2] at KB
  rw [← hS4]
  clear h hlen hWb hWs hW hS1 hS2 hS3 hS4
  go_enter Try.func38, Try.ntmps38
  go_wp2
  rw [← HW.out]
  clear c1 c2 c3
  go_region_law (first | (go_simp; go_at_call_of 68 f; refine (KA.out _).mono ?_; rintro e w1 ⟨rfl, hb⟩; have T1 := Lib.hid (show Below W.heap.size W w1 from below_undrew hb); clear hb; obtain ⟨y0, y1, y2⟩ := CB.out _ T1.out) | (go_simp; go_at_call_of 68 s; refine (KB.out _).mono ?_; rintro e w2 ⟨rfl, hb⟩; have T2 := Lib.hid (T1.out.trans (hb.mono T1.out.size)); clear hb; obtain ⟨z0, z1, z2⟩ := CB.out _ T2.out))
  all_goals
    go_wp2
    go_ret
    exact ⟨rfl, HB.out.trans (T2.out.mono HB.out.size)⟩

set_option maxHeartbeats 4000000 in
set_option maxRecDepth 100000 in
theorem tx_e (f s : Int) (h1 : 0 ≤ f) (h2 : f ≤ 9) (h3 : 0 ≤ s) (h4 : s ≤ 9) : TxC (.le 1 f s) [dg f, 61, dg s] := by
  intro b off len cap w hl h
  obtain ⟨hb, c1, c2, c3⟩ := h.head
  have hlen := h.len
  have h0 : 0 < len := by rw [hlen]; exact Pt.sz_pos _
  replace c1 : w.cell? ⟨b, off, none⟩ = some (.int .i64 1) := c1
  replace c2 : w.cell? ⟨b, off + 1, none⟩ = some (.int .i64 f) := c2
  replace c3 : w.cell? ⟨b, off + 2, none⟩ = some (.int .i64 s) := c3
  obtain ⟨W, hW⟩ : ∃ W, W = w.alloc (.cells #[.int .i64 1, .int .i64 f, .int .i64 s] 61) := ⟨_, rfl⟩
  have hWb : Below w.heap.size w W := by rw [hW]; exact (Below.refl _ _).alloc (Nat.le_refl _) _
  have x0 : W.cell? ⟨w.heap.size, 0, none⟩ = some (.int .i64 1) := by rw [hW]; exact World.cell?_alloc_new _ _ _ 0
  have x1 : W.cell? ⟨w.heap.size, 1, none⟩ = some (.int .i64 f) := by rw [hW]; exact World.cell?_alloc_new _ _ _ 1
  have x2 : W.cell? ⟨w.heap.size, 2, none⟩ = some (.int .i64 s) := by rw [hW]; exact World.cell?_alloc_new _ _ _ 2
  have hWs : w.heap.size < W.heap.size := by rw [hW]; simp
  have CB := Lib.hid (fun (w1 : World) (hb1 : Below W.heap.size W w1) => (show w1.cell? ⟨w.heap.size, 0, none⟩ = some (.int .i64 1) ∧ w1.cell? ⟨w.heap.size, 1, none⟩ = some (.int .i64 f) ∧ w1.cell? ⟨w.heap.size, 2, none⟩ = some (.int .i64 s) from ⟨(hb1.cell (p := ⟨w.heap.size, 0, none⟩) hWs).trans x0, (hb1.cell (p := ⟨w.heap.size, 1, none⟩) hWs).trans x1, (hb1.cell (p := ⟨w.heap.size, 2, none⟩) hWs).trans x2⟩))
  have HB := Lib.hid hWb
  have HW := Lib.hid hW
  have KA := Lib.hid (fun W => (l01Dec_d f h1 h2 W))
  have KB := Lib.hid (fun W => (l01Dec_d s h3 h4 W))
  obtain ⟨S1, hS1⟩ : ∃ S, S = str [dg f] := ⟨_, rfl⟩
  obtain ⟨S2, hS2⟩ : ∃ S, S = str [dg s] := ⟨_, rfl⟩
  obtain ⟨S3, hS3⟩ : ∃ S, S = str [dg f, 61] := ⟨_, rfl⟩
  obtain ⟨S4, hS4⟩ : ∃ S, S = str [dg f, 61, dg s] := ⟨_, rfl⟩
  have ad1 : ∀ w, (Op.stringOp .add S1 ⟨#[61]⟩).run Try.prog w = .ok (.string S3) w := fun w => by rw [hS1, hS3]; exact add_str [dg f] [61] (by simp) w
  have ad2 : ∀ w, (Op.stringOp .add S3 S2).run Try.prog w = .ok (.string S4) w := fun w => by rw [hS2, hS3, hS4]; exact add_str [dg f, 61] [dg s] (by simp) w
  rw [← hS1] at KA
  rw [← hS2] at KB
  rw [← hS4]
  clear h hlen hWb hWs hW hS1 hS2 hS3 hS4
  go_enter Try.func38, Try.ntmps38
  go_wp2
  rw [← HW.out]
  clear c1 c2 c3
  go_region_law (first | (go_simp; go_at_call_of 68 f; refine (KA.out _).mono ?_; rintro e w1 ⟨rfl, hb⟩; have T1 := Lib.hid (show Below W.heap.size W w1 from below_undrew hb); clear hb; obtain ⟨y0, y1, y2⟩ := CB.out _ T1.out) | (go_simp; go_at_call_of 68 s; refine (KB.out _).mono ?_; rintro e w2 ⟨rfl, hb⟩; have T2 := Lib.hid (T1.out.trans (hb.mono T1.out.size)); clear hb; obtain ⟨z0, z1, z2⟩ := CB.out _ T2.out))
  all_goals
    go_wp2
    go_ret
    exact ⟨rfl, HB.out.trans (T2.out.mono HB.out.size)⟩

set_option maxHeartbeats 4000000 in
set_option maxRecDepth 100000 in
theorem tx_v (f s : Int) (h1 : 0 ≤ f) (h2 : f ≤ 5) (h3 : 0 ≤ s) (h4 : s ≤ 9) : TxC (.le 2 f s) [UInt8.ofNat (112 + f.toNat), dg s] := by
  intro b off len cap w hl h
  obtain ⟨hb, c1, c2, c3⟩ := h.head
  have hlen := h.len
  have h0 : 0 < len := by rw [hlen]; exact Pt.sz_pos _
  replace c1 : w.cell? ⟨b, off, none⟩ = some (.int .i64 2) := c1
  replace c2 : w.cell? ⟨b, off + 1, none⟩ = some (.int .i64 f) := c2
  replace c3 : w.cell? ⟨b, off + 2, none⟩ = some (.int .i64 s) := c3
  obtain ⟨W, hW⟩ : ∃ W, W = w.alloc (.cells #[.int .i64 2, .int .i64 f, .int .i64 s] 61) := ⟨_, rfl⟩
  have hWb : Below w.heap.size w W := by rw [hW]; exact (Below.refl _ _).alloc (Nat.le_refl _) _
  have x0 : W.cell? ⟨w.heap.size, 0, none⟩ = some (.int .i64 2) := by rw [hW]; exact World.cell?_alloc_new _ _ _ 0
  have x1 : W.cell? ⟨w.heap.size, 1, none⟩ = some (.int .i64 f) := by rw [hW]; exact World.cell?_alloc_new _ _ _ 1
  have x2 : W.cell? ⟨w.heap.size, 2, none⟩ = some (.int .i64 s) := by rw [hW]; exact World.cell?_alloc_new _ _ _ 2
  have hWs : w.heap.size < W.heap.size := by rw [hW]; simp
  have CB := Lib.hid (fun (w1 : World) (hb1 : Below W.heap.size W w1) => (show w1.cell? ⟨w.heap.size, 0, none⟩ = some (.int .i64 2) ∧ w1.cell? ⟨w.heap.size, 1, none⟩ = some (.int .i64 f) ∧ w1.cell? ⟨w.heap.size, 2, none⟩ = some (.int .i64 s) from ⟨(hb1.cell (p := ⟨w.heap.size, 0, none⟩) hWs).trans x0, (hb1.cell (p := ⟨w.heap.size, 1, none⟩) hWs).trans x1, (hb1.cell (p := ⟨w.heap.size, 2, none⟩) hWs).trans x2⟩))
  have HB := Lib.hid hWb
  have HW := Lib.hid hW
  have KB := Lib.hid (fun W => (l01Dec_d s h3 h4 W))
  have KV := Lib.hid (fun W => (l10Var_any f W))
  have KT : Hid (∀ (W : World) (v : Value) (B : Nat), OwnN W B v [(0, f)] → Calls Try.prog 69 #[v] W fun e w' => e = .returned (.string (str [UInt8.ofNat (112 + f.toNat)])) ∧ Below W.heap.size W w') := Lib.hid (fun W v B ho => by
    obtain ⟨a, c, rfl, hat, hc, -, -⟩ := ho.at
    obtain ⟨b', off', ha, -, -⟩ := hat.2.resolve_left (by simp)
    subst ha
    have hmx : c ≤ maxLen := by
      rcases ho.2 with ⟨h2, -⟩ | ⟨g, cap', cur, h2, -, -, -, hm, -⟩
      · cases h2
      · simp at h2; rw [h2.2]; exact hm
    exact l02Text_any (.va f) ⟨h1, by omega⟩ b' off' 1 c W (by omega) ⟨hat, hc, hmx⟩)
  obtain ⟨S1, hS1⟩ : ∃ S, S = str [UInt8.ofNat (112 + f.toNat)] := ⟨_, rfl⟩
  obtain ⟨S2, hS2⟩ : ∃ S, S = str [dg s] := ⟨_, rfl⟩
  obtain ⟨S4, hS4⟩ : ∃ S, S = str [UInt8.ofNat (112 + f.toNat), dg s] := ⟨_, rfl⟩
  have ad2 : ∀ w, (Op.stringOp .add S1 S2).run Try.prog w = .ok (.string S4) w := fun w => by rw [hS2, hS1, hS4]; exact add_str [UInt8.ofNat (112 + f.toNat)] [dg s] (by simp) w
  rw [← hS1] at KT
  rw [← hS2] at KB
  rw [← hS4]
  clear h hlen hWb hWs hW hS1 hS2 hS4
  go_enter Try.func38, Try.ntmps38
  go_wp2
  rw [← HW.out]
  clear c1 c2 c3
  go_region_law (first | (go_simp; go_at_call 70; refine (KV.out _).mono ?_; rintro e w1 ⟨v1, rfl, ho, hb⟩; have T1 := Lib.hid (show Below W.heap.size W w1 from below_undrew hb); have O1 := Lib.hid ho; clear hb ho; obtain ⟨y0, y1, y2⟩ := CB.out _ T1.out) | (go_simp; go_at_call 69; refine (KT.out _ _ _ O1.out).mono ?_; rintro e w2 ⟨rfl, hb⟩; have T2 := Lib.hid (T1.out.trans (hb.mono T1.out.size)); clear hb; obtain ⟨z0, z1, z2⟩ := CB.out _ T2.out) | (go_simp; go_at_call_of 68 s; refine (KB.out _).mono ?_; rintro e w3 ⟨rfl, hb⟩; have T3 := Lib.hid (T2.out.trans (hb.mono T2.out.size)); clear hb; obtain ⟨q0, q1, q2⟩ := CB.out _ T3.out))
  all_goals
    go_wp2
    go_ret
    exact ⟨rfl, HB.out.trans (T3.out.mono HB.out.size)⟩

set_option maxHeartbeats 4000000 in
set_option maxRecDepth 100000 in
theorem tx_f : TxC (.le 3 0 0) [70] := by
  intro b off len cap w hl h
  obtain ⟨hb, c1, c2, c3⟩ := h.head
  have hlen := h.len
  have h0 : 0 < len := by rw [hlen]; exact Pt.sz_pos _
  replace c1 : w.cell? ⟨b, off, none⟩ = some (.int .i64 3) := c1
  replace c2 : w.cell? ⟨b, off + 1, none⟩ = some (.int .i64 0) := c2
  replace c3 : w.cell? ⟨b, off + 2, none⟩ = some (.int .i64 0) := c3
  obtain ⟨W, hW⟩ : ∃ W, W = w.alloc (.cells #[.int .i64 3, .int .i64 0, .int .i64 0] 61) := ⟨_, rfl⟩
  have hWb : Below w.heap.size w W := by rw [hW]; exact (Below.refl _ _).alloc (Nat.le_refl _) _
  have x0 : W.cell? ⟨w.heap.size, 0, none⟩ = some (.int .i64 3) := by rw [hW]; exact World.cell?_alloc_new _ _ _ 0
  have x1 : W.cell? ⟨w.heap.size, 1, none⟩ = some (.int .i64 0) := by rw [hW]; exact World.cell?_alloc_new _ _ _ 1
  have x2 : W.cell? ⟨w.heap.size, 2, none⟩ = some (.int .i64 0) := by rw [hW]; exact World.cell?_alloc_new _ _ _ 2
  have hWs : w.heap.size < W.heap.size := by rw [hW]; simp
  have CB := Lib.hid (fun (w1 : World) (hb1 : Below W.heap.size W w1) => (show w1.cell? ⟨w.heap.size, 0, none⟩ = some (.int .i64 3) ∧ w1.cell? ⟨w.heap.size, 1, none⟩ = some (.int .i64 0) ∧ w1.cell? ⟨w.heap.size, 2, none⟩ = some (.int .i64 0) from ⟨(hb1.cell (p := ⟨w.heap.size, 0, none⟩) hWs).trans x0, (hb1.cell (p := ⟨w.heap.size, 1, none⟩) hWs).trans x1, (hb1.cell (p := ⟨w.heap.size, 2, none⟩) hWs).trans x2⟩))
  have HB := Lib.hid hWb
  have HW := Lib.hid hW
  clear h hlen hWb hWs hW
  go_enter Try.func38, Try.ntmps38
  go_wp2
  rw [← HW.out]
  go_wp2
  go_ret
  exact ⟨rfl, HB.out⟩

set_option maxHeartbeats 4000000 in
set_option maxRecDepth 100000 in
theorem tx_q7 (x : Int) (a : Pt) (zs : List UInt8) (hz : zs.length ≤ 786432) (h1 : 0 ≤ x) (h2 : x ≤ 9) (ih : TxC a zs) : TxC (.un 7 x a) ([65, dg x] ++ zs) := by
  intro b off len cap w hl h
  obtain ⟨hb, c1, c2, c3⟩ := h.head
  have hlen := h.len
  have h0 : 0 < len := by rw [hlen]; exact Pt.sz_pos _
  replace c1 : w.cell? ⟨b, off, none⟩ = some (.int .i64 7) := c1
  replace c2 : w.cell? ⟨b, off + 1, none⟩ = some (.int .i64 x) := c2
  replace c3 : w.cell? ⟨b, off + 2, none⟩ = some (.int .i64 0) := c3
  obtain ⟨W, hW⟩ : ∃ W, W = w.alloc (.cells #[.int .i64 7, .int .i64 x, .int .i64 0] 61) := ⟨_, rfl⟩
  have hWb : Below w.heap.size w W := by rw [hW]; exact (Below.refl _ _).alloc (Nat.le_refl _) _
  have x0 : W.cell? ⟨w.heap.size, 0, none⟩ = some (.int .i64 7) := by rw [hW]; exact World.cell?_alloc_new _ _ _ 0
  have x1 : W.cell? ⟨w.heap.size, 1, none⟩ = some (.int .i64 x) := by rw [hW]; exact World.cell?_alloc_new _ _ _ 1
  have x2 : W.cell? ⟨w.heap.size, 2, none⟩ = some (.int .i64 0) := by rw [hW]; exact World.cell?_alloc_new _ _ _ 2
  have hWs : w.heap.size < W.heap.size := by rw [hW]; simp
  have CB := Lib.hid (fun (w1 : World) (hb1 : Below W.heap.size W w1) => (show w1.cell? ⟨w.heap.size, 0, none⟩ = some (.int .i64 7) ∧ w1.cell? ⟨w.heap.size, 1, none⟩ = some (.int .i64 x) ∧ w1.cell? ⟨w.heap.size, 2, none⟩ = some (.int .i64 0) from ⟨(hb1.cell (p := ⟨w.heap.size, 0, none⟩) hWs).trans x0, (hb1.cell (p := ⟨w.heap.size, 1, none⟩) hWs).trans x1, (hb1.cell (p := ⟨w.heap.size, 2, none⟩) hWs).trans x2⟩))
  have HB := Lib.hid hWb
  have HW := Lib.hid hW
  have hs : (Pt.un 7 x a).sz = 1 + a.sz := rfl
  have hap := a.sz_pos
  have i1 : (1 : Int) ≤ (len : Int) := by omega
  have i2 : ¬ cap = 1 := by have := h.2.1; omega
  have i3 : (len : Int) ≤ (cap : Int) := by have := h.2.1; omega
  have i4 : (1 : Int) ≤ (cap : Int) := by omega
  have U := Lib.hid (h.under.keep hWb (Nat.le_refl _))
  have IH := Lib.hid (fun W' (hW' : Below W.heap.size W W') => ih b (off + 3) (len - 1) (cap - 1) W' (by omega) (U.out.keep hW' (Nat.le_refl _)))
  have KA := Lib.hid (fun W => (l01Dec_d x h1 h2 W))
  obtain ⟨S1, hS1⟩ : ∃ S, S = str [dg x] := ⟨_, rfl⟩
  obtain ⟨S2, hS2⟩ : ∃ S, S = str zs := ⟨_, rfl⟩
  obtain ⟨S3, hS3⟩ : ∃ S, S = str [65, dg x] := ⟨_, rfl⟩
  obtain ⟨S4, hS4⟩ : ∃ S, S = str ([65, dg x] ++ zs) := ⟨_, rfl⟩
  have ad1 : ∀ w, (Op.stringOp .add ⟨#[65]⟩ S1).run Try.prog w = .ok (.string S3) w := fun w => by rw [hS1, hS3]; exact add_str [65] [dg x] (by simp) w
  have ad2 : ∀ w, (Op.stringOp .add S3 S2).run Try.prog w = .ok (.string S4) w := fun w => by rw [hS2, hS3, hS4]; exact add_str [65, dg x] zs (by simp; omega) w
  rw [← hS1] at KA
  rw [← hS2] at IH
  rw [← hS4]
  have hc2 := h.2.2
  unfold maxLen at hc2
  clear h hlen hWb hWs hW hS1 hS2 hS3 hS4 hs hap ih
  go_enter Try.func38, Try.ntmps38
  go_wp2
  rw [← HW.out]
  clear c1 c2 c3
  go_region_law (first | (go_simp; go_at_call 68; refine (KA.out _).mono ?_; rintro e w1 ⟨rfl, hb⟩; have T1 := Lib.hid (show Below W.heap.size W w1 from below_undrew hb); clear hb; obtain ⟨y0, y1, y2⟩ := CB.out _ T1.out) | (go_simp; go_at_call 38; refine (IH.out _ T1.out).mono ?_; rintro e w2 ⟨rfl, hb⟩; have T2 := Lib.hid (T1.out.trans (hb.mono T1.out.size)); clear hb; obtain ⟨z0, z1, z2⟩ := CB.out _ T2.out))
  all_goals
    go_wp2
    go_ret
    exact ⟨rfl, HB.out.trans (T2.out.mono HB.out.size)⟩

set_option maxHeartbeats 4000000 in
set_option maxRecDepth 100000 in
theorem tx_q8 (x : Int) (a : Pt) (zs : List UInt8) (hz : zs.length ≤ 786432) (h1 : 0 ≤ x) (h2 : x ≤ 9) (ih : TxC a zs) : TxC (.un 8 x a) ([69, dg x] ++ zs) := by
  intro b off len cap w hl h
  obtain ⟨hb, c1, c2, c3⟩ := h.head
  have hlen := h.len
  have h0 : 0 < len := by rw [hlen]; exact Pt.sz_pos _
  replace c1 : w.cell? ⟨b, off, none⟩ = some (.int .i64 8) := c1
  replace c2 : w.cell? ⟨b, off + 1, none⟩ = some (.int .i64 x) := c2
  replace c3 : w.cell? ⟨b, off + 2, none⟩ = some (.int .i64 0) := c3
  obtain ⟨W, hW⟩ : ∃ W, W = w.alloc (.cells #[.int .i64 8, .int .i64 x, .int .i64 0] 61) := ⟨_, rfl⟩
  have hWb : Below w.heap.size w W := by rw [hW]; exact (Below.refl _ _).alloc (Nat.le_refl _) _
  have x0 : W.cell? ⟨w.heap.size, 0, none⟩ = some (.int .i64 8) := by rw [hW]; exact World.cell?_alloc_new _ _ _ 0
  have x1 : W.cell? ⟨w.heap.size, 1, none⟩ = some (.int .i64 x) := by rw [hW]; exact World.cell?_alloc_new _ _ _ 1
  have x2 : W.cell? ⟨w.heap.size, 2, none⟩ = some (.int .i64 0) := by rw [hW]; exact World.cell?_alloc_new _ _ _ 2
  have hWs : w.heap.size < W.heap.size := by rw [hW]; simp
  have CB := Lib.hid (fun (w1 : World) (hb1 : Below W.heap.size W w1) => (show w1.cell? ⟨w.heap.size, 0, none⟩ = some (.int .i64 8) ∧ w1.cell? ⟨w.heap.size, 1, none⟩ = some (.int .i64 x) ∧ w1.cell? ⟨w.heap.size, 2, none⟩ = some (.int .i64 0) from ⟨(hb1.cell (p := ⟨w.heap.size, 0, none⟩) hWs).trans x0, (hb1.cell (p := ⟨w.heap.size, 1, none⟩) hWs).trans x1, (hb1.cell (p := ⟨w.heap.size, 2, none⟩) hWs).trans x2⟩))
  have HB := Lib.hid hWb
  have HW := Lib.hid hW
  have hs : (Pt.un 8 x a).sz = 1 + a.sz := rfl
  have hap := a.sz_pos
  have i1 : (1 : Int) ≤ (len : Int) := by omega
  have i2 : ¬ cap = 1 := by have := h.2.1; omega
  have i3 : (len : Int) ≤ (cap : Int) := by have := h.2.1; omega
  have i4 : (1 : Int) ≤ (cap : Int) := by omega
  have U := Lib.hid (h.under.keep hWb (Nat.le_refl _))
  have IH := Lib.hid (fun W' (hW' : Below W.heap.size W W') => ih b (off + 3) (len - 1) (cap - 1) W' (by omega) (U.out.keep hW' (Nat.le_refl _)))
  have KA := Lib.hid (fun W => (l01Dec_d x h1 h2 W))
  obtain ⟨S1, hS1⟩ : ∃ S, S = str [dg x] := ⟨_, rfl⟩
  obtain ⟨S2, hS2⟩ : ∃ S, S = str zs := ⟨_, rfl⟩
  obtain ⟨S3, hS3⟩ : ∃ S, S = str [69, dg x] := ⟨_, rfl⟩
  obtain ⟨S4, hS4⟩ : ∃ S, S = str ([69, dg x] ++ zs) := ⟨_, rfl⟩
  have ad1 : ∀ w, (Op.stringOp .add ⟨#[69]⟩ S1).run Try.prog w = .ok (.string S3) w := fun w => by rw [hS1, hS3]; exact add_str [69] [dg x] (by simp) w
  have ad2 : ∀ w, (Op.stringOp .add S3 S2).run Try.prog w = .ok (.string S4) w := fun w => by rw [hS2, hS3, hS4]; exact add_str [69, dg x] zs (by simp; omega) w
  rw [← hS1] at KA
  rw [← hS2] at IH
  rw [← hS4]
  have hc2 := h.2.2
  unfold maxLen at hc2
  clear h hlen hWb hWs hW hS1 hS2 hS3 hS4 hs hap ih
  go_enter Try.func38, Try.ntmps38
  go_wp2
  rw [← HW.out]
  clear c1 c2 c3
  go_region_law (first | (go_simp; go_at_call 68; refine (KA.out _).mono ?_; rintro e w1 ⟨rfl, hb⟩; have T1 := Lib.hid (show Below W.heap.size W w1 from below_undrew hb); clear hb; obtain ⟨y0, y1, y2⟩ := CB.out _ T1.out) | (go_simp; go_at_call 38; refine (IH.out _ T1.out).mono ?_; rintro e w2 ⟨rfl, hb⟩; have T2 := Lib.hid (T1.out.trans (hb.mono T1.out.size)); clear hb; obtain ⟨z0, z1, z2⟩ := CB.out _ T2.out))
  all_goals
    go_wp2
    go_ret
    exact ⟨rfl, HB.out.trans (T2.out.mono HB.out.size)⟩

end Go.Proofs.Ytfkdefmafhlmnaa
