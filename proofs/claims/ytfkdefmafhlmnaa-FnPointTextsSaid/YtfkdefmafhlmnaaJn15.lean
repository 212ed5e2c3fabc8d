/- 2 texts in one: Apl, Apm. -/
import Derived.MapKept
import Derived.Test.YtfkdefmafhlmnaaJn14
/- The program's appendPointText at links. Conditions: those in the theorems. -/
namespace Go.Proofs.Ytfkdefmafhlmnaa
open Go.RowKit

set_option maxHeartbeats 2000000 in
theorem isNeg_f (k : Int) (t : TypeId) (u : Value) (w : World) :
    Calls Try.prog 115 #[.agg #[.int .i64 k, .iface t u, .iface 148 (.agg #[])]] w fun e w' => e = .returned (.bool (k == 6)) ∧ Below w.heap.size w w' := by
  have a0 := fun W => asF_yes W (.agg #[])
  cases hk : (k == 6)
  all_goals
    go_enter Try.func115, Try.ntmps115
    go_wp2
    go_ret
    exact ⟨rfl, ((Below.refl _ _).alloc (Nat.le_refl _) _).alloc (by simp) _⟩
set_option maxHeartbeats 2000000 in
theorem isNeg_n (k : Int) (t t' : TypeId) (u u' : Value) (ht : t' ≠ 148) (w : World) :
    Calls Try.prog 115 #[.agg #[.int .i64 k, .iface t u, .iface t' u']] w fun e w' => e = .returned (.bool false) ∧ Below w.heap.size w w' := by
  have a0 := fun W => asF_no W t' u' ht
  clear ht
  cases hk : (k == 6)
  all_goals
    go_enter Try.func115, Try.ntmps115
    go_wp2
    go_ret
    exact ⟨rfl, ((Below.refl _ _).alloc (Nat.le_refl _) _).alloc (by simp) _⟩

theorem OwnY.keepB {w w' : World} {B : Nat} {v : Value} {ys : List UInt8} (h : OwnY w B v ys) (hb : Below w.heap.size w w') : OwnY w' B v ys :=
  World.ownsRow.kept h (row := none) ⟨hb.os, hb.tape, hb.output, hb.size, fun i hi _ => hb.block i hi⟩ (by
    cases hv : v.ownBlock with
    | none => exact .inl rfl
    | some k => exact .inr (by simp))

/-- What appendLinkText is to do. -/
def LkC (g : Value) (n : Nat) (zs : List UInt8) : Prop := ∀ (w : World) (v : Value) (B : Nat) (ys : List UInt8), B ≤ w.heap.size → OwnY w B v ys → ys.length + n ≤ 4194304 →
    Calls Try.prog 100 #[v, g] w fun e w' => ∃ v', e = .returned v' ∧ OwnY w' B v' (ys ++ zs) ∧ Below B w w' ∧ KeepT w w'

set_option maxHeartbeats 4000000 in
set_option maxRecDepth 100000 in
theorem lk_neg (n : Nat) (zs : List UInt8) (t : TypeId) (u : Value) (hp : ApC (.iface t u) n zs) : LkC (.agg #[.int .i64 6, .iface t u, .iface 148 (.agg #[])]) (n + 1) (126 :: zs) := by
  intro w v B ys hB hown hn
  obtain ⟨W, hW⟩ : ∃ W, W = w.alloc (.cells #[.int .i64 6, .iface t u, .iface 148 (.agg #[])] 132) := ⟨_, rfl⟩
  have hWb : Below B w W := by rw [hW]; exact (Below.refl _ _).alloc hB _
  have hWk : Below w.heap.size w W := by rw [hW]; exact (Below.refl _ _).alloc (Nat.le_refl _) _
  have x0 : W.cell? ⟨w.heap.size, 0, none⟩ = some (.int .i64 6) := by rw [hW]; exact World.cell?_alloc_new _ _ _ 0
  have x1 : W.cell? ⟨w.heap.size, 1, none⟩ = some (.iface t u) := by rw [hW]; exact World.cell?_alloc_new _ _ _ 1
  have x2 : W.cell? ⟨w.heap.size, 2, none⟩ = some (.iface 148 (.agg #[])) := by rw [hW]; exact World.cell?_alloc_new _ _ _ 2
  have xk : W.heap[w.heap.size]? = some (.cells #[.int .i64 6, .iface t u, .iface 148 (.agg #[])] 132) := by rw [hW]; exact (Go.MapKept.heap_alloc w _).1
  have XK := Lib.hid (fun (w1 : World) (hk : KeepT W w1) => (show w1.cell? ⟨w.heap.size, 0, none⟩ = some (.int .i64 6) ∧ w1.cell? ⟨w.heap.size, 1, none⟩ = some (.iface t u) ∧ w1.cell? ⟨w.heap.size, 2, none⟩ = some (.iface 148 (.agg #[])) from ⟨hk.cell (by decide) xk rfl x0, hk.cell (by decide) xk rfl x1, hk.cell (by decide) xk rfl x2⟩))
  have HW := Lib.hid hW
  have O := Lib.hid (show OwnY W B v ys by rw [hW]; exact World.ownsRow.alloc hown _)
  have HN := Lib.hid hn
  have HP := Lib.hid hp
  have NG := Lib.hid (isNeg_f 6 t u W)
  clear hW hown hn hp xk
  go_enter Try.func100, Try.ntmps100
  go_wp2_with fail
  rw [← HW.out]
  refine NG.out.mono ?_
  rintro e w0 ⟨rfl, hb0⟩
  have K0 := Lib.hid (keepT_below hb0)
  have BW := Lib.hid (hWb.trans (hb0.mono (Nat.le_trans hB hWb.size)))
  have KW := Lib.hid ((keepT_below hWk).trans K0.out)
  have O0 := Lib.hid (O.out.keepB hb0)
  have OL := Lib.hid (show OwnY (w0.alloc (.cells #[.int .u8 126] 5)).drew B v ys from World.ownsRow.alloc O0.out (.cells #[.int .u8 126] 5))
  have CL := Lib.hid (cY1 (w := w0) (a := 126) rfl 5)
  have hBw : B ≤ w0.heap.size := Nat.le_trans hB BW.out.size
  have BL := Lib.hid ((BW.out.alloc hBw (.cells #[.int .u8 126] 5)).drew)
  have SL := Lib.hid (Nat.le_trans hB BL.out.size)
  have KL := Lib.hid (keepT_below (show Below w0.heap.size w0 (w0.alloc (.cells #[.int .u8 126] 5)).drew from ((Below.refl w0.heap.size w0).alloc (Nat.le_refl _) _).drew))
  obtain ⟨y0, y1, y2⟩ := XK.out _ K0.out
  obtain ⟨q0, q1, q2⟩ := XK.out (w0.alloc (.cells #[.int .u8 126] 5)) (K0.out.trans (keepT_below ((Below.refl w0.heap.size w0).alloc (Nat.le_refl _) _)))
  clear hb0 x0 x1 x2 hWb hWk hBw
  go_wp2
  go_region_law (first | (refine step_appYn rfl _ _ rfl B v ys [126] rfl OL.out ⟨w0.heap.size, 0, none⟩ 1 1 rfl rfl CL.out (by have := HN.out; omega) SL.out ?_; intro v1 w1 ho1 hg1; have B1 := Lib.hid (below_appY BL.out SL.out OL.out hg1); have O1 := Lib.hid ho1; have K1 := Lib.hid (KL.out.trans (keepT_app OL.out hg1)); obtain ⟨z0, z1, z2⟩ := XK.out _ (K0.out.trans K1.out); clear ho1 hg1) | (go_simp; go_at_call 63; refine (HP.out _ _ B _ (Nat.le_trans hB B1.out.size) O1.out (by have := HN.out; simp; omega)).mono ?_; rintro e w2 ⟨v2, rfl, ho2, hb2, hk2⟩; have B2 := Lib.hid (B1.out.trans hb2); have O2 := Lib.hid ho2; have K2 := Lib.hid ((KW.out.trans K1.out).trans hk2); clear ho2 hb2 hk2))
  all_goals
    go_wp2
    go_ret
    exact ⟨_, rfl, by rw [List.append_assoc] at O2; exact O2.out, B2.out, K2.out⟩

end Go.Proofs.Ytfkdefmafhlmnaa

/- The program's appendPointText at links of two parts. Conditions: those in the theorems. -/
namespace Go.Proofs.Ytfkdefmafhlmnaa
open Go.RowKit

set_option maxHeartbeats 8000000 in
set_option maxRecDepth 100000 in
theorem lk_4 (n m : Nat) (zs zs' : List UInt8) (t t' : TypeId) (u u' : Value) (hng : ∀ W, Calls Try.prog 115 #[.agg #[.int .i64 4, .iface t u, .iface t' u']] W fun e w' => e = .returned (.bool false) ∧ Below W.heap.size W w') (hp : ApC (.iface t u) n zs) (hq : ApC (.iface t' u') m zs') (hzn : zs.length ≤ n) (hzm : zs'.length ≤ m) : LkC (.agg #[.int .i64 4, .iface t u, .iface t' u']) (n + m + 3) (40 :: (zs ++ 38 :: (zs' ++ [41]))) := by
  intro w v B ys hB hown hn
  obtain ⟨W, hW⟩ : ∃ W, W = w.alloc (.cells #[.int .i64 4, .iface t u, .iface t' u'] 132) := ⟨_, rfl⟩
  have hWb : Below B w W := by rw [hW]; exact (Below.refl _ _).alloc hB _
  have hWk : Below w.heap.size w W := by rw [hW]; exact (Below.refl _ _).alloc (Nat.le_refl _) _
  have x0 : W.cell? ⟨w.heap.size, 0, none⟩ = some (.int .i64 4) := by rw [hW]; exact World.cell?_alloc_new _ _ _ 0
  have x1 : W.cell? ⟨w.heap.size, 1, none⟩ = some (.iface t u) := by rw [hW]; exact World.cell?_alloc_new _ _ _ 1
  have x2 : W.cell? ⟨w.heap.size, 2, none⟩ = some (.iface t' u') := by rw [hW]; exact World.cell?_alloc_new _ _ _ 2
  have xk : W.heap[w.heap.size]? = some (.cells #[.int .i64 4, .iface t u, .iface t' u'] 132) := by rw [hW]; exact (Go.MapKept.heap_alloc w _).1
  have XK := Lib.hid (fun (w1 : World) (hk : KeepT W w1) => (show w1.cell? ⟨w.heap.size, 0, none⟩ = some (.int .i64 4) ∧ w1.cell? ⟨w.heap.size, 1, none⟩ = some (.iface t u) ∧ w1.cell? ⟨w.heap.size, 2, none⟩ = some (.iface t' u') from ⟨hk.cell (by decide) xk rfl x0, hk.cell (by decide) xk rfl x1, hk.cell (by decide) xk rfl x2⟩))
  have HW := Lib.hid hW
  have O := Lib.hid (show OwnY W B v ys by rw [hW]; exact World.ownsRow.alloc hown _)
  have HN := Lib.hid hn
  have HP := Lib.hid hp
  have HQ := Lib.hid hq
  have NG := Lib.hid (hng W)
  clear hW hown hn hp hq hng xk
  go_enter Try.func100, Try.ntmps100
  go_wp2_with fail
  rw [← HW.out]
  refine NG.out.mono ?_
  rintro e w0 ⟨rfl, hb0⟩
  have K0 := Lib.hid (keepT_below hb0)
  have BW := Lib.hid (hWb.trans (hb0.mono (Nat.le_trans hB hWb.size)))
  have KW := Lib.hid ((keepT_below hWk).trans K0.out)
  have O0 := Lib.hid (O.out.keepB hb0)
  have OL := Lib.hid (show OwnY (w0.alloc (.cells #[.int .u8 40] 5)).drew B v ys from World.ownsRow.alloc O0.out (.cells #[.int .u8 40] 5))
  have CL := Lib.hid (cY1 (w := w0) (a := 40) rfl 5)
  have hBw : B ≤ w0.heap.size := Nat.le_trans hB BW.out.size
  have BL := Lib.hid ((BW.out.alloc hBw (.cells #[.int .u8 40] 5)).drew)
  have SL := Lib.hid (Nat.le_trans hB BL.out.size)
  have KL := Lib.hid (keepT_below (show Below w0.heap.size w0 (w0.alloc (.cells #[.int .u8 40] 5)).drew from ((Below.refl w0.heap.size w0).alloc (Nat.le_refl _) _).drew))
  obtain ⟨y0, y1, y2⟩ := XK.out _ K0.out
  obtain ⟨q0, q1, q2⟩ := XK.out (w0.alloc (.cells #[.int .u8 40] 5)) (K0.out.trans (keepT_below ((Below.refl w0.heap.size w0).alloc (Nat.le_refl _) _)))
  clear hb0 x0 x1 x2 hWb hWk hBw
  go_wp2
  go_region_law (first | (refine step_appYn rfl _ _ rfl B v ys [40] rfl OL.out ⟨w0.heap.size, 0, none⟩ 1 1 rfl rfl CL.out (by have := HN.out; omega) SL.out ?_; intro v1 w1 ho1 hg1; have B1 := Lib.hid (below_appY BL.out SL.out OL.out hg1); have O1 := Lib.hid ho1; have K1 := Lib.hid (KL.out.trans (keepT_app OL.out hg1)); obtain ⟨z0, z1, z2⟩ := XK.out _ (K0.out.trans K1.out); clear ho1 hg1) | (go_simp; go_at_call 63; refine (HP.out _ _ B _ (Nat.le_trans hB B1.out.size) O1.out (by have := HN.out; simp; omega)).mono ?_; rintro e w2 ⟨v2, rfl, ho2, hb2, hk2⟩; have B2 := Lib.hid (B1.out.trans hb2); have O2 := Lib.hid ho2; have K2 := Lib.hid (K1.out.trans hk2); clear ho2 hb2 hk2))
  all_goals
    obtain ⟨r0, r1, r2⟩ := XK.out _ (K0.out.trans K2.out)
    have OM := Lib.hid (show OwnY (w2.alloc (.cells #[.int .u8 (((⟨#[38, 124, 62]⟩ : ByteArray)[0].toNat : Nat) : Int)] 5)).drew B v2 _ from World.ownsRow.alloc O2.out (.cells #[.int .u8 (((⟨#[38, 124, 62]⟩ : ByteArray)[0].toNat : Nat) : Int)] 5))
    have CM := Lib.hid (cY1 (w := w2) (a := 38) (x := (((⟨#[38, 124, 62]⟩ : ByteArray)[0].toNat : Nat) : Int)) (by decide) 5)
    have BM := Lib.hid ((B2.out.alloc (show B ≤ w2.heap.size from Nat.le_trans hB B2.out.size) (.cells #[.int .u8 (((⟨#[38, 124, 62]⟩ : ByteArray)[0].toNat : Nat) : Int)] 5)).drew)
    have SM := Lib.hid (Nat.le_trans hB BM.out.size)
    have KM := Lib.hid (keepT_below (show Below w2.heap.size w2 (w2.alloc (.cells #[.int .u8 (((⟨#[38, 124, 62]⟩ : ByteArray)[0].toNat : Nat) : Int)] 5)).drew from ((Below.refl w2.heap.size w2).alloc (Nat.le_refl _) _).drew))
    obtain ⟨s0, s1, s2⟩ := XK.out (w2.alloc (.cells #[.int .u8 (((⟨#[38, 124, 62]⟩ : ByteArray)[0].toNat : Nat) : Int)] 5)) ((K0.out.trans K2.out).trans (keepT_below ((Below.refl w2.heap.size w2).alloc (Nat.le_refl _) _)))
    have e0 : IntKind.i64.wrap ((4 : Int) - 4) = 0 := by decide
    have e1 : IntKind.i64.wrap (0 : Int) = 0 := by decide
    clear q0 q1 q2 y0 y1 y2 z0 z1 z2
    go_wp2
    go_region_law (first | (refine step_appYn rfl _ _ rfl B v2 _ [38] rfl OM.out ⟨w2.heap.size, 0, none⟩ 1 1 rfl rfl CM.out (by have := HN.out; simp; omega) SM.out ?_; intro v3 w3 ho3 hg3; have B3 := Lib.hid (below_appY BM.out SM.out OM.out hg3); have O3 := Lib.hid ho3; have K3 := Lib.hid ((K2.out.trans KM.out).trans (keepT_app OM.out hg3)); obtain ⟨c0, c1, c2⟩ := XK.out _ (K0.out.trans K3.out); clear ho3 hg3) | (go_simp; go_at_call 63; refine (HQ.out _ _ B _ (Nat.le_trans hB B3.out.size) O3.out (by have := HN.out; simp; omega)).mono ?_; rintro e w4 ⟨v4, rfl, ho4, hb4, hk4⟩; have B4 := Lib.hid (B3.out.trans hb4); have O4 := Lib.hid ho4; have K4 := Lib.hid ((KW.out.trans K3.out).trans hk4); clear ho4 hb4 hk4))
    all_goals
      have BA := Lib.hid (B4.out.alloc (Nat.le_trans hB B4.out.size) (.cells #[.int .u8 41] 5))
      clear r0 r1 r2 s0 s1 s2 c0 c1 c2
      go_wp2_with (at_builtin; refine list_appY1 rfl _ _ rfl B v4 _ rfl (World.ownsRow.alloc O4.out _) ⟨w4.heap.size, 0, none⟩ 1 41 41 rfl (World.cell?_alloc_at _ _ _ _ rfl) rfl (by have := HN.out; simp; omega) (Nat.le_trans hB BA.out.size) ?_)
      intro v5 w5 ho5 hg5
      have B5 := Lib.hid (below_appY BA.out (Nat.le_trans hB BA.out.size) (World.ownsRow.alloc O4.out _) hg5)
      have O5 := Lib.hid ho5
      have K5 := Lib.hid ((K4.out.trans (keepT_below ((Below.refl _ _).alloc (Nat.le_refl _) _))).trans (keepT_app (World.ownsRow.alloc O4.out _) hg5))
      clear ho5 hg5
      go_wp2
      go_ret
      exact ⟨_, rfl, by have ho := O5.out; simpa using ho, B5.out, K5.out⟩

set_option maxHeartbeats 8000000 in
set_option maxRecDepth 100000 in
theorem lk_5 (n m : Nat) (zs zs' : List UInt8) (t t' : TypeId) (u u' : Value) (hng : ∀ W, Calls Try.prog 115 #[.agg #[.int .i64 5, .iface t u, .iface t' u']] W fun e w' => e = .returned (.bool false) ∧ Below W.heap.size W w') (hp : ApC (.iface t u) n zs) (hq : ApC (.iface t' u') m zs') (hzn : zs.length ≤ n) (hzm : zs'.length ≤ m) : LkC (.agg #[.int .i64 5, .iface t u, .iface t' u']) (n + m + 3) (40 :: (zs ++ 124 :: (zs' ++ [41]))) := by
  intro w v B ys hB hown hn
  obtain ⟨W, hW⟩ : ∃ W, W = w.alloc (.cells #[.int .i64 5, .iface t u, .iface t' u'] 132) := ⟨_, rfl⟩
  have hWb : Below B w W := by rw [hW]; exact (Below.refl _ _).alloc hB _
  have hWk : Below w.heap.size w W := by rw [hW]; exact (Below.refl _ _).alloc (Nat.le_refl _) _
  have x0 : W.cell? ⟨w.heap.size, 0, none⟩ = some (.int .i64 5) := by rw [hW]; exact World.cell?_alloc_new _ _ _ 0
  have x1 : W.cell? ⟨w.heap.size, 1, none⟩ = some (.iface t u) := by rw [hW]; exact World.cell?_alloc_new _ _ _ 1
  have x2 : W.cell? ⟨w.heap.size, 2, none⟩ = some (.iface t' u') := by rw [hW]; exact World.cell?_alloc_new _ _ _ 2
  have xk : W.heap[w.heap.size]? = some (.cells #[.int .i64 5, .iface t u, .iface t' u'] 132) := by rw [hW]; exact (Go.MapKept.heap_alloc w _).1
  have XK := Lib.hid (fun (w1 : World) (hk : KeepT W w1) => (show w1.cell? ⟨w.heap.size, 0, none⟩ = some (.int .i64 5) ∧ w1.cell? ⟨w.heap.size, 1, none⟩ = some (.iface t u) ∧ w1.cell? ⟨w.heap.size, 2, none⟩ = some (.iface t' u') from ⟨hk.cell (by decide) xk rfl x0, hk.cell (by decide) xk rfl x1, hk.cell (by decide) xk rfl x2⟩))
  have HW := Lib.hid hW
  have O := Lib.hid (show OwnY W B v ys by rw [hW]; exact World.ownsRow.alloc hown _)
  have HN := Lib.hid hn
  have HP := Lib.hid hp
  have HQ := Lib.hid hq
  have NG := Lib.hid (hng W)
  clear hW hown hn hp hq hng xk
  go_enter Try.func100, Try.ntmps100
  go_wp2_with fail
  rw [← HW.out]
  refine NG.out.mono ?_
  rintro e w0 ⟨rfl, hb0⟩
  have K0 := Lib.hid (keepT_below hb0)
  have BW := Lib.hid (hWb.trans (hb0.mono (Nat.le_trans hB hWb.size)))
  have KW := Lib.hid ((keepT_below hWk).trans K0.out)
  have O0 := Lib.hid (O.out.keepB hb0)
  have OL := Lib.hid (show OwnY (w0.alloc (.cells #[.int .u8 40] 5)).drew B v ys from World.ownsRow.alloc O0.out (.cells #[.int .u8 40] 5))
  have CL := Lib.hid (cY1 (w := w0) (a := 40) rfl 5)
  have hBw : B ≤ w0.heap.size := Nat.le_trans hB BW.out.size
  have BL := Lib.hid ((BW.out.alloc hBw (.cells #[.int .u8 40] 5)).drew)
  have SL := Lib.hid (Nat.le_trans hB BL.out.size)
  have KL := Lib.hid (keepT_below (show Below w0.heap.size w0 (w0.alloc (.cells #[.int .u8 40] 5)).drew from ((Below.refl w0.heap.size w0).alloc (Nat.le_refl _) _).drew))
  obtain ⟨y0, y1, y2⟩ := XK.out _ K0.out
  obtain ⟨q0, q1, q2⟩ := XK.out (w0.alloc (.cells #[.int .u8 40] 5)) (K0.out.trans (keepT_below ((Below.refl w0.heap.size w0).alloc (Nat.le_refl _) _)))
  clear hb0 x0 x1 x2 hWb hWk hBw
  go_wp2
  go_region_law (first | (refine step_appYn rfl _ _ rfl B v ys [40] rfl OL.out ⟨w0.heap.size, 0, none⟩ 1 1 rfl rfl CL.out (by have := HN.out; omega) SL.out ?_; intro v1 w1 ho1 hg1; have B1 := Lib.hid (below_appY BL.out SL.out OL.out hg1); have O1 := Lib.hid ho1; have K1 := Lib.hid (KL.out.trans (keepT_app OL.out hg1)); obtain ⟨z0, z1, z2⟩ := XK.out _ (K0.out.trans K1.out); clear ho1 hg1) | (go_simp; go_at_call 63; refine (HP.out _ _ B _ (Nat.le_trans hB B1.out.size) O1.out (by have := HN.out; simp; omega)).mono ?_; rintro e w2 ⟨v2, rfl, ho2, hb2, hk2⟩; have B2 := Lib.hid (B1.out.trans hb2); have O2 := Lib.hid ho2; have K2 := Lib.hid (K1.out.trans hk2); clear ho2 hb2 hk2))
  all_goals
    obtain ⟨r0, r1, r2⟩ := XK.out _ (K0.out.trans K2.out)
    have OM := Lib.hid (show OwnY (w2.alloc (.cells #[.int .u8 (((⟨#[38, 124, 62]⟩ : ByteArray)[1].toNat : Nat) : Int)] 5)).drew B v2 _ from World.ownsRow.alloc O2.out (.cells #[.int .u8 (((⟨#[38, 124, 62]⟩ : ByteArray)[1].toNat : Nat) : Int)] 5))
    have CM := Lib.hid (cY1 (w := w2) (a := 124) (x := (((⟨#[38, 124, 62]⟩ : ByteArray)[1].toNat : Nat) : Int)) (by decide) 5)
    have BM := Lib.hid ((B2.out.alloc (show B ≤ w2.heap.size from Nat.le_trans hB B2.out.size) (.cells #[.int .u8 (((⟨#[38, 124, 62]⟩ : ByteArray)[1].toNat : Nat) : Int)] 5)).drew)
    have SM := Lib.hid (Nat.le_trans hB BM.out.size)
    have KM := Lib.hid (keepT_below (show Below w2.heap.size w2 (w2.alloc (.cells #[.int .u8 (((⟨#[38, 124, 62]⟩ : ByteArray)[1].toNat : Nat) : Int)] 5)).drew from ((Below.refl w2.heap.size w2).alloc (Nat.le_refl _) _).drew))
    obtain ⟨s0, s1, s2⟩ := XK.out (w2.alloc (.cells #[.int .u8 (((⟨#[38, 124, 62]⟩ : ByteArray)[1].toNat : Nat) : Int)] 5)) ((K0.out.trans K2.out).trans (keepT_below ((Below.refl w2.heap.size w2).alloc (Nat.le_refl _) _)))
    have e0 : IntKind.i64.wrap ((5 : Int) - 4) = 1 := by decide
    have e1 : IntKind.i64.wrap (1 : Int) = 1 := by decide
    clear q0 q1 q2 y0 y1 y2 z0 z1 z2
    go_wp2
    go_region_law (first | (refine step_appYn rfl _ _ rfl B v2 _ [124] rfl OM.out ⟨w2.heap.size, 0, none⟩ 1 1 rfl rfl CM.out (by have := HN.out; simp; omega) SM.out ?_; intro v3 w3 ho3 hg3; have B3 := Lib.hid (below_appY BM.out SM.out OM.out hg3); have O3 := Lib.hid ho3; have K3 := Lib.hid ((K2.out.trans KM.out).trans (keepT_app OM.out hg3)); obtain ⟨c0, c1, c2⟩ := XK.out _ (K0.out.trans K3.out); clear ho3 hg3) | (go_simp; go_at_call 63; refine (HQ.out _ _ B _ (Nat.le_trans hB B3.out.size) O3.out (by have := HN.out; simp; omega)).mono ?_; rintro e w4 ⟨v4, rfl, ho4, hb4, hk4⟩; have B4 := Lib.hid (B3.out.trans hb4); have O4 := Lib.hid ho4; have K4 := Lib.hid ((KW.out.trans K3.out).trans hk4); clear ho4 hb4 hk4))
    all_goals
      have BA := Lib.hid (B4.out.alloc (Nat.le_trans hB B4.out.size) (.cells #[.int .u8 41] 5))
      clear r0 r1 r2 s0 s1 s2 c0 c1 c2
      go_wp2_with (at_builtin; refine list_appY1 rfl _ _ rfl B v4 _ rfl (World.ownsRow.alloc O4.out _) ⟨w4.heap.size, 0, none⟩ 1 41 41 rfl (World.cell?_alloc_at _ _ _ _ rfl) rfl (by have := HN.out; simp; omega) (Nat.le_trans hB BA.out.size) ?_)
      intro v5 w5 ho5 hg5
      have B5 := Lib.hid (below_appY BA.out (Nat.le_trans hB BA.out.size) (World.ownsRow.alloc O4.out _) hg5)
      have O5 := Lib.hid ho5
      have K5 := Lib.hid ((K4.out.trans (keepT_below ((Below.refl _ _).alloc (Nat.le_refl _) _))).trans (keepT_app (World.ownsRow.alloc O4.out _) hg5))
      clear ho5 hg5
      go_wp2
      go_ret
      exact ⟨_, rfl, by have ho := O5.out; simpa using ho, B5.out, K5.out⟩

set_option maxHeartbeats 8000000 in
set_option maxRecDepth 100000 in
theorem lk_6 (n m : Nat) (zs zs' : List UInt8) (t t' : TypeId) (u u' : Value) (hng : ∀ W, Calls Try.prog 115 #[.agg #[.int .i64 6, .iface t u, .iface t' u']] W fun e w' => e = .returned (.bool false) ∧ Below W.heap.size W w') (hp : ApC (.iface t u) n zs) (hq : ApC (.iface t' u') m zs') (hzn : zs.length ≤ n) (hzm : zs'.length ≤ m) : LkC (.agg #[.int .i64 6, .iface t u, .iface t' u']) (n + m + 3) (40 :: (zs ++ 62 :: (zs' ++ [41]))) := by
  intro w v B ys hB hown hn
  obtain ⟨W, hW⟩ : ∃ W, W = w.alloc (.cells #[.int .i64 6, .iface t u, .iface t' u'] 132) := ⟨_, rfl⟩
  have hWb : Below B w W := by rw [hW]; exact (Below.refl _ _).alloc hB _
  have hWk : Below w.heap.size w W := by rw [hW]; exact (Below.refl _ _).alloc (Nat.le_refl _) _
  have x0 : W.cell? ⟨w.heap.size, 0, none⟩ = some (.int .i64 6) := by rw [hW]; exact World.cell?_alloc_new _ _ _ 0
  have x1 : W.cell? ⟨w.heap.size, 1, none⟩ = some (.iface t u) := by rw [hW]; exact World.cell?_alloc_new _ _ _ 1
  have x2 : W.cell? ⟨w.heap.size, 2, none⟩ = some (.iface t' u') := by rw [hW]; exact World.cell?_alloc_new _ _ _ 2
  have xk : W.heap[w.heap.size]? = some (.cells #[.int .i64 6, .iface t u, .iface t' u'] 132) := by rw [hW]; exact (Go.MapKept.heap_alloc w _).1
  have XK := Lib.hid (fun (w1 : World) (hk : KeepT W w1) => (show w1.cell? ⟨w.heap.size, 0, none⟩ = some (.int .i64 6) ∧ w1.cell? ⟨w.heap.size, 1, none⟩ = some (.iface t u) ∧ w1.cell? ⟨w.heap.size, 2, none⟩ = some (.iface t' u') from ⟨hk.cell (by decide) xk rfl x0, hk.cell (by decide) xk rfl x1, hk.cell (by decide) xk rfl x2⟩))
  have HW := Lib.hid hW
  have O := Lib.hid (show OwnY W B v ys by rw [hW]; exact World.ownsRow.alloc hown _)
  have HN := Lib.hid hn
  have HP := Lib.hid hp
  have HQ := Lib.hid hq
  have NG := Lib.hid (hng W)
  clear hW hown hn hp hq hng xk
  go_enter Try.func100, Try.ntmps100
  go_wp2_with fail
  rw [← HW.out]
  refine NG.out.mono ?_
  rintro e w0 ⟨rfl, hb0⟩
  have K0 := Lib.hid (keepT_below hb0)
  have BW := Lib.hid (hWb.trans (hb0.mono (Nat.le_trans hB hWb.size)))
  have KW := Lib.hid ((keepT_below hWk).trans K0.out)
  have O0 := Lib.hid (O.out.keepB hb0)
  have OL := Lib.hid (show OwnY (w0.alloc (.cells #[.int .u8 40] 5)).drew B v ys from World.ownsRow.alloc O0.out (.cells #[.int .u8 40] 5))
  have CL := Lib.hid (cY1 (w := w0) (a := 40) rfl 5)
  have hBw : B ≤ w0.heap.size := Nat.le_trans hB BW.out.size
  have BL := Lib.hid ((BW.out.alloc hBw (.cells #[.int .u8 40] 5)).drew)
  have SL := Lib.hid (Nat.le_trans hB BL.out.size)
  have KL := Lib.hid (keepT_below (show Below w0.heap.size w0 (w0.alloc (.cells #[.int .u8 40] 5)).drew from ((Below.refl w0.heap.size w0).alloc (Nat.le_refl _) _).drew))
  obtain ⟨y0, y1, y2⟩ := XK.out _ K0.out
  obtain ⟨q0, q1, q2⟩ := XK.out (w0.alloc (.cells #[.int .u8 40] 5)) (K0.out.trans (keepT_below ((Below.refl w0.heap.size w0).alloc (Nat.le_refl _) _)))
  clear hb0 x0 x1 x2 hWb hWk hBw
  go_wp2
  go_region_law (first | (refine step_appYn rfl _ _ rfl B v ys [40] rfl OL.out ⟨w0.heap.size, 0, none⟩ 1 1 rfl rfl CL.out (by have := HN.out; omega) SL.out ?_; intro v1 w1 ho1 hg1; have B1 := Lib.hid (below_appY BL.out SL.out OL.out hg1); have O1 := Lib.hid ho1; have K1 := Lib.hid (KL.out.trans (keepT_app OL.out hg1)); obtain ⟨z0, z1, z2⟩ := XK.out _ (K0.out.trans K1.out); clear ho1 hg1) | (go_simp; go_at_call 63; refine (HP.out _ _ B _ (Nat.le_trans hB B1.out.size) O1.out (by have := HN.out; simp; omega)).mono ?_; rintro e w2 ⟨v2, rfl, ho2, hb2, hk2⟩; have B2 := Lib.hid (B1.out.trans hb2); have O2 := Lib.hid ho2; have K2 := Lib.hid (K1.out.trans hk2); clear ho2 hb2 hk2))
  all_goals
    obtain ⟨r0, r1, r2⟩ := XK.out _ (K0.out.trans K2.out)
    have OM := Lib.hid (show OwnY (w2.alloc (.cells #[.int .u8 (((⟨#[38, 124, 62]⟩ : ByteArray)[2].toNat : Nat) : Int)] 5)).drew B v2 _ from World.ownsRow.alloc O2.out (.cells #[.int .u8 (((⟨#[38, 124, 62]⟩ : ByteArray)[2].toNat : Nat) : Int)] 5))
    have CM := Lib.hid (cY1 (w := w2) (a := 62) (x := (((⟨#[38, 124, 62]⟩ : ByteArray)[2].toNat : Nat) : Int)) (by decide) 5)
    have BM := Lib.hid ((B2.out.alloc (show B ≤ w2.heap.size from Nat.le_trans hB B2.out.size) (.cells #[.int .u8 (((⟨#[38, 124, 62]⟩ : ByteArray)[2].toNat : Nat) : Int)] 5)).drew)
    have SM := Lib.hid (Nat.le_trans hB BM.out.size)
    have KM := Lib.hid (keepT_below (show Below w2.heap.size w2 (w2.alloc (.cells #[.int .u8 (((⟨#[38, 124, 62]⟩ : ByteArray)[2].toNat : Nat) : Int)] 5)).drew from ((Below.refl w2.heap.size w2).alloc (Nat.le_refl _) _).drew))
    obtain ⟨s0, s1, s2⟩ := XK.out (w2.alloc (.cells #[.int .u8 (((⟨#[38, 124, 62]⟩ : ByteArray)[2].toNat : Nat) : Int)] 5)) ((K0.out.trans K2.out).trans (keepT_below ((Below.refl w2.heap.size w2).alloc (Nat.le_refl _) _)))
    have e0 : IntKind.i64.wrap ((6 : Int) - 4) = 2 := by decide
    have e1 : IntKind.i64.wrap (2 : Int) = 2 := by decide
    clear q0 q1 q2 y0 y1 y2 z0 z1 z2
    go_wp2
    go_region_law (first | (refine step_appYn rfl _ _ rfl B v2 _ [62] rfl OM.out ⟨w2.heap.size, 0, none⟩ 1 1 rfl rfl CM.out (by have := HN.out; simp; omega) SM.out ?_; intro v3 w3 ho3 hg3; have B3 := Lib.hid (below_appY BM.out SM.out OM.out hg3); have O3 := Lib.hid ho3; have K3 := Lib.hid ((K2.out.trans KM.out).trans (keepT_app OM.out hg3)); obtain ⟨c0, c1, c2⟩ := XK.out _ (K0.out.trans K3.out); clear ho3 hg3) | (go_simp; go_at_call 63; refine (HQ.out _ _ B _ (Nat.le_trans hB B3.out.size) O3.out (by have := HN.out; simp; omega)).mono ?_; rintro e w4 ⟨v4, rfl, ho4, hb4, hk4⟩; have B4 := Lib.hid (B3.out.trans hb4); have O4 := Lib.hid ho4; have K4 := Lib.hid ((KW.out.trans K3.out).trans hk4); clear ho4 hb4 hk4))
    all_goals
      have BA := Lib.hid (B4.out.alloc (Nat.le_trans hB B4.out.size) (.cells #[.int .u8 41] 5))
      clear r0 r1 r2 s0 s1 s2 c0 c1 c2
      go_wp2_with (at_builtin; refine list_appY1 rfl _ _ rfl B v4 _ rfl (World.ownsRow.alloc O4.out _) ⟨w4.heap.size, 0, none⟩ 1 41 41 rfl (World.cell?_alloc_at _ _ _ _ rfl) rfl (by have := HN.out; simp; omega) (Nat.le_trans hB BA.out.size) ?_)
      intro v5 w5 ho5 hg5
      have B5 := Lib.hid (below_appY BA.out (Nat.le_trans hB BA.out.size) (World.ownsRow.alloc O4.out _) hg5)
      have O5 := Lib.hid ho5
      have K5 := Lib.hid ((K4.out.trans (keepT_below ((Below.refl _ _).alloc (Nat.le_refl _) _))).trans (keepT_app (World.ownsRow.alloc O4.out _) hg5))
      clear ho5 hg5
      go_wp2
      go_ret
      exact ⟨_, rfl, by have ho := O5.out; simpa using ho, B5.out, K5.out⟩

end Go.Proofs.Ytfkdefmafhlmnaa
