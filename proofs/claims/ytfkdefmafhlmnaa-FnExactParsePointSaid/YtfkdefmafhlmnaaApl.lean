/- The program's appendPointText at links. Conditions: those in the theorems. -/
import Derived.MapKept
import Derived.Test.YtfkdefmafhlmnaaJn09
namespace Go.Proofs.Ytfkdefmafhlmnaa
open Go.RowKit

set_option maxHeartbeats 2000000 in
theorem isNeg_f (k : Int) (t : TypeId) (u : Value) (w : World) :
    Calls Try.prog 115 #[.agg #[.int .i64 k, .iface t u, .iface 148 (.agg #[])]] w fun e w' => e = .returned (.bool (k == 6)) ∧ Below w.heap.size w w' := by
  have a0 := fun W => asF_yes W (.agg #[])
  cases hk : (k == 6)
  all_goals
    go_enter Try.func115, Try.ntmps115
    go_wp2
    go_ret
    exact ⟨rfl, ((Below.refl _ _).alloc (Nat.le_refl _) _).alloc (by simp) _⟩
set_option maxHeartbeats 2000000 in
theorem isNeg_n (k : Int) (t t' : TypeId) (u u' : Value) (ht : t' ≠ 148) (w : World) :
    Calls Try.prog 115 #[.agg #[.int .i64 k, .iface t u, .iface t' u']] w fun e w' => e = .returned (.bool false) ∧ Below w.heap.size w w' := by
  have a0 := fun W => asF_no W t' u' ht
  clear ht
  cases hk : (k == 6)
  all_goals
    go_enter Try.func115, Try.ntmps115
    go_wp2
    go_ret
    exact ⟨rfl, ((Below.refl _ _).alloc (Nat.le_refl _) _).alloc (by simp) _⟩

theorem OwnY.keepB {w w' : World} {B : Nat} {v : Value} {ys : List UInt8} (h : OwnY w B v ys) (hb : Below w.heap.size w w') : OwnY w' B v ys :=
  World.ownsRow.kept h (row := none) ⟨hb.os, hb.tape, hb.output, hb.size, fun i hi _ => hb.block i hi⟩ (by
    cases hv : v.ownBlock with
    | none => exact .inl rfl
    | some k => exact .inr (by simp))

/-- What appendLinkText is to do. -/
def LkC (g : Value) (n : Nat) (zs : List UInt8) : Prop := ∀ (w : World) (v : Value) (B : Nat) (ys : List UInt8), B ≤ w.heap.size → OwnY w B v ys → ys.length + n ≤ 4194304 →
    Calls Try.prog 100 #[v, g] w fun e w' => ∃ v', e = .returned v' ∧ OwnY w' B v' (ys ++ zs) ∧ Below B w w' ∧ KeepT w w'

set_option maxHeartbeats 4000000 in
set_option maxRecDepth 100000 in
theorem lk_neg (n : Nat) (zs : List UInt8) (t : TypeId) (u : Value) (hp : ApC (.iface t u) n zs) : LkC (.agg #[.int .i64 6, .iface t u, .iface 148 (.agg #[])]) (n + 1) (126 :: zs) := by
  intro w v B ys hB hown hn
  obtain ⟨W, hW⟩ : ∃ W, W = w.alloc (.cells #[.int .i64 6, .iface t u, .iface 148 (.agg #[])] 132) := ⟨_, rfl⟩
  have hWb : Below B w W := by rw [hW]; exact (Below.refl _ _).alloc hB _
  have hWk : Below w.heap.size w W := by rw [hW]; exact (Below.refl _ _).alloc (Nat.le_refl _) _
  have x0 : W.cell? ⟨w.heap.size, 0, none⟩ = some (.int .i64 6) := by rw [hW]; exact World.cell?_alloc_new _ _ _ 0
  have x1 : W.cell? ⟨w.heap.size, 1, none⟩ = some (.iface t u) := by rw [hW]; exact World.cell?_alloc_new _ _ _ 1
  have x2 : W.cell? ⟨w.heap.size, 2, none⟩ = some (.iface 148 (.agg #[])) := by rw [hW]; exact World.cell?_alloc_new _ _ _ 2
  have xk : W.heap[w.heap.size]? = some (.cells #[.int .i64 6, .iface t u, .iface 148 (.agg #[])] 132) := by rw [hW]; exact (Go.MapKept.heap_alloc w _).1
  have XK := Lib.hid (fun (w1 : World) (hk : KeepT W w1) => (show w1.cell? ⟨w.heap.size, 0, none⟩ = some (.int .i64 6) ∧ w1.cell? ⟨w.heap.size, 1, none⟩ = some (.iface t u) ∧ w1.cell? ⟨w.heap.size, 2, none⟩ = some (.iface 148 (.agg #[])) from ⟨hk.cell (by decide) xk rfl x0, hk.cell (by decide) xk rfl x1, hk.cell (by decide) xk rfl x2⟩))
  have HW := Lib.hid hW
  have O := Lib.hid (show OwnY W B v ys by rw [hW]; exact World.ownsRow.alloc hown _)
  have HN := Lib.hid hn
  have HP := Lib.hid hp
  have NG := Lib.hid (isNeg_f 6 t u W)
  clear hW hown hn hp xk
  go_enter Try.func100, Try.ntmps100
  go_wp2_with fail
  rw [← HW.out]
  refine NG.out.mono ?_
  rintro e w0 ⟨rfl, hb0⟩
  have K0 := Lib.hid (keepT_below hb0)
  have BW := Lib.hid (hWb.trans (hb0.mono (Nat.le_trans hB hWb.size)))
  have KW := Lib.hid ((keepT_below hWk).trans K0.out)
  have O0 := Lib.hid (O.out.keepB hb0)
  have OL := Lib.hid (show OwnY (w0.alloc (.cells #[.int .u8 126] 5)).drew B v ys from World.ownsRow.alloc O0.out (.cells #[.int .u8 126] 5))
  have CL := Lib.hid (cY1 (w := w0) (a := 126) rfl 5)
  have hBw : B ≤ w0.heap.size := Nat.le_trans hB BW.out.size
  have BL := Lib.hid ((BW.out.alloc hBw (.cells #[.int .u8 126] 5)).drew)
  have SL := Lib.hid (Nat.le_trans hB BL.out.size)
  have KL := Lib.hid (keepT_below (show Below w0.heap.size w0 (w0.alloc (.cells #[.int .u8 126] 5)).drew from ((Below.refl w0.heap.size w0).alloc (Nat.le_refl _) _).drew))
  obtain ⟨y0, y1, y2⟩ := XK.out _ K0.out
  obtain ⟨q0, q1, q2⟩ := XK.out (w0.alloc (.cells #[.int .u8 126] 5)) (K0.out.trans (keepT_below ((Below.refl w0.heap.size w0).alloc (Nat.le_refl _) _)))
  clear hb0 x0 x1 x2 hWb hWk hBw
  go_wp2
  go_region_law (first | (refine step_appYn rfl _ _ rfl B v ys [126] rfl OL.out ⟨w0.heap.size, 0, none⟩ 1 1 rfl rfl CL.out (by have := HN.out; omega) SL.out ?_; intro v1 w1 ho1 hg1; have B1 := Lib.hid (below_appY BL.out SL.out OL.out hg1); have O1 := Lib.hid ho1; have K1 := Lib.hid (KL.out.trans (keepT_app OL.out hg1)); obtain ⟨z0, z1, z2⟩ := XK.out _ (K0.out.trans K1.out); clear ho1 hg1) | (go_simp; go_at_call 63; refine (HP.out _ _ B _ (Nat.le_trans hB B1.out.size) O1.out (by have := HN.out; simp; omega)).mono ?_; rintro e w2 ⟨v2, rfl, ho2, hb2, hk2⟩; have B2 := Lib.hid (B1.out.trans hb2); have O2 := Lib.hid ho2; have K2 := Lib.hid ((KW.out.trans K1.out).trans hk2); clear ho2 hb2 hk2))
  all_goals
    go_wp2
    go_ret
    exact ⟨_, rfl, by rw [List.append_assoc] at O2; exact O2.out, B2.out, K2.out⟩

end Go.Proofs.Ytfkdefmafhlmnaa
