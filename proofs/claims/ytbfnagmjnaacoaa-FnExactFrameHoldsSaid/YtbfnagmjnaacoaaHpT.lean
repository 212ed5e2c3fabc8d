/- The program's value of a point formula, at links. Conditions: those in the theorems. -/
import Derived.Deep.RegionWith
import Derived.Deep.RegionLaw
import Derived.RegionTactic
import Derived.BigRegion
import Derived.ChangeAlike
import Derived.Test.YtbfnagmjnaacoaaHpL
import Derived.Test.YtbfnagmjnaacoaaTrans
namespace Go.Proofs.Ytbfnagmjnaacoaa
open Go.RowKit

/-- The box of a placing, and one of three cells. -/
theorem boxPx (w : World) (N : Nat) (a : Option Addr) (c : Nat) (xs : List Int) (a' : Option Addr) (d : Nat) (ys : List Int) (zs : List Int) (ty : TypeId) (v0 v1 v2 : Value) : ∃ W, W = (w.alloc (.cells #[.int .i64 (N : Int), .slice a xs.length c, .slice a' ys.length d, .int .i64 (nth zs 0), .int .i64 (nth zs 1), .int .i64 (nth zs 2), .int .i64 (nth zs 3), .int .i64 (nth zs 4), .int .i64 (nth zs 5), .int .i64 (nth zs 6), .int .i64 (nth zs 7), .int .i64 (nth zs 8), .int .i64 (nth zs 9)] 87)).alloc (.cells #[v0, v1, v2] ty) ∧ Hid (Below w.heap.size w W) ∧ W.heap.size = w.heap.size + 2 ∧
    Hid (∀ w1, Below W.heap.size W w1 → (w1.cell? ⟨w.heap.size, 0, none⟩ = some (.int .i64 (N : Int)) ∧ w1.cell? ⟨w.heap.size, 1, none⟩ = some (.slice a xs.length c) ∧ w1.cell? ⟨w.heap.size, 2, none⟩ = some (.slice a' ys.length d) ∧ w1.cell? ⟨w.heap.size, 3, none⟩ = some (.int .i64 (nth zs 0)) ∧ w1.cell? ⟨w.heap.size, 4, none⟩ = some (.int .i64 (nth zs 1)) ∧ w1.cell? ⟨w.heap.size, 5, none⟩ = some (.int .i64 (nth zs 2)) ∧ w1.cell? ⟨w.heap.size, 6, none⟩ = some (.int .i64 (nth zs 3)) ∧ w1.cell? ⟨w.heap.size, 7, none⟩ = some (.int .i64 (nth zs 4)) ∧ w1.cell? ⟨w.heap.size, 8, none⟩ = some (.int .i64 (nth zs 5)) ∧ w1.cell? ⟨w.heap.size, 9, none⟩ = some (.int .i64 (nth zs 6)) ∧ w1.cell? ⟨w.heap.size, 10, none⟩ = some (.int .i64 (nth zs 7)) ∧ w1.cell? ⟨w.heap.size, 11, none⟩ = some (.int .i64 (nth zs 8)) ∧ w1.cell? ⟨w.heap.size, 12, none⟩ = some (.int .i64 (nth zs 9))) ∧ (w1.cell? ⟨w.heap.size + 1, 0, none⟩ = some v0 ∧ w1.cell? ⟨w.heap.size + 1, 1, none⟩ = some v1 ∧ w1.cell? ⟨w.heap.size + 1, 2, none⟩ = some v2)) := by
  obtain ⟨W1, hW1, HB1, hs1, XB⟩ := boxPl w N a c xs a' d ys zs
  obtain ⟨W, hW⟩ : ∃ W, W = W1.alloc (.cells #[v0, v1, v2] ty) := ⟨_, rfl⟩
  have b2 : Below W1.heap.size W1 W := by rw [hW]; exact (Below.refl _ _).alloc (Nat.le_refl _) _
  have hz1 : W1.heap.size = w.heap.size + 1 := by rw [hW1]; simp
  have hz : W.heap.size = w.heap.size + 2 := by rw [hW]; simp [hz1]
  have t0 : W.cell? ⟨w.heap.size + 1, 0, none⟩ = some v0 := by rw [hW, ← hz1]; exact World.cell?_alloc_new _ _ _ 0
  have t1 : W.cell? ⟨w.heap.size + 1, 1, none⟩ = some v1 := by rw [hW, ← hz1]; exact World.cell?_alloc_new _ _ _ 1
  have t2 : W.cell? ⟨w.heap.size + 1, 2, none⟩ = some v2 := by rw [hW, ← hz1]; exact World.cell?_alloc_new _ _ _ 2
  refine ⟨W, by rw [hW, hW1], Lib.hid (HB1.out.trans (b2.mono HB1.out.size)), hz, Lib.hid (fun w1 hb => ?_)⟩
  obtain ⟨⟨m0, m1, m2⟩, mz⟩ := XB.out w1 (b2.trans (hb.mono (by omega)))
  exact ⟨⟨m0, m1, m2, mz 0 (by omega), mz 1 (by omega), mz 2 (by omega), mz 3 (by omega), mz 4 (by omega), mz 5 (by omega), mz 6 (by omega), mz 7 (by omega), mz 8 (by omega), mz 9 (by omega)⟩, (hb.cell (p := ⟨w.heap.size + 1, 0, none⟩) (by show w.heap.size + 1 < _; omega)).trans t0, (hb.cell (p := ⟨w.heap.size + 1, 1, none⟩) (by show w.heap.size + 1 < _; omega)).trans t1, (hb.cell (p := ⟨w.heap.size + 1, 2, none⟩) (by show w.heap.size + 1 < _; omega)).trans t2⟩

/-- What linkHolds is to do. -/
def LhC (v : Value) (f : Pt) : Prop := ∀ (N : Nat) (a : Option Addr) (c : Nat) (xs : List Int) (a' : Option Addr) (d : Nat) (ys : List Int) (zs : List Int) (w : World), xs.length ≤ 1048576 → ys.length ≤ 1048576 → HpAt w N a xs a' ys zs → vok N ys.length f →
    Calls Try.prog 152 #[plc N a c xs a' d ys zs, v] w fun e w' => e = .returned (.bool (hol xs ys N f zs)) ∧ Below w.heap.size w w'
/-- What quantifierHolds is to do. -/
def QhC (v : Value) (f : Pt) : Prop := ∀ (N : Nat) (a : Option Addr) (c : Nat) (xs : List Int) (a' : Option Addr) (d : Nat) (ys : List Int) (zs : List Int) (w : World), xs.length ≤ 1048576 → ys.length ≤ 1048576 → HpAt w N a xs a' ys zs → vok N ys.length f →
    Calls Try.prog 153 #[plc N a c xs a' d ys zs, v] w fun e w' => e = .returned (.bool (hol xs ys N f zs)) ∧ Below w.heap.size w w'

set_option maxHeartbeats 8000000 in
set_option maxRecDepth 100000 in
theorem lh_any (k : Int) (f g : Pt) (hk : k = 4 ∨ k = 5 ∨ k = 6) (t t' : TypeId) (u u' : Value) (ihf : HqC (.iface t u) f) (ihg : HqC (.iface t' u') g) : LhC (.agg #[.int .i64 k, .iface t u, .iface t' u']) (.bi k f g) := by
  intro N a c xs a' d ys zs w hlx hly H hv
  obtain ⟨W, hW, HB, hWs, XB⟩ := boxPx w N a c xs a' d ys zs 149 (.int .i64 k) (.iface t u) (.iface t' u')
  have H0 := Lib.hid (H.keep HB.out (Nat.le_refl _))
  have hle := HB.out.size
  have IX := Lib.hid (fun (W' : World) (hW' : Below W.heap.size W W') => ihf N a c xs a' d ys zs W' hlx hly (H0.out.keep hW' (Nat.le_refl _)) hv.1)
  have IY := Lib.hid (fun (W' : World) (hW' : Below W.heap.size W W') => ihg N a c xs a' d ys zs W' hlx hly (H0.out.keep hW' (Nat.le_refl _)) hv.2)
  obtain ⟨p, hp⟩ : ∃ p, p = hol xs ys N f zs := ⟨_, rfl⟩
  obtain ⟨q, hq⟩ : ∃ q, q = hol xs ys N g zs := ⟨_, rfl⟩
  have HR := Lib.hid (show hol xs ys N (.bi k f g) zs = (if k = 4 then p && q else if k = 5 then p || q else !p || q) by rw [hp, hq]; rfl)
  rw [← hp] at IX
  rw [← hq] at IY
  unfold plc at IX IY
  obtain ⟨⟨m0, m1, m2, m3, m4, m5, m6, m7, m8, m9, m10, m11, m12⟩, n0, n1, n2⟩ := XB.out W (Below.refl _ _)
  have HW := Lib.hid hW
  have HZ := Lib.hid hWs
  rw [HR.out]
  unfold plc
  clear H hv ihf ihg hW hp hq HR hle hWs
  rcases hk with rfl | rfl | rfl <;> cases p
  all_goals
    go_enter Try.func152, Try.ntmps152
    go_wp2_with fail
    rw [← HW.out]
    clear m0 m1 m2 m3 m4 m5 m6 m7 m8 m9 m10 m11 m12 n0 n1 n2
    obtain ⟨⟨m0, m1, m2, m3, m4, m5, m6, m7, m8, m9, m10, m11, m12⟩, n0, n1, n2⟩ := XB.out W (Below.refl _ _)
    go_wp2_with fail
    refine (IX.out _ (Below.refl _ _)).mono ?_
    rintro e w1 ⟨rfl, hb1⟩
    have T1 := Lib.hid hb1
    clear hb1
    clear m0 m1 m2 m3 m4 m5 m6 m7 m8 m9 m10 m11 m12 n0 n1 n2
    obtain ⟨⟨m0, m1, m2, m3, m4, m5, m6, m7, m8, m9, m10, m11, m12⟩, n0, n1, n2⟩ := XB.out _ T1.out
    go_wp2_with fail
    first
    | (refine (IY.out _ T1.out).mono ?_
       rintro e w2 ⟨rfl, hb2⟩
       have T2 := Lib.hid (T1.out.trans (hb2.mono T1.out.size))
       clear hb2
       go_wp2
       go_ret
       exact ⟨rfl, HB.out.trans (T2.out.mono HB.out.size)⟩)
    | (go_ret
       exact ⟨rfl, HB.out.trans (T1.out.mono HB.out.size)⟩)

set_option maxHeartbeats 8000000 in
set_option maxRecDepth 100000 in
theorem hq_l (k : Int) (f g : Pt) (t t' : TypeId) (u u' : Value) (hc : LhC (.agg #[.int .i64 k, .iface t u, .iface t' u']) (.bi k f g)) : HqC (.iface 149 (.agg #[.int .i64 k, .iface t u, .iface t' u'])) (.bi k f g) := by
  intro N a c xs a' d ys zs w hlx hly H hv
  obtain ⟨W, hW, HB, hWs, XB⟩ := boxPx w N a c xs a' d ys zs 149 (.int .i64 k) (.iface t u) (.iface t' u')
  have CH := Lib.hid (fun (W' : World) (hW' : Below W.heap.size W W') => hc N a c xs a' d ys zs W' hlx hly ((H.keep HB.out (Nat.le_refl _)).keep hW' (Nat.le_refl _)) hv)
  obtain ⟨r, hr⟩ : ∃ r, r = hol xs ys N (.bi k f g) zs := ⟨_, rfl⟩
  rw [← hr] at CH ⊢
  unfold plc at CH ⊢
  obtain ⟨⟨m0, m1, m2, m3, m4, m5, m6, m7, m8, m9, m10, m11, m12⟩, n0, n1, n2⟩ := XB.out W (Below.refl _ _)
  have a_S := fun W => asS_no W 149 (.agg #[.int .i64 k, .iface t u, .iface t' u']) (by decide)
  have a_E := fun W => asE_no W 149 (.agg #[.int .i64 k, .iface t u, .iface t' u']) (by decide)
  have a_V := fun W => asV_no W 149 (.agg #[.int .i64 k, .iface t u, .iface t' u']) (by decide)
  have a_L := fun W => asL_yes W (.agg #[.int .i64 k, .iface t u, .iface t' u'])
  have HW := Lib.hid hW
  have HZ := Lib.hid hWs
  clear H hv hc hW hr hWs
  go_enter Try.func112, Try.ntmps112
  go_wp2_with fail
  rw [← HW.out]
  clear a_S a_E a_V a_L
  go_wp2_with fail
  refine (CH.out _ (Below.refl _ _)).mono ?_
  rintro e w1 ⟨rfl, hb1⟩
  have B1 := Lib.hid (HB.out.trans (hb1.mono HB.out.size))
  clear hb1
  go_wp2
  go_ret
  exact ⟨rfl, B1.out⟩

set_option maxHeartbeats 8000000 in
set_option maxRecDepth 100000 in
theorem hq_q (k x : Int) (f : Pt) (t : TypeId) (u : Value) (hc : QhC (.agg #[.int .i64 k, .int .i64 x, .iface t u]) (.un k x f)) : HqC (.iface 151 (.agg #[.int .i64 k, .int .i64 x, .iface t u])) (.un k x f) := by
  intro N a c xs a' d ys zs w hlx hly H hv
  obtain ⟨W, hW, HB, hWs, XB⟩ := boxPx w N a c xs a' d ys zs 151 (.int .i64 k) (.int .i64 x) (.iface t u)
  have CH := Lib.hid (fun (W' : World) (hW' : Below W.heap.size W W') => hc N a c xs a' d ys zs W' hlx hly ((H.keep HB.out (Nat.le_refl _)).keep hW' (Nat.le_refl _)) hv)
  obtain ⟨r, hr⟩ : ∃ r, r = hol xs ys N (.un k x f) zs := ⟨_, rfl⟩
  rw [← hr] at CH ⊢
  unfold plc at CH ⊢
  obtain ⟨⟨m0, m1, m2, m3, m4, m5, m6, m7, m8, m9, m10, m11, m12⟩, n0, n1, n2⟩ := XB.out W (Below.refl _ _)
  have a_S := fun W => asS_no W 151 (.agg #[.int .i64 k, .int .i64 x, .iface t u]) (by decide)
  have a_E := fun W => asE_no W 151 (.agg #[.int .i64 k, .int .i64 x, .iface t u]) (by decide)
  have a_V := fun W => asV_no W 151 (.agg #[.int .i64 k, .int .i64 x, .iface t u]) (by decide)
  have a_L := fun W => asL_no W 151 (.agg #[.int .i64 k, .int .i64 x, .iface t u]) (by decide)
  have a_Q := fun W => asQ_yes W (.agg #[.int .i64 k, .int .i64 x, .iface t u])
  have HW := Lib.hid hW
  have HZ := Lib.hid hWs
  clear H hv hc hW hr hWs
  go_enter Try.func112, Try.ntmps112
  go_wp2_with fail
  rw [← HW.out]
  clear a_S a_E a_V a_L a_Q
  go_wp2_with fail
  refine (CH.out _ (Below.refl _ _)).mono ?_
  rintro e w1 ⟨rfl, hb1⟩
  have B1 := Lib.hid (HB.out.trans (hb1.mono HB.out.size))
  clear hb1
  go_wp2
  go_ret
  exact ⟨rfl, B1.out⟩

end Go.Proofs.Ytbfnagmjnaacoaa
