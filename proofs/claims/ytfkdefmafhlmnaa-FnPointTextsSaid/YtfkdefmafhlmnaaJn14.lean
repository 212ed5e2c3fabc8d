/- 3 texts in one: Apt, Apq, Apv. -/
import Derived.Test.YtfkdefmafhlmnaaJn08
import Derived.Test.YtfkdefmafhlmnaaJn13
/- The program's appendPointText: the text of a point formula behind a text. Conditions: those in the theorems. -/
namespace Go.Proofs.Ytfkdefmafhlmnaa
open Go.RowKit

/-- What holds no bytes stays as it is. -/
def KeepT (w w' : World) : Prop := ∀ (c : Nat) (cs : Array Value) (T : TypeId) (z : Nat × Nat), T ≠ 5 → w.heap[c]? = some (.cells cs T z) → w'.heap[c]? = some (.cells cs T z)
theorem KeepT.trans {a b c : World} (h : KeepT a b) (k : KeepT b c) : KeepT a c := fun x cs T z hT hx => k x cs T z hT (h x cs T z hT hx)
theorem keepT_below {w w' : World} (h : Below w.heap.size w w') : KeepT w w' := fun c _ _ _ _ hx => (h.block c (Array.getElem?_eq_some_iff.1 hx).1).trans hx
theorem keepT_app {w w' : World} {B : Nat} {v : Value} {ys : List UInt8} (ho : OwnY w B v ys) (hg : w.grownBy w' v.ownBlock) : KeepT w w' := by
  intro c cs T z hT hx
  refine (hg.block c (Array.getElem?_eq_some_iff.1 hx).1 fun e => ?_).trans hx
  obtain ⟨hlen, ⟨rfl, hn0⟩ | ⟨g, cap, cur, rfl, hg', hh, hcc, hm, hs, ht⟩⟩ := id ho
  · cases e
  · have e2 : c = g := by simpa [Value.ownBlock] using e
    subst e2
    rw [hh] at hx
    simp only [Option.some.injEq, Obj.cells.injEq] at hx
    exact hT hx.2.1.symm
theorem KeepT.cell {w w' : World} (h : KeepT w w') {c : Nat} {cs : Array Value} {T : TypeId} {z : Nat × Nat} (hT : T ≠ 5) (hx : w.heap[c]? = some (.cells cs T z)) {a : Addr} (ha : a.block = c) {v : Value} (hv : w.cell? a = some v) : w'.cell? a = some v :=
  (World.cell?_of_block (by rw [ha, h c cs T z hT hx, hx])).trans hv

/-- What appendPointText is to do at a value. -/
def ApC (u : Value) (n : Nat) (zs : List UInt8) : Prop := ∀ (w : World) (v : Value) (B : Nat) (ys : List UInt8), B ≤ w.heap.size → OwnY w B v ys → ys.length + n ≤ 4194304 →
    Calls Try.prog 63 #[v, u] w fun e w' => ∃ v', e = .returned v' ∧ OwnY w' B v' (ys ++ zs) ∧ Below B w w' ∧ KeepT w w'

theorem cY3 {w : World} {a b c : UInt8} {x y z : Int} (hx : (a.toNat : Int) = x) (hy : (b.toNat : Int) = y) (hz : (c.toNat : Int) = z) (t : TypeId) : ∀ j u, (cY [a, b, c])[j]? = some u → (w.alloc (.cells #[.int .u8 x, .int .u8 y, .int .u8 z] t)).cell? ((⟨w.heap.size, 0, none⟩ : Addr).add j) = some u := by
  subst hx hy hz
  intro j u hu
  match j, hu with
  | 0, hu => simp [cY] at hu; subst hu; exact World.cell?_alloc_at _ _ _ _ rfl
  | 1, hu => simp [cY] at hu; subst hu; exact World.cell?_alloc_at _ _ _ _ rfl
  | 2, hu => simp [cY] at hu; subst hu; exact World.cell?_alloc_at _ _ _ _ rfl
theorem cY2 {w : World} {a b : UInt8} {x y : Int} (hx : (a.toNat : Int) = x) (hy : (b.toNat : Int) = y) (t : TypeId) : ∀ j u, (cY [a, b])[j]? = some u → (w.alloc (.cells #[.int .u8 x, .int .u8 y] t)).cell? ((⟨w.heap.size, 0, none⟩ : Addr).add j) = some u := by
  subst hx hy
  intro j u hu
  match j, hu with
  | 0, hu => simp [cY] at hu; subst hu; exact World.cell?_alloc_at _ _ _ _ rfl
  | 1, hu => simp [cY] at hu; subst hu; exact World.cell?_alloc_at _ _ _ _ rfl
theorem cY1 {w : World} {a : UInt8} {x : Int} (hx : (a.toNat : Int) = x) (t : TypeId) : ∀ j u, (cY [a])[j]? = some u → (w.alloc (.cells #[.int .u8 x] t)).cell? ((⟨w.heap.size, 0, none⟩ : Addr).add j) = some u := by
  subst hx
  intro j u hu
  match j, hu with
  | 0, hu => simp [cY] at hu; subst hu; exact World.cell?_alloc_at _ _ _ _ rfl

set_option maxHeartbeats 4000000 in
set_option maxRecDepth 100000 in
theorem ap_s (f s : Int) (h1 : 0 ≤ f) (h2 : f ≤ 9) (h3 : 0 ≤ s) (h4 : s ≤ 9) : ApC (.iface 125 (.agg #[.int .i64 f, .int .i64 s])) 3 [82, dg f, dg s] := by
  intro w v B ys hB hown hn
  obtain ⟨W, hW⟩ : ∃ W, W = w.alloc (.cells #[.int .i64 f, .int .i64 s] 125) := ⟨_, rfl⟩
  have hWb : Below B w W := by rw [hW]; exact (Below.refl _ _).alloc hB _
  have x0 : W.cell? ⟨w.heap.size, 0, none⟩ = some (.int .i64 f) := by rw [hW]; exact World.cell?_alloc_new _ _ _ 0
  have x1 : W.cell? ⟨w.heap.size, 1, none⟩ = some (.int .i64 s) := by rw [hW]; exact World.cell?_alloc_new _ _ _ 1
  have HW := Lib.hid hW
  have O := Lib.hid (show OwnY W B v ys by rw [hW]; exact World.ownsRow.alloc hown _)
  have KA := Lib.hid (fun W => (pointDigit_any f h1 h2 W))
  have KB := Lib.hid (fun W => (pointDigit_any s h3 h4 W))
  have OL := Lib.hid (World.ownsRow.alloc (show OwnY W.drew B v ys from O.out) (.cells #[.int .u8 82, .int .u8 (48 + f), .int .u8 (48 + s)] 5))
  have CL := Lib.hid (cY3 (w := W.drew) (a := 82) rfl (dg_cases h1 h2) (dg_cases h3 h4) 5)
  have BL := Lib.hid (hWb.drew.alloc (show B ≤ W.drew.heap.size from Nat.le_trans hB hWb.size) (.cells #[.int .u8 82, .int .u8 (48 + f), .int .u8 (48 + s)] 5))
  have SL := Lib.hid (Nat.le_trans hB BL.out.size)
  have KL := Lib.hid (keepT_below (show Below w.heap.size w (W.drew.alloc (.cells #[.int .u8 82, .int .u8 (48 + f), .int .u8 (48 + s)] 5)) from (show Below w.heap.size w W by rw [hW]; exact (Below.refl _ _).alloc (Nat.le_refl _) _).drew.alloc hWb.size _))
  have HN := Lib.hid hn
  have a_S := asS_yes w (.agg #[.int .i64 f, .int .i64 s])
  clear hW hown hn hWb
  go_enter Try.func63, Try.ntmps63
  go_wp2
  rw [← HW.out]
  clear a_S
  go_region_law (first | (refine step_appYn rfl _ _ rfl B v ys [82, dg f, dg s] rfl OL.out ⟨W.heap.size, 0, none⟩ 3 3 rfl rfl CL.out (by have := HN.out; omega) SL.out ?_; intro v1 w1 ho1 hg1; have B1 := Lib.hid (below_appY BL.out SL.out OL.out hg1); have O1 := Lib.hid ho1; have K1 := Lib.hid (KL.out.trans (keepT_app OL.out hg1)); clear ho1 hg1) | (go_simp; go_at_call_of 99 f; refine (KA.out _).mono ?_; rintro e w' ⟨rfl, rfl⟩) | (go_simp; go_at_call_of 99 s; refine (KB.out _).mono ?_; rintro e w' ⟨rfl, rfl⟩))
  all_goals
    go_wp2
    go_ret
    exact ⟨_, rfl, O1.out, B1.out, K1.out⟩

set_option maxHeartbeats 4000000 in
set_option maxRecDepth 100000 in
theorem ap_e (f s : Int) (h1 : 0 ≤ f) (h2 : f ≤ 9) (h3 : 0 ≤ s) (h4 : s ≤ 9) : ApC (.iface 128 (.agg #[.int .i64 f, .int .i64 s])) 3 [dg f, 61, dg s] := by
  intro w v B ys hB hown hn
  obtain ⟨W, hW⟩ : ∃ W, W = w.alloc (.cells #[.int .i64 f, .int .i64 s] 128) := ⟨_, rfl⟩
  have hWb : Below B w W := by rw [hW]; exact (Below.refl _ _).alloc hB _
  have x0 : W.cell? ⟨w.heap.size, 0, none⟩ = some (.int .i64 f) := by rw [hW]; exact World.cell?_alloc_new _ _ _ 0
  have x1 : W.cell? ⟨w.heap.size, 1, none⟩ = some (.int .i64 s) := by rw [hW]; exact World.cell?_alloc_new _ _ _ 1
  have HW := Lib.hid hW
  have O := Lib.hid (show OwnY W B v ys by rw [hW]; exact World.ownsRow.alloc hown _)
  have KA := Lib.hid (fun W => (pointDigit_any f h1 h2 W))
  have KB := Lib.hid (fun W => (pointDigit_any s h3 h4 W))
  have OL := Lib.hid (World.ownsRow.alloc (show OwnY W.drew B v ys from O.out) (.cells #[.int .u8 (48 + f), .int .u8 61, .int .u8 (48 + s)] 5))
  have CL := Lib.hid (cY3 (w := W.drew) (b := 61) (dg_cases h1 h2) rfl (dg_cases h3 h4) 5)
  have BL := Lib.hid (hWb.drew.alloc (show B ≤ W.drew.heap.size from Nat.le_trans hB hWb.size) (.cells #[.int .u8 (48 + f), .int .u8 61, .int .u8 (48 + s)] 5))
  have SL := Lib.hid (Nat.le_trans hB BL.out.size)
  have KL := Lib.hid (keepT_below (show Below w.heap.size w (W.drew.alloc (.cells #[.int .u8 (48 + f), .int .u8 61, .int .u8 (48 + s)] 5)) from (show Below w.heap.size w W by rw [hW]; exact (Below.refl _ _).alloc (Nat.le_refl _) _).drew.alloc hWb.size _))
  have HN := Lib.hid hn
  have a_S := asS_no w 128 (.agg #[.int .i64 f, .int .i64 s]) (by decide)
  have a_E := asE_yes w (.agg #[.int .i64 f, .int .i64 s])
  clear hW hown hn hWb
  go_enter Try.func63, Try.ntmps63
  go_wp2
  rw [← HW.out]
  clear a_S a_E
  go_region_law (first | (refine step_appYn rfl _ _ rfl B v ys [dg f, 61, dg s] rfl OL.out ⟨W.heap.size, 0, none⟩ 3 3 rfl rfl CL.out (by have := HN.out; omega) SL.out ?_; intro v1 w1 ho1 hg1; have B1 := Lib.hid (below_appY BL.out SL.out OL.out hg1); have O1 := Lib.hid ho1; have K1 := Lib.hid (KL.out.trans (keepT_app OL.out hg1)); clear ho1 hg1) | (go_simp; go_at_call_of 99 f; refine (KA.out _).mono ?_; rintro e w' ⟨rfl, rfl⟩) | (go_simp; go_at_call_of 99 s; refine (KB.out _).mono ?_; rintro e w' ⟨rfl, rfl⟩))
  all_goals
    go_wp2
    go_ret
    exact ⟨_, rfl, O1.out, B1.out, K1.out⟩

set_option maxHeartbeats 4000000 in
set_option maxRecDepth 100000 in
theorem ap_f : ApC (.iface 148 (.agg #[])) 3 [70] := by
  intro w v B ys hB hown hn
  have a0 := asS_no w 148 (.agg #[]) (by decide)
  have a1 := asE_no w 148 (.agg #[]) (by decide)
  have a2 := asV_no w 148 (.agg #[]) (by decide)
  have a3 := asL_no w 148 (.agg #[]) (by decide)
  have a4 := asQ_no w 148 (.agg #[]) (by decide)
  have O := Lib.hid hown
  have BA := Lib.hid ((Below.refl B w).alloc hB (.cells #[.int .u8 70] 5))
  have HN := Lib.hid hn
  clear hown hn
  go_enter Try.func63, Try.ntmps63
  go_wp2_with (at_builtin; refine list_appY1 rfl _ _ rfl B v ys rfl (O.out.alloc _) ⟨w.heap.size, 0, none⟩ 1 70 70 rfl (World.cell?_alloc_at _ _ _ _ rfl) rfl (by have := HN.out; omega) (by simp; omega) ?_)
  intro v1 w1 ho1 hg1
  have B1 := Lib.hid (below_appY BA.out (by simp; omega) (World.ownsRow.alloc O.out _) hg1)
  have O1 := Lib.hid ho1
  have K1 := Lib.hid ((keepT_below ((Below.refl _ _).alloc (Nat.le_refl _) _)).trans (keepT_app (World.ownsRow.alloc O.out _) hg1))
  clear ho1 hg1
  go_wp2
  go_ret
  exact ⟨_, rfl, O1.out, B1.out, K1.out⟩

end Go.Proofs.Ytfkdefmafhlmnaa

/- The program's appendPointText at quantifiers. Conditions: those in the theorems. -/
namespace Go.Proofs.Ytfkdefmafhlmnaa
open Go.RowKit

set_option maxHeartbeats 4000000 in
set_option maxRecDepth 100000 in
theorem ap_q7 (x : Int) (n : Nat) (zs : List UInt8) (h1 : 0 ≤ x) (h2 : x ≤ 9) (t : TypeId) (u : Value) (hp : ApC (.iface t u) n zs) : ApC (.iface 135 (.agg #[.int .i64 7, .int .i64 x, .iface t u])) (n + 2) ([65, dg x] ++ zs) := by
  intro w v B ys hB hown hn
  obtain ⟨W, hW⟩ : ∃ W, W = w.alloc (.cells #[.int .i64 7, .int .i64 x, .iface t u] 135) := ⟨_, rfl⟩
  have hWb : Below B w W := by rw [hW]; exact (Below.refl _ _).alloc hB _
  have x0 : W.cell? ⟨w.heap.size, 0, none⟩ = some (.int .i64 7) := by rw [hW]; exact World.cell?_alloc_new _ _ _ 0
  have x1 : W.cell? ⟨w.heap.size, 1, none⟩ = some (.int .i64 x) := by rw [hW]; exact World.cell?_alloc_new _ _ _ 1
  have x2 : W.cell? ⟨w.heap.size, 2, none⟩ = some (.iface t u) := by rw [hW]; exact World.cell?_alloc_new _ _ _ 2
  have HW := Lib.hid hW
  have NE := Lib.hid (show some w.heap.size ≠ v.ownBlock from fun e => by have := (World.ownsRow.lt hown _ e.symm).2; omega)
  have O := Lib.hid (show OwnY W B v ys by rw [hW]; exact World.ownsRow.alloc hown _)
  have KA := Lib.hid (fun W => (pointDigit_any x h1 h2 W))
  have OL := Lib.hid (World.ownsRow.alloc (show OwnY W.drew B v ys from O.out) (.cells #[.int .u8 65, .int .u8 (48 + x)] 5))
  have CL := Lib.hid (cY2 (w := W.drew) (a := 65) rfl (dg_cases h1 h2) 5)
  have BL := Lib.hid (hWb.drew.alloc (show B ≤ W.drew.heap.size from Nat.le_trans hB hWb.size) (.cells #[.int .u8 65, .int .u8 (48 + x)] 5))
  have SL := Lib.hid (Nat.le_trans hB BL.out.size)
  have KL := Lib.hid (keepT_below (show Below w.heap.size w (W.drew.alloc (.cells #[.int .u8 65, .int .u8 (48 + x)] 5)) from (show Below w.heap.size w W by rw [hW]; exact (Below.refl _ _).alloc (Nat.le_refl _) _).drew.alloc hWb.size _))
  have XL := Lib.hid (show (W.drew.alloc (.cells #[.int .u8 65, .int .u8 (48 + x)] 5)).cell? ⟨w.heap.size, 2, none⟩ = some (.iface t u) from (((Below.refl W.drew.heap.size W.drew).alloc (Nat.le_refl _) _).cell (p := ⟨w.heap.size, 2, none⟩) (show w.heap.size < W.heap.size by rw [hW]; simp)).trans x2)
  have HN := Lib.hid hn
  have HP := Lib.hid hp
  have a0 := asS_no w 135 (.agg #[.int .i64 7, .int .i64 x, .iface t u]) (by decide)
  have a1 := asE_no w 135 (.agg #[.int .i64 7, .int .i64 x, .iface t u]) (by decide)
  have a2 := asV_no w 135 (.agg #[.int .i64 7, .int .i64 x, .iface t u]) (by decide)
  have a3 := asL_no w 135 (.agg #[.int .i64 7, .int .i64 x, .iface t u]) (by decide)
  have a4 := asQ_yes w (.agg #[.int .i64 7, .int .i64 x, .iface t u])
  clear hW hown hn hWb hp
  go_enter Try.func63, Try.ntmps63
  go_wp2
  rw [← HW.out]
  clear a0 a1 a2 a3 a4
  have e0 : IntKind.i64.wrap ((7 : Int) - 7) = 0 := by decide
  have e1 : IntKind.i64.wrap (0 : Int) = 0 := by decide
  go_region_law (first | (refine step_appYn rfl _ _ rfl B v ys [65, dg x] rfl OL.out ⟨W.heap.size, 0, none⟩ 2 2 rfl rfl CL.out (by have := HN.out; omega) SL.out ?_; intro v1 w1 ho1 hg1; have B1 := Lib.hid (below_appY BL.out SL.out OL.out hg1); have O1 := Lib.hid ho1; have K1 := Lib.hid (KL.out.trans (keepT_app OL.out hg1)); have y2 := hg1.cell XL.out NE.out; clear ho1 hg1) | (go_simp; go_at_call 99; refine (KA.out _).mono ?_; rintro e w' ⟨rfl, rfl⟩))
  all_goals
    clear x0 x1 x2
    go_wp2_with fail
    refine (HP.out _ _ B _ (Nat.le_trans hB B1.out.size) O1.out (by have := HN.out; simp; omega)).mono ?_
    rintro e w2 ⟨v2, rfl, ho2, hb2, hk2⟩
    have B2 := Lib.hid (B1.out.trans hb2)
    have O2 := Lib.hid ho2
    have K2 := Lib.hid (K1.out.trans hk2)
    clear ho2 hb2 hk2
    go_wp2
    go_ret
    exact ⟨_, rfl, by rw [List.append_assoc] at O2; exact O2.out, B2.out, K2.out⟩

set_option maxHeartbeats 4000000 in
set_option maxRecDepth 100000 in
theorem ap_q8 (x : Int) (n : Nat) (zs : List UInt8) (h1 : 0 ≤ x) (h2 : x ≤ 9) (t : TypeId) (u : Value) (hp : ApC (.iface t u) n zs) : ApC (.iface 135 (.agg #[.int .i64 8, .int .i64 x, .iface t u])) (n + 2) ([69, dg x] ++ zs) := by
  intro w v B ys hB hown hn
  obtain ⟨W, hW⟩ : ∃ W, W = w.alloc (.cells #[.int .i64 8, .int .i64 x, .iface t u] 135) := ⟨_, rfl⟩
  have hWb : Below B w W := by rw [hW]; exact (Below.refl _ _).alloc hB _
  have x0 : W.cell? ⟨w.heap.size, 0, none⟩ = some (.int .i64 8) := by rw [hW]; exact World.cell?_alloc_new _ _ _ 0
  have x1 : W.cell? ⟨w.heap.size, 1, none⟩ = some (.int .i64 x) := by rw [hW]; exact World.cell?_alloc_new _ _ _ 1
  have x2 : W.cell? ⟨w.heap.size, 2, none⟩ = some (.iface t u) := by rw [hW]; exact World.cell?_alloc_new _ _ _ 2
  have HW := Lib.hid hW
  have NE := Lib.hid (show some w.heap.size ≠ v.ownBlock from fun e => by have := (World.ownsRow.lt hown _ e.symm).2; omega)
  have O := Lib.hid (show OwnY W B v ys by rw [hW]; exact World.ownsRow.alloc hown _)
  have KA := Lib.hid (fun W => (pointDigit_any x h1 h2 W))
  have OL := Lib.hid (World.ownsRow.alloc (show OwnY W.drew B v ys from O.out) (.cells #[.int .u8 69, .int .u8 (48 + x)] 5))
  have CL := Lib.hid (cY2 (w := W.drew) (a := 69) rfl (dg_cases h1 h2) 5)
  have BL := Lib.hid (hWb.drew.alloc (show B ≤ W.drew.heap.size from Nat.le_trans hB hWb.size) (.cells #[.int .u8 69, .int .u8 (48 + x)] 5))
  have SL := Lib.hid (Nat.le_trans hB BL.out.size)
  have KL := Lib.hid (keepT_below (show Below w.heap.size w (W.drew.alloc (.cells #[.int .u8 69, .int .u8 (48 + x)] 5)) from (show Below w.heap.size w W by rw [hW]; exact (Below.refl _ _).alloc (Nat.le_refl _) _).drew.alloc hWb.size _))
  have XL := Lib.hid (show (W.drew.alloc (.cells #[.int .u8 69, .int .u8 (48 + x)] 5)).cell? ⟨w.heap.size, 2, none⟩ = some (.iface t u) from (((Below.refl W.drew.heap.size W.drew).alloc (Nat.le_refl _) _).cell (p := ⟨w.heap.size, 2, none⟩) (show w.heap.size < W.heap.size by rw [hW]; simp)).trans x2)
  have HN := Lib.hid hn
  have HP := Lib.hid hp
  have a0 := asS_no w 135 (.agg #[.int .i64 8, .int .i64 x, .iface t u]) (by decide)
  have a1 := asE_no w 135 (.agg #[.int .i64 8, .int .i64 x, .iface t u]) (by decide)
  have a2 := asV_no w 135 (.agg #[.int .i64 8, .int .i64 x, .iface t u]) (by decide)
  have a3 := asL_no w 135 (.agg #[.int .i64 8, .int .i64 x, .iface t u]) (by decide)
  have a4 := asQ_yes w (.agg #[.int .i64 8, .int .i64 x, .iface t u])
  clear hW hown hn hWb hp
  go_enter Try.func63, Try.ntmps63
  go_wp2
  rw [← HW.out]
  clear a0 a1 a2 a3 a4
  have e0 : IntKind.i64.wrap ((8 : Int) - 7) = 1 := by decide
  have e1 : IntKind.i64.wrap (1 : Int) = 1 := by decide
  go_region_law (first | (refine step_appYn rfl _ _ rfl B v ys [69, dg x] rfl OL.out ⟨W.heap.size, 0, none⟩ 2 2 rfl rfl CL.out (by have := HN.out; omega) SL.out ?_; intro v1 w1 ho1 hg1; have B1 := Lib.hid (below_appY BL.out SL.out OL.out hg1); have O1 := Lib.hid ho1; have K1 := Lib.hid (KL.out.trans (keepT_app OL.out hg1)); have y2 := hg1.cell XL.out NE.out; clear ho1 hg1) | (go_simp; go_at_call 99; refine (KA.out _).mono ?_; rintro e w' ⟨rfl, rfl⟩))
  all_goals
    clear x0 x1 x2
    go_wp2_with fail
    refine (HP.out _ _ B _ (Nat.le_trans hB B1.out.size) O1.out (by have := HN.out; simp; omega)).mono ?_
    rintro e w2 ⟨v2, rfl, ho2, hb2, hk2⟩
    have B2 := Lib.hid (B1.out.trans hb2)
    have O2 := Lib.hid ho2
    have K2 := Lib.hid (K1.out.trans hk2)
    clear ho2 hb2 hk2
    go_wp2
    go_ret
    exact ⟨_, rfl, by rw [List.append_assoc] at O2; exact O2.out, B2.out, K2.out⟩

end Go.Proofs.Ytfkdefmafhlmnaa

/- The program's appendPointText at variables. Conditions: those in the theorems. -/
namespace Go.Proofs.Ytfkdefmafhlmnaa
open Go.RowKit

set_option maxHeartbeats 4000000 in
set_option maxRecDepth 100000 in
theorem ap_v (f s : Int) (h1 : 0 ≤ f) (h2 : f ≤ 5) (h3 : 0 ≤ s) (h4 : s ≤ 9) : ApC (.iface 130 (.agg #[.int .i64 f, .int .i64 s])) 3 [UInt8.ofNat (112 + f.toNat), dg s] := by
  have hx : f = 0 ∨ f = 1 ∨ f = 2 ∨ f = 3 ∨ f = 4 ∨ f = 5 := by omega
  clear h1 h2
  intro w v B ys hB hown hn
  rcases hx with rfl | rfl | rfl | rfl | rfl | rfl
  · obtain ⟨W, hW⟩ : ∃ W, W = w.alloc (.cells #[.int .i64 0, .int .i64 s] 130) := ⟨_, rfl⟩
    have hWb : Below B w W := by rw [hW]; exact (Below.refl _ _).alloc hB _
    have x0 : W.cell? ⟨w.heap.size, 0, none⟩ = some (.int .i64 0) := by rw [hW]; exact World.cell?_alloc_new _ _ _ 0
    have x1 : W.cell? ⟨w.heap.size, 1, none⟩ = some (.int .i64 s) := by rw [hW]; exact World.cell?_alloc_new _ _ _ 1
    have HW := Lib.hid hW
    have O := Lib.hid (show OwnY W B v ys by rw [hW]; exact World.ownsRow.alloc hown _)
    have KB := Lib.hid (fun W => (pointDigit_any s h3 h4 W))
    have OL := Lib.hid (World.ownsRow.alloc (show OwnY W.drew B v ys from O.out) (.cells #[.int .u8 112, .int .u8 (48 + s)] 5))
    have CL := Lib.hid (cY2 (w := W.drew) (show ((UInt8.ofNat (112 + (0 : Int).toNat)).toNat : Int) = 112 by decide) (dg_cases h3 h4) 5)
    have BL := Lib.hid (hWb.drew.alloc (show B ≤ W.drew.heap.size from Nat.le_trans hB hWb.size) (.cells #[.int .u8 112, .int .u8 (48 + s)] 5))
    have SL := Lib.hid (Nat.le_trans hB BL.out.size)
    have KL := Lib.hid (keepT_below (show Below w.heap.size w (W.drew.alloc (.cells #[.int .u8 112, .int .u8 (48 + s)] 5)) from (show Below w.heap.size w W by rw [hW]; exact (Below.refl _ _).alloc (Nat.le_refl _) _).drew.alloc hWb.size _))
    have HN := Lib.hid hn
    have a_S := asS_no w 130 (.agg #[.int .i64 0, .int .i64 s]) (by decide)
    have a_E := asE_no w 130 (.agg #[.int .i64 0, .int .i64 s]) (by decide)
    have a_V := asV_yes w (.agg #[.int .i64 0, .int .i64 s])
    clear hW hown hn hWb
    go_enter Try.func63, Try.ntmps63
    go_wp2
    rw [← HW.out]
    clear a_S a_E a_V
    go_region_law (first | (refine step_appYn rfl _ _ rfl B v ys [UInt8.ofNat (112 + (0 : Int).toNat), dg s] rfl OL.out ⟨W.heap.size, 0, none⟩ 2 2 rfl rfl CL.out (by have := HN.out; omega) SL.out ?_; intro v1 w1 ho1 hg1; have B1 := Lib.hid (below_appY BL.out SL.out OL.out hg1); have O1 := Lib.hid ho1; have K1 := Lib.hid (KL.out.trans (keepT_app OL.out hg1)); clear ho1 hg1) | (go_simp; go_at_call_of 99 s; refine (KB.out _).mono ?_; rintro e w' ⟨rfl, rfl⟩))
    all_goals
      go_wp2
      go_ret
      exact ⟨_, rfl, O1.out, B1.out, K1.out⟩
  · obtain ⟨W, hW⟩ : ∃ W, W = w.alloc (.cells #[.int .i64 1, .int .i64 s] 130) := ⟨_, rfl⟩
    have hWb : Below B w W := by rw [hW]; exact (Below.refl _ _).alloc hB _
    have x0 : W.cell? ⟨w.heap.size, 0, none⟩ = some (.int .i64 1) := by rw [hW]; exact World.cell?_alloc_new _ _ _ 0
    have x1 : W.cell? ⟨w.heap.size, 1, none⟩ = some (.int .i64 s) := by rw [hW]; exact World.cell?_alloc_new _ _ _ 1
    have HW := Lib.hid hW
    have O := Lib.hid (show OwnY W B v ys by rw [hW]; exact World.ownsRow.alloc hown _)
    have KB := Lib.hid (fun W => (pointDigit_any s h3 h4 W))
    have OL := Lib.hid (World.ownsRow.alloc (show OwnY W.drew B v ys from O.out) (.cells #[.int .u8 113, .int .u8 (48 + s)] 5))
    have CL := Lib.hid (cY2 (w := W.drew) (show ((UInt8.ofNat (112 + (1 : Int).toNat)).toNat : Int) = 113 by decide) (dg_cases h3 h4) 5)
    have BL := Lib.hid (hWb.drew.alloc (show B ≤ W.drew.heap.size from Nat.le_trans hB hWb.size) (.cells #[.int .u8 113, .int .u8 (48 + s)] 5))
    have SL := Lib.hid (Nat.le_trans hB BL.out.size)
    have KL := Lib.hid (keepT_below (show Below w.heap.size w (W.drew.alloc (.cells #[.int .u8 113, .int .u8 (48 + s)] 5)) from (show Below w.heap.size w W by rw [hW]; exact (Below.refl _ _).alloc (Nat.le_refl _) _).drew.alloc hWb.size _))
    have HN := Lib.hid hn
    have a_S := asS_no w 130 (.agg #[.int .i64 1, .int .i64 s]) (by decide)
    have a_E := asE_no w 130 (.agg #[.int .i64 1, .int .i64 s]) (by decide)
    have a_V := asV_yes w (.agg #[.int .i64 1, .int .i64 s])
    clear hW hown hn hWb
    go_enter Try.func63, Try.ntmps63
    go_wp2
    rw [← HW.out]
    clear a_S a_E a_V
    go_region_law (first | (refine step_appYn rfl _ _ rfl B v ys [UInt8.ofNat (112 + (1 : Int).toNat), dg s] rfl OL.out ⟨W.heap.size, 0, none⟩ 2 2 rfl rfl CL.out (by have := HN.out; omega) SL.out ?_; intro v1 w1 ho1 hg1; have B1 := Lib.hid (below_appY BL.out SL.out OL.out hg1); have O1 := Lib.hid ho1; have K1 := Lib.hid (KL.out.trans (keepT_app OL.out hg1)); clear ho1 hg1) | (go_simp; go_at_call_of 99 s; refine (KB.out _).mono ?_; rintro e w' ⟨rfl, rfl⟩))
    all_goals
      go_wp2
      go_ret
      exact ⟨_, rfl, O1.out, B1.out, K1.out⟩
  · obtain ⟨W, hW⟩ : ∃ W, W = w.alloc (.cells #[.int .i64 2, .int .i64 s] 130) := ⟨_, rfl⟩
    have hWb : Below B w W := by rw [hW]; exact (Below.refl _ _).alloc hB _
    have x0 : W.cell? ⟨w.heap.size, 0, none⟩ = some (.int .i64 2) := by rw [hW]; exact World.cell?_alloc_new _ _ _ 0
    have x1 : W.cell? ⟨w.heap.size, 1, none⟩ = some (.int .i64 s) := by rw [hW]; exact World.cell?_alloc_new _ _ _ 1
    have HW := Lib.hid hW
    have O := Lib.hid (show OwnY W B v ys by rw [hW]; exact World.ownsRow.alloc hown _)
    have KB := Lib.hid (fun W => (pointDigit_any s h3 h4 W))
    have OL := Lib.hid (World.ownsRow.alloc (show OwnY W.drew B v ys from O.out) (.cells #[.int .u8 114, .int .u8 (48 + s)] 5))
    have CL := Lib.hid (cY2 (w := W.drew) (show ((UInt8.ofNat (112 + (2 : Int).toNat)).toNat : Int) = 114 by decide) (dg_cases h3 h4) 5)
    have BL := Lib.hid (hWb.drew.alloc (show B ≤ W.drew.heap.size from Nat.le_trans hB hWb.size) (.cells #[.int .u8 114, .int .u8 (48 + s)] 5))
    have SL := Lib.hid (Nat.le_trans hB BL.out.size)
    have KL := Lib.hid (keepT_below (show Below w.heap.size w (W.drew.alloc (.cells #[.int .u8 114, .int .u8 (48 + s)] 5)) from (show Below w.heap.size w W by rw [hW]; exact (Below.refl _ _).alloc (Nat.le_refl _) _).drew.alloc hWb.size _))
    have HN := Lib.hid hn
    have a_S := asS_no w 130 (.agg #[.int .i64 2, .int .i64 s]) (by decide)
    have a_E := asE_no w 130 (.agg #[.int .i64 2, .int .i64 s]) (by decide)
    have a_V := asV_yes w (.agg #[.int .i64 2, .int .i64 s])
    clear hW hown hn hWb
    go_enter Try.func63, Try.ntmps63
    go_wp2
    rw [← HW.out]
    clear a_S a_E a_V
    go_region_law (first | (refine step_appYn rfl _ _ rfl B v ys [UInt8.ofNat (112 + (2 : Int).toNat), dg s] rfl OL.out ⟨W.heap.size, 0, none⟩ 2 2 rfl rfl CL.out (by have := HN.out; omega) SL.out ?_; intro v1 w1 ho1 hg1; have B1 := Lib.hid (below_appY BL.out SL.out OL.out hg1); have O1 := Lib.hid ho1; have K1 := Lib.hid (KL.out.trans (keepT_app OL.out hg1)); clear ho1 hg1) | (go_simp; go_at_call_of 99 s; refine (KB.out _).mono ?_; rintro e w' ⟨rfl, rfl⟩))
    all_goals
      go_wp2
      go_ret
      exact ⟨_, rfl, O1.out, B1.out, K1.out⟩
  · obtain ⟨W, hW⟩ : ∃ W, W = w.alloc (.cells #[.int .i64 3, .int .i64 s] 130) := ⟨_, rfl⟩
    have hWb : Below B w W := by rw [hW]; exact (Below.refl _ _).alloc hB _
    have x0 : W.cell? ⟨w.heap.size, 0, none⟩ = some (.int .i64 3) := by rw [hW]; exact World.cell?_alloc_new _ _ _ 0
    have x1 : W.cell? ⟨w.heap.size, 1, none⟩ = some (.int .i64 s) := by rw [hW]; exact World.cell?_alloc_new _ _ _ 1
    have HW := Lib.hid hW
    have O := Lib.hid (show OwnY W B v ys by rw [hW]; exact World.ownsRow.alloc hown _)
    have KB := Lib.hid (fun W => (pointDigit_any s h3 h4 W))
    have OL := Lib.hid (World.ownsRow.alloc (show OwnY W.drew B v ys from O.out) (.cells #[.int .u8 115, .int .u8 (48 + s)] 5))
    have CL := Lib.hid (cY2 (w := W.drew) (show ((UInt8.ofNat (112 + (3 : Int).toNat)).toNat : Int) = 115 by decide) (dg_cases h3 h4) 5)
    have BL := Lib.hid (hWb.drew.alloc (show B ≤ W.drew.heap.size from Nat.le_trans hB hWb.size) (.cells #[.int .u8 115, .int .u8 (48 + s)] 5))
    have SL := Lib.hid (Nat.le_trans hB BL.out.size)
    have KL := Lib.hid (keepT_below (show Below w.heap.size w (W.drew.alloc (.cells #[.int .u8 115, .int .u8 (48 + s)] 5)) from (show Below w.heap.size w W by rw [hW]; exact (Below.refl _ _).alloc (Nat.le_refl _) _).drew.alloc hWb.size _))
    have HN := Lib.hid hn
    have a_S := asS_no w 130 (.agg #[.int .i64 3, .int .i64 s]) (by decide)
    have a_E := asE_no w 130 (.agg #[.int .i64 3, .int .i64 s]) (by decide)
    have a_V := asV_yes w (.agg #[.int .i64 3, .int .i64 s])
    clear hW hown hn hWb
    go_enter Try.func63, Try.ntmps63
    go_wp2
    rw [← HW.out]
    clear a_S a_E a_V
    go_region_law (first | (refine step_appYn rfl _ _ rfl B v ys [UInt8.ofNat (112 + (3 : Int).toNat), dg s] rfl OL.out ⟨W.heap.size, 0, none⟩ 2 2 rfl rfl CL.out (by have := HN.out; omega) SL.out ?_; intro v1 w1 ho1 hg1; have B1 := Lib.hid (below_appY BL.out SL.out OL.out hg1); have O1 := Lib.hid ho1; have K1 := Lib.hid (KL.out.trans (keepT_app OL.out hg1)); clear ho1 hg1) | (go_simp; go_at_call_of 99 s; refine (KB.out _).mono ?_; rintro e w' ⟨rfl, rfl⟩))
    all_goals
      go_wp2
      go_ret
      exact ⟨_, rfl, O1.out, B1.out, K1.out⟩
  · obtain ⟨W, hW⟩ : ∃ W, W = w.alloc (.cells #[.int .i64 4, .int .i64 s] 130) := ⟨_, rfl⟩
    have hWb : Below B w W := by rw [hW]; exact (Below.refl _ _).alloc hB _
    have x0 : W.cell? ⟨w.heap.size, 0, none⟩ = some (.int .i64 4) := by rw [hW]; exact World.cell?_alloc_new _ _ _ 0
    have x1 : W.cell? ⟨w.heap.size, 1, none⟩ = some (.int .i64 s) := by rw [hW]; exact World.cell?_alloc_new _ _ _ 1
    have HW := Lib.hid hW
    have O := Lib.hid (show OwnY W B v ys by rw [hW]; exact World.ownsRow.alloc hown _)
    have KB := Lib.hid (fun W => (pointDigit_any s h3 h4 W))
    have OL := Lib.hid (World.ownsRow.alloc (show OwnY W.drew B v ys from O.out) (.cells #[.int .u8 116, .int .u8 (48 + s)] 5))
    have CL := Lib.hid (cY2 (w := W.drew) (show ((UInt8.ofNat (112 + (4 : Int).toNat)).toNat : Int) = 116 by decide) (dg_cases h3 h4) 5)
    have BL := Lib.hid (hWb.drew.alloc (show B ≤ W.drew.heap.size from Nat.le_trans hB hWb.size) (.cells #[.int .u8 116, .int .u8 (48 + s)] 5))
    have SL := Lib.hid (Nat.le_trans hB BL.out.size)
    have KL := Lib.hid (keepT_below (show Below w.heap.size w (W.drew.alloc (.cells #[.int .u8 116, .int .u8 (48 + s)] 5)) from (show Below w.heap.size w W by rw [hW]; exact (Below.refl _ _).alloc (Nat.le_refl _) _).drew.alloc hWb.size _))
    have HN := Lib.hid hn
    have a_S := asS_no w 130 (.agg #[.int .i64 4, .int .i64 s]) (by decide)
    have a_E := asE_no w 130 (.agg #[.int .i64 4, .int .i64 s]) (by decide)
    have a_V := asV_yes w (.agg #[.int .i64 4, .int .i64 s])
    clear hW hown hn hWb
    go_enter Try.func63, Try.ntmps63
    go_wp2
    rw [← HW.out]
    clear a_S a_E a_V
    go_region_law (first | (refine step_appYn rfl _ _ rfl B v ys [UInt8.ofNat (112 + (4 : Int).toNat), dg s] rfl OL.out ⟨W.heap.size, 0, none⟩ 2 2 rfl rfl CL.out (by have := HN.out; omega) SL.out ?_; intro v1 w1 ho1 hg1; have B1 := Lib.hid (below_appY BL.out SL.out OL.out hg1); have O1 := Lib.hid ho1; have K1 := Lib.hid (KL.out.trans (keepT_app OL.out hg1)); clear ho1 hg1) | (go_simp; go_at_call_of 99 s; refine (KB.out _).mono ?_; rintro e w' ⟨rfl, rfl⟩))
    all_goals
      go_wp2
      go_ret
      exact ⟨_, rfl, O1.out, B1.out, K1.out⟩
  · obtain ⟨W, hW⟩ : ∃ W, W = w.alloc (.cells #[.int .i64 5, .int .i64 s] 130) := ⟨_, rfl⟩
    have hWb : Below B w W := by rw [hW]; exact (Below.refl _ _).alloc hB _
    have x0 : W.cell? ⟨w.heap.size, 0, none⟩ = some (.int .i64 5) := by rw [hW]; exact World.cell?_alloc_new _ _ _ 0
    have x1 : W.cell? ⟨w.heap.size, 1, none⟩ = some (.int .i64 s) := by rw [hW]; exact World.cell?_alloc_new _ _ _ 1
    have HW := Lib.hid hW
    have O := Lib.hid (show OwnY W B v ys by rw [hW]; exact World.ownsRow.alloc hown _)
    have KB := Lib.hid (fun W => (pointDigit_any s h3 h4 W))
    have OL := Lib.hid (World.ownsRow.alloc (show OwnY W.drew B v ys from O.out) (.cells #[.int .u8 117, .int .u8 (48 + s)] 5))
    have CL := Lib.hid (cY2 (w := W.drew) (show ((UInt8.ofNat (112 + (5 : Int).toNat)).toNat : Int) = 117 by decide) (dg_cases h3 h4) 5)
    have BL := Lib.hid (hWb.drew.alloc (show B ≤ W.drew.heap.size from Nat.le_trans hB hWb.size) (.cells #[.int .u8 117, .int .u8 (48 + s)] 5))
    have SL := Lib.hid (Nat.le_trans hB BL.out.size)
    have KL := Lib.hid (keepT_below (show Below w.heap.size w (W.drew.alloc (.cells #[.int .u8 117, .int .u8 (48 + s)] 5)) from (show Below w.heap.size w W by rw [hW]; exact (Below.refl _ _).alloc (Nat.le_refl _) _).drew.alloc hWb.size _))
    have HN := Lib.hid hn
    have a_S := asS_no w 130 (.agg #[.int .i64 5, .int .i64 s]) (by decide)
    have a_E := asE_no w 130 (.agg #[.int .i64 5, .int .i64 s]) (by decide)
    have a_V := asV_yes w (.agg #[.int .i64 5, .int .i64 s])
    clear hW hown hn hWb
    go_enter Try.func63, Try.ntmps63
    go_wp2
    rw [← HW.out]
    clear a_S a_E a_V
    go_region_law (first | (refine step_appYn rfl _ _ rfl B v ys [UInt8.ofNat (112 + (5 : Int).toNat), dg s] rfl OL.out ⟨W.heap.size, 0, none⟩ 2 2 rfl rfl CL.out (by have := HN.out; omega) SL.out ?_; intro v1 w1 ho1 hg1; have B1 := Lib.hid (below_appY BL.out SL.out OL.out hg1); have O1 := Lib.hid ho1; have K1 := Lib.hid (KL.out.trans (keepT_app OL.out hg1)); clear ho1 hg1) | (go_simp; go_at_call_of 99 s; refine (KB.out _).mono ?_; rintro e w' ⟨rfl, rfl⟩))
    all_goals
      go_wp2
      go_ret
      exact ⟨_, rfl, O1.out, B1.out, K1.out⟩

end Go.Proofs.Ytfkdefmafhlmnaa
