/- The program's appendPointText at quantifiers. Conditions: those in the theorems. -/
import Derived.Test.YtfdoecnpnfojpaaApt
namespace Go.Proofs.Ytfdoecnpnfojpaa
open Go.RowKit

set_option maxHeartbeats 4000000 in
set_option maxRecDepth 100000 in
theorem ap_q7 (x : Int) (n : Nat) (zs : List UInt8) (h1 : 0 ≤ x) (h2 : x ≤ 9) (t : TypeId) (u : Value) (hp : ApC (.iface t u) n zs) : ApC (.iface 123 (.agg #[.int .i64 7, .int .i64 x, .iface t u])) (n + 2) ([65, dg x] ++ zs) := by
  intro w v B ys hB hown hn
  obtain ⟨W, hW⟩ : ∃ W, W = w.alloc (.cells #[.int .i64 7, .int .i64 x, .iface t u] 123) := ⟨_, rfl⟩
  have hWb : Below B w W := by rw [hW]; exact (Below.refl _ _).alloc hB _
  have x0 : W.cell? ⟨w.heap.size, 0, none⟩ = some (.int .i64 7) := by rw [hW]; exact World.cell?_alloc_new _ _ _ 0
  have x1 : W.cell? ⟨w.heap.size, 1, none⟩ = some (.int .i64 x) := by rw [hW]; exact World.cell?_alloc_new _ _ _ 1
  have x2 : W.cell? ⟨w.heap.size, 2, none⟩ = some (.iface t u) := by rw [hW]; exact World.cell?_alloc_new _ _ _ 2
  have HW := Lib.hid hW
  have NE := Lib.hid (show some w.heap.size ≠ v.ownBlock from fun e => by have := (World.ownsRow.lt hown _ e.symm).2; omega)
  have O := Lib.hid (show OwnY W B v ys by rw [hW]; exact World.ownsRow.alloc hown _)
  have KA := Lib.hid (fun W => (pointDigit_any x h1 h2 W))
  have OL := Lib.hid (World.ownsRow.alloc (show OwnY W.drew B v ys from O.out) (.cells #[.int .u8 65, .int .u8 (48 + x)] 5))
  have CL := Lib.hid (cY2 (w := W.drew) (a := 65) rfl (dg_cases h1 h2) 5)
  have BL := Lib.hid (hWb.drew.alloc (show B ≤ W.drew.heap.size from Nat.le_trans hB hWb.size) (.cells #[.int .u8 65, .int .u8 (48 + x)] 5))
  have SL := Lib.hid (Nat.le_trans hB BL.out.size)
  have KL := Lib.hid (keepT_below (show Below w.heap.size w (W.drew.alloc (.cells #[.int .u8 65, .int .u8 (48 + x)] 5)) from (show Below w.heap.size w W by rw [hW]; exact (Below.refl _ _).alloc (Nat.le_refl _) _).drew.alloc hWb.size _))
  have XL := Lib.hid (show (W.drew.alloc (.cells #[.int .u8 65, .int .u8 (48 + x)] 5)).cell? ⟨w.heap.size, 2, none⟩ = some (.iface t u) from (((Below.refl W.drew.heap.size W.drew).alloc (Nat.le_refl _) _).cell (p := ⟨w.heap.size, 2, none⟩) (show w.heap.size < W.heap.size by rw [hW]; simp)).trans x2)
  have HN := Lib.hid hn
  have HP := Lib.hid hp
  have a0 := asS_no w 123 (.agg #[.int .i64 7, .int .i64 x, .iface t u]) (by decide)
  have a1 := asE_no w 123 (.agg #[.int .i64 7, .int .i64 x, .iface t u]) (by decide)
  have a2 := asV_no w 123 (.agg #[.int .i64 7, .int .i64 x, .iface t u]) (by decide)
  have a3 := asL_no w 123 (.agg #[.int .i64 7, .int .i64 x, .iface t u]) (by decide)
  have a4 := asQ_yes w (.agg #[.int .i64 7, .int .i64 x, .iface t u])
  clear hW hown hn hWb hp
  go_enter Try.func107, Try.ntmps107
  go_wp2
  rw [← HW.out]
  clear a0 a1 a2 a3 a4
  have e0 : IntKind.i64.wrap ((7 : Int) - 7) = 0 := by decide
  have e1 : IntKind.i64.wrap (0 : Int) = 0 := by decide
  go_region_law (first | (refine step_appYn rfl _ _ rfl B v ys [65, dg x] rfl OL.out ⟨W.heap.size, 0, none⟩ 2 2 rfl rfl CL.out (by have := HN.out; omega) SL.out ?_; intro v1 w1 ho1 hg1; have B1 := Lib.hid (below_appY BL.out SL.out OL.out hg1); have O1 := Lib.hid ho1; have K1 := Lib.hid (KL.out.trans (keepT_app OL.out hg1)); have y2 := hg1.cell XL.out NE.out; clear ho1 hg1) | (go_simp; go_at_call 139; refine (KA.out _).mono ?_; rintro e w' ⟨rfl, rfl⟩))
  all_goals
    clear x0 x1 x2
    go_wp2_with fail
    refine (HP.out _ _ B _ (Nat.le_trans hB B1.out.size) O1.out (by have := HN.out; simp; omega)).mono ?_
    rintro e w2 ⟨v2, rfl, ho2, hb2, hk2⟩
    have B2 := Lib.hid (B1.out.trans hb2)
    have O2 := Lib.hid ho2
    have K2 := Lib.hid (K1.out.trans hk2)
    clear ho2 hb2 hk2
    go_wp2
    go_ret
    exact ⟨_, rfl, by rw [List.append_assoc] at O2; exact O2.out, B2.out, K2.out⟩

set_option maxHeartbeats 4000000 in
set_option maxRecDepth 100000 in
theorem ap_q8 (x : Int) (n : Nat) (zs : List UInt8) (h1 : 0 ≤ x) (h2 : x ≤ 9) (t : TypeId) (u : Value) (hp : ApC (.iface t u) n zs) : ApC (.iface 123 (.agg #[.int .i64 8, .int .i64 x, .iface t u])) (n + 2) ([69, dg x] ++ zs) := by
  intro w v B ys hB hown hn
  obtain ⟨W, hW⟩ : ∃ W, W = w.alloc (.cells #[.int .i64 8, .int .i64 x, .iface t u] 123) := ⟨_, rfl⟩
  have hWb : Below B w W := by rw [hW]; exact (Below.refl _ _).alloc hB _
  have x0 : W.cell? ⟨w.heap.size, 0, none⟩ = some (.int .i64 8) := by rw [hW]; exact World.cell?_alloc_new _ _ _ 0
  have x1 : W.cell? ⟨w.heap.size, 1, none⟩ = some (.int .i64 x) := by rw [hW]; exact World.cell?_alloc_new _ _ _ 1
  have x2 : W.cell? ⟨w.heap.size, 2, none⟩ = some (.iface t u) := by rw [hW]; exact World.cell?_alloc_new _ _ _ 2
  have HW := Lib.hid hW
  have NE := Lib.hid (show some w.heap.size ≠ v.ownBlock from fun e => by have := (World.ownsRow.lt hown _ e.symm).2; omega)
  have O := Lib.hid (show OwnY W B v ys by rw [hW]; exact World.ownsRow.alloc hown _)
  have KA := Lib.hid (fun W => (pointDigit_any x h1 h2 W))
  have OL := Lib.hid (World.ownsRow.alloc (show OwnY W.drew B v ys from O.out) (.cells #[.int .u8 69, .int .u8 (48 + x)] 5))
  have CL := Lib.hid (cY2 (w := W.drew) (a := 69) rfl (dg_cases h1 h2) 5)
  have BL := Lib.hid (hWb.drew.alloc (show B ≤ W.drew.heap.size from Nat.le_trans hB hWb.size) (.cells #[.int .u8 69, .int .u8 (48 + x)] 5))
  have SL := Lib.hid (Nat.le_trans hB BL.out.size)
  have KL := Lib.hid (keepT_below (show Below w.heap.size w (W.drew.alloc (.cells #[.int .u8 69, .int .u8 (48 + x)] 5)) from (show Below w.heap.size w W by rw [hW]; exact (Below.refl _ _).alloc (Nat.le_refl _) _).drew.alloc hWb.size _))
  have XL := Lib.hid (show (W.drew.alloc (.cells #[.int .u8 69, .int .u8 (48 + x)] 5)).cell? ⟨w.heap.size, 2, none⟩ = some (.iface t u) from (((Below.refl W.drew.heap.size W.drew).alloc (Nat.le_refl _) _).cell (p := ⟨w.heap.size, 2, none⟩) (show w.heap.size < W.heap.size by rw [hW]; simp)).trans x2)
  have HN := Lib.hid hn
  have HP := Lib.hid hp
  have a0 := asS_no w 123 (.agg #[.int .i64 8, .int .i64 x, .iface t u]) (by decide)
  have a1 := asE_no w 123 (.agg #[.int .i64 8, .int .i64 x, .iface t u]) (by decide)
  have a2 := asV_no w 123 (.agg #[.int .i64 8, .int .i64 x, .iface t u]) (by decide)
  have a3 := asL_no w 123 (.agg #[.int .i64 8, .int .i64 x, .iface t u]) (by decide)
  have a4 := asQ_yes w (.agg #[.int .i64 8, .int .i64 x, .iface t u])
  clear hW hown hn hWb hp
  go_enter Try.func107, Try.ntmps107
  go_wp2
  rw [← HW.out]
  clear a0 a1 a2 a3 a4
  have e0 : IntKind.i64.wrap ((8 : Int) - 7) = 1 := by decide
  have e1 : IntKind.i64.wrap (1 : Int) = 1 := by decide
  go_region_law (first | (refine step_appYn rfl _ _ rfl B v ys [69, dg x] rfl OL.out ⟨W.heap.size, 0, none⟩ 2 2 rfl rfl CL.out (by have := HN.out; omega) SL.out ?_; intro v1 w1 ho1 hg1; have B1 := Lib.hid (below_appY BL.out SL.out OL.out hg1); have O1 := Lib.hid ho1; have K1 := Lib.hid (KL.out.trans (keepT_app OL.out hg1)); have y2 := hg1.cell XL.out NE.out; clear ho1 hg1) | (go_simp; go_at_call 139; refine (KA.out _).mono ?_; rintro e w' ⟨rfl, rfl⟩))
  all_goals
    clear x0 x1 x2
    go_wp2_with fail
    refine (HP.out _ _ B _ (Nat.le_trans hB B1.out.size) O1.out (by have := HN.out; simp; omega)).mono ?_
    rintro e w2 ⟨v2, rfl, ho2, hb2, hk2⟩
    have B2 := Lib.hid (B1.out.trans hb2)
    have O2 := Lib.hid ho2
    have K2 := Lib.hid (K1.out.trans hk2)
    clear ho2 hb2 hk2
    go_wp2
    go_ret
    exact ⟨_, rfl, by rw [List.append_assoc] at O2; exact O2.out, B2.out, K2.out⟩

end Go.Proofs.Ytfdoecnpnfojpaa
