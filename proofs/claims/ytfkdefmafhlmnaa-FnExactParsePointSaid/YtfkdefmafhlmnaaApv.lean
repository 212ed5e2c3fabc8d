/- The program's appendPointText at variables. Conditions: those in the theorems. -/
import Derived.Test.YtfkdefmafhlmnaaJn09
namespace Go.Proofs.Ytfkdefmafhlmnaa
open Go.RowKit

set_option maxHeartbeats 4000000 in
set_option maxRecDepth 100000 in
theorem ap_v (f s : Int) (h1 : 0 ≤ f) (h2 : f ≤ 5) (h3 : 0 ≤ s) (h4 : s ≤ 9) : ApC (.iface 130 (.agg #[.int .i64 f, .int .i64 s])) 3 [UInt8.ofNat (112 + f.toNat), dg s] := by
  have hx : f = 0 ∨ f = 1 ∨ f = 2 ∨ f = 3 ∨ f = 4 ∨ f = 5 := by omega
  clear h1 h2
  intro w v B ys hB hown hn
  rcases hx with rfl | rfl | rfl | rfl | rfl | rfl
  · obtain ⟨W, hW⟩ : ∃ W, W = w.alloc (.cells #[.int .i64 0, .int .i64 s] 130) := ⟨_, rfl⟩
    have hWb : Below B w W := by rw [hW]; exact (Below.refl _ _).alloc hB _
    have x0 : W.cell? ⟨w.heap.size, 0, none⟩ = some (.int .i64 0) := by rw [hW]; exact World.cell?_alloc_new _ _ _ 0
    have x1 : W.cell? ⟨w.heap.size, 1, none⟩ = some (.int .i64 s) := by rw [hW]; exact World.cell?_alloc_new _ _ _ 1
    have HW := Lib.hid hW
    have O := Lib.hid (show OwnY W B v ys by rw [hW]; exact World.ownsRow.alloc hown _)
    have KB := Lib.hid (fun W => (pointDigit_any s h3 h4 W))
    have OL := Lib.hid (World.ownsRow.alloc (show OwnY W.drew B v ys from O.out) (.cells #[.int .u8 112, .int .u8 (48 + s)] 5))
    have CL := Lib.hid (cY2 (w := W.drew) (show ((UInt8.ofNat (112 + (0 : Int).toNat)).toNat : Int) = 112 by decide) (dg_cases h3 h4) 5)
    have BL := Lib.hid (hWb.drew.alloc (show B ≤ W.drew.heap.size from Nat.le_trans hB hWb.size) (.cells #[.int .u8 112, .int .u8 (48 + s)] 5))
    have SL := Lib.hid (Nat.le_trans hB BL.out.size)
    have KL := Lib.hid (keepT_below (show Below w.heap.size w (W.drew.alloc (.cells #[.int .u8 112, .int .u8 (48 + s)] 5)) from (show Below w.heap.size w W by rw [hW]; exact (Below.refl _ _).alloc (Nat.le_refl _) _).drew.alloc hWb.size _))
    have HN := Lib.hid hn
    have a_S := asS_no w 130 (.agg #[.int .i64 0, .int .i64 s]) (by decide)
    have a_E := asE_no w 130 (.agg #[.int .i64 0, .int .i64 s]) (by decide)
    have a_V := asV_yes w (.agg #[.int .i64 0, .int .i64 s])
    clear hW hown hn hWb
    go_enter Try.func63, Try.ntmps63
    go_wp2
    rw [← HW.out]
    clear a_S a_E a_V
    go_region_law (first | (refine step_appYn rfl _ _ rfl B v ys [UInt8.ofNat (112 + (0 : Int).toNat), dg s] rfl OL.out ⟨W.heap.size, 0, none⟩ 2 2 rfl rfl CL.out (by have := HN.out; omega) SL.out ?_; intro v1 w1 ho1 hg1; have B1 := Lib.hid (below_appY BL.out SL.out OL.out hg1); have O1 := Lib.hid ho1; have K1 := Lib.hid (KL.out.trans (keepT_app OL.out hg1)); clear ho1 hg1) | (go_simp; go_at_call_of 99 s; refine (KB.out _).mono ?_; rintro e w' ⟨rfl, rfl⟩))
    all_goals
      go_wp2
      go_ret
      exact ⟨_, rfl, O1.out, B1.out, K1.out⟩
  · obtain ⟨W, hW⟩ : ∃ W, W = w.alloc (.cells #[.int .i64 1, .int .i64 s] 130) := ⟨_, rfl⟩
    have hWb : Below B w W := by rw [hW]; exact (Below.refl _ _).alloc hB _
    have x0 : W.cell? ⟨w.heap.size, 0, none⟩ = some (.int .i64 1) := by rw [hW]; exact World.cell?_alloc_new _ _ _ 0
    have x1 : W.cell? ⟨w.heap.size, 1, none⟩ = some (.int .i64 s) := by rw [hW]; exact World.cell?_alloc_new _ _ _ 1
    have HW := Lib.hid hW
    have O := Lib.hid (show OwnY W B v ys by rw [hW]; exact World.ownsRow.alloc hown _)
    have KB := Lib.hid (fun W => (pointDigit_any s h3 h4 W))
    have OL := Lib.hid (World.ownsRow.alloc (show OwnY W.drew B v ys from O.out) (.cells #[.int .u8 113, .int .u8 (48 + s)] 5))
    have CL := Lib.hid (cY2 (w := W.drew) (show ((UInt8.ofNat (112 + (1 : Int).toNat)).toNat : Int) = 113 by decide) (dg_cases h3 h4) 5)
    have BL := Lib.hid (hWb.drew.alloc (show B ≤ W.drew.heap.size from Nat.le_trans hB hWb.size) (.cells #[.int .u8 113, .int .u8 (48 + s)] 5))
    have SL := Lib.hid (Nat.le_trans hB BL.out.size)
    have KL := Lib.hid (keepT_below (show Below w.heap.size w (W.drew.alloc (.cells #[.int .u8 113, .int .u8 (48 + s)] 5)) from (show Below w.heap.size w W by rw [hW]; exact (Below.refl _ _).alloc (Nat.le_refl _) _).drew.alloc hWb.size _))
    have HN := Lib.hid hn
    have a_S := asS_no w 130 (.agg #[.int .i64 1, .int .i64 s]) (by decide)
    have a_E := asE_no w 130 (.agg #[.int .i64 1, .int .i64 s]) (by decide)
    have a_V := asV_yes w (.agg #[.int .i64 1, .int .i64 s])
    clear hW hown hn hWb
    go_enter Try.func63, Try.ntmps63
    go_wp2
    rw [← HW.out]
    clear a_S a_E a_V
    go_region_law (first | (refine step_appYn rfl _ _ rfl B v ys [UInt8.ofNat (112 + (1 : Int).toNat), dg s] rfl OL.out ⟨W.heap.size, 0, none⟩ 2 2 rfl rfl CL.out (by have := HN.out; omega) SL.out ?_; intro v1 w1 ho1 hg1; have B1 := Lib.hid (below_appY BL.out SL.out OL.out hg1); have O1 := Lib.hid ho1; have K1 := Lib.hid (KL.out.trans (keepT_app OL.out hg1)); clear ho1 hg1) | (go_simp; go_at_call_of 99 s; refine (KB.out _).mono ?_; rintro e w' ⟨rfl, rfl⟩))
    all_goals
      go_wp2
      go_ret
      exact ⟨_, rfl, O1.out, B1.out, K1.out⟩
  · obtain ⟨W, hW⟩ : ∃ W, W = w.alloc (.cells #[.int .i64 2, .int .i64 s] 130) := ⟨_, rfl⟩
    have hWb : Below B w W := by rw [hW]; exact (Below.refl _ _).alloc hB _
    have x0 : W.cell? ⟨w.heap.size, 0, none⟩ = some (.int .i64 2) := by rw [hW]; exact World.cell?_alloc_new _ _ _ 0
    have x1 : W.cell? ⟨w.heap.size, 1, none⟩ = some (.int .i64 s) := by rw [hW]; exact World.cell?_alloc_new _ _ _ 1
    have HW := Lib.hid hW
    have O := Lib.hid (show OwnY W B v ys by rw [hW]; exact World.ownsRow.alloc hown _)
    have KB := Lib.hid (fun W => (pointDigit_any s h3 h4 W))
    have OL := Lib.hid (World.ownsRow.alloc (show OwnY W.drew B v ys from O.out) (.cells #[.int .u8 114, .int .u8 (48 + s)] 5))
    have CL := Lib.hid (cY2 (w := W.drew) (show ((UInt8.ofNat (112 + (2 : Int).toNat)).toNat : Int) = 114 by decide) (dg_cases h3 h4) 5)
    have BL := Lib.hid (hWb.drew.alloc (show B ≤ W.drew.heap.size from Nat.le_trans hB hWb.size) (.cells #[.int .u8 114, .int .u8 (48 + s)] 5))
    have SL := Lib.hid (Nat.le_trans hB BL.out.size)
    have KL := Lib.hid (keepT_below (show Below w.heap.size w (W.drew.alloc (.cells #[.int .u8 114, .int .u8 (48 + s)] 5)) from (show Below w.heap.size w W by rw [hW]; exact (Below.refl _ _).alloc (Nat.le_refl _) _).drew.alloc hWb.size _))
    have HN := Lib.hid hn
    have a_S := asS_no w 130 (.agg #[.int .i64 2, .int .i64 s]) (by decide)
    have a_E := asE_no w 130 (.agg #[.int .i64 2, .int .i64 s]) (by decide)
    have a_V := asV_yes w (.agg #[.int .i64 2, .int .i64 s])
    clear hW hown hn hWb
    go_enter Try.func63, Try.ntmps63
    go_wp2
    rw [← HW.out]
    clear a_S a_E a_V
    go_region_law (first | (refine step_appYn rfl _ _ rfl B v ys [UInt8.ofNat (112 + (2 : Int).toNat), dg s] rfl OL.out ⟨W.heap.size, 0, none⟩ 2 2 rfl rfl CL.out (by have := HN.out; omega) SL.out ?_; intro v1 w1 ho1 hg1; have B1 := Lib.hid (below_appY BL.out SL.out OL.out hg1); have O1 := Lib.hid ho1; have K1 := Lib.hid (KL.out.trans (keepT_app OL.out hg1)); clear ho1 hg1) | (go_simp; go_at_call_of 99 s; refine (KB.out _).mono ?_; rintro e w' ⟨rfl, rfl⟩))
    all_goals
      go_wp2
      go_ret
      exact ⟨_, rfl, O1.out, B1.out, K1.out⟩
  · obtain ⟨W, hW⟩ : ∃ W, W = w.alloc (.cells #[.int .i64 3, .int .i64 s] 130) := ⟨_, rfl⟩
    have hWb : Below B w W := by rw [hW]; exact (Below.refl _ _).alloc hB _
    have x0 : W.cell? ⟨w.heap.size, 0, none⟩ = some (.int .i64 3) := by rw [hW]; exact World.cell?_alloc_new _ _ _ 0
    have x1 : W.cell? ⟨w.heap.size, 1, none⟩ = some (.int .i64 s) := by rw [hW]; exact World.cell?_alloc_new _ _ _ 1
    have HW := Lib.hid hW
    have O := Lib.hid (show OwnY W B v ys by rw [hW]; exact World.ownsRow.alloc hown _)
    have KB := Lib.hid (fun W => (pointDigit_any s h3 h4 W))
    have OL := Lib.hid (World.ownsRow.alloc (show OwnY W.drew B v ys from O.out) (.cells #[.int .u8 115, .int .u8 (48 + s)] 5))
    have CL := Lib.hid (cY2 (w := W.drew) (show ((UInt8.ofNat (112 + (3 : Int).toNat)).toNat : Int) = 115 by decide) (dg_cases h3 h4) 5)
    have BL := Lib.hid (hWb.drew.alloc (show B ≤ W.drew.heap.size from Nat.le_trans hB hWb.size) (.cells #[.int .u8 115, .int .u8 (48 + s)] 5))
    have SL := Lib.hid (Nat.le_trans hB BL.out.size)
    have KL := Lib.hid (keepT_below (show Below w.heap.size w (W.drew.alloc (.cells #[.int .u8 115, .int .u8 (48 + s)] 5)) from (show Below w.heap.size w W by rw [hW]; exact (Below.refl _ _).alloc (Nat.le_refl _) _).drew.alloc hWb.size _))
    have HN := Lib.hid hn
    have a_S := asS_no w 130 (.agg #[.int .i64 3, .int .i64 s]) (by decide)
    have a_E := asE_no w 130 (.agg #[.int .i64 3, .int .i64 s]) (by decide)
    have a_V := asV_yes w (.agg #[.int .i64 3, .int .i64 s])
    clear hW hown hn hWb
    go_enter Try.func63, Try.ntmps63
    go_wp2
    rw [← HW.out]
    clear a_S a_E a_V
    go_region_law (first | (refine step_appYn rfl _ _ rfl B v ys [UInt8.ofNat (112 + (3 : Int).toNat), dg s] rfl OL.out ⟨W.heap.size, 0, none⟩ 2 2 rfl rfl CL.out (by have := HN.out; omega) SL.out ?_; intro v1 w1 ho1 hg1; have B1 := Lib.hid (below_appY BL.out SL.out OL.out hg1); have O1 := Lib.hid ho1; have K1 := Lib.hid (KL.out.trans (keepT_app OL.out hg1)); clear ho1 hg1) | (go_simp; go_at_call_of 99 s; refine (KB.out _).mono ?_; rintro e w' ⟨rfl, rfl⟩))
    all_goals
      go_wp2
      go_ret
      exact ⟨_, rfl, O1.out, B1.out, K1.out⟩
  · obtain ⟨W, hW⟩ : ∃ W, W = w.alloc (.cells #[.int .i64 4, .int .i64 s] 130) := ⟨_, rfl⟩
    have hWb : Below B w W := by rw [hW]; exact (Below.refl _ _).alloc hB _
    have x0 : W.cell? ⟨w.heap.size, 0, none⟩ = some (.int .i64 4) := by rw [hW]; exact World.cell?_alloc_new _ _ _ 0
    have x1 : W.cell? ⟨w.heap.size, 1, none⟩ = some (.int .i64 s) := by rw [hW]; exact World.cell?_alloc_new _ _ _ 1
    have HW := Lib.hid hW
    have O := Lib.hid (show OwnY W B v ys by rw [hW]; exact World.ownsRow.alloc hown _)
    have KB := Lib.hid (fun W => (pointDigit_any s h3 h4 W))
    have OL := Lib.hid (World.ownsRow.alloc (show OwnY W.drew B v ys from O.out) (.cells #[.int .u8 116, .int .u8 (48 + s)] 5))
    have CL := Lib.hid (cY2 (w := W.drew) (show ((UInt8.ofNat (112 + (4 : Int).toNat)).toNat : Int) = 116 by decide) (dg_cases h3 h4) 5)
    have BL := Lib.hid (hWb.drew.alloc (show B ≤ W.drew.heap.size from Nat.le_trans hB hWb.size) (.cells #[.int .u8 116, .int .u8 (48 + s)] 5))
    have SL := Lib.hid (Nat.le_trans hB BL.out.size)
    have KL := Lib.hid (keepT_below (show Below w.heap.size w (W.drew.alloc (.cells #[.int .u8 116, .int .u8 (48 + s)] 5)) from (show Below w.heap.size w W by rw [hW]; exact (Below.refl _ _).alloc (Nat.le_refl _) _).drew.alloc hWb.size _))
    have HN := Lib.hid hn
    have a_S := asS_no w 130 (.agg #[.int .i64 4, .int .i64 s]) (by decide)
    have a_E := asE_no w 130 (.agg #[.int .i64 4, .int .i64 s]) (by decide)
    have a_V := asV_yes w (.agg #[.int .i64 4, .int .i64 s])
    clear hW hown hn hWb
    go_enter Try.func63, Try.ntmps63
    go_wp2
    rw [← HW.out]
    clear a_S a_E a_V
    go_region_law (first | (refine step_appYn rfl _ _ rfl B v ys [UInt8.ofNat (112 + (4 : Int).toNat), dg s] rfl OL.out ⟨W.heap.size, 0, none⟩ 2 2 rfl rfl CL.out (by have := HN.out; omega) SL.out ?_; intro v1 w1 ho1 hg1; have B1 := Lib.hid (below_appY BL.out SL.out OL.out hg1); have O1 := Lib.hid ho1; have K1 := Lib.hid (KL.out.trans (keepT_app OL.out hg1)); clear ho1 hg1) | (go_simp; go_at_call_of 99 s; refine (KB.out _).mono ?_; rintro e w' ⟨rfl, rfl⟩))
    all_goals
      go_wp2
      go_ret
      exact ⟨_, rfl, O1.out, B1.out, K1.out⟩
  · obtain ⟨W, hW⟩ : ∃ W, W = w.alloc (.cells #[.int .i64 5, .int .i64 s] 130) := ⟨_, rfl⟩
    have hWb : Below B w W := by rw [hW]; exact (Below.refl _ _).alloc hB _
    have x0 : W.cell? ⟨w.heap.size, 0, none⟩ = some (.int .i64 5) := by rw [hW]; exact World.cell?_alloc_new _ _ _ 0
    have x1 : W.cell? ⟨w.heap.size, 1, none⟩ = some (.int .i64 s) := by rw [hW]; exact World.cell?_alloc_new _ _ _ 1
    have HW := Lib.hid hW
    have O := Lib.hid (show OwnY W B v ys by rw [hW]; exact World.ownsRow.alloc hown _)
    have KB := Lib.hid (fun W => (pointDigit_any s h3 h4 W))
    have OL := Lib.hid (World.ownsRow.alloc (show OwnY W.drew B v ys from O.out) (.cells #[.int .u8 117, .int .u8 (48 + s)] 5))
    have CL := Lib.hid (cY2 (w := W.drew) (show ((UInt8.ofNat (112 + (5 : Int).toNat)).toNat : Int) = 117 by decide) (dg_cases h3 h4) 5)
    have BL := Lib.hid (hWb.drew.alloc (show B ≤ W.drew.heap.size from Nat.le_trans hB hWb.size) (.cells #[.int .u8 117, .int .u8 (48 + s)] 5))
    have SL := Lib.hid (Nat.le_trans hB BL.out.size)
    have KL := Lib.hid (keepT_below (show Below w.heap.size w (W.drew.alloc (.cells #[.int .u8 117, .int .u8 (48 + s)] 5)) from (show Below w.heap.size w W by rw [hW]; exact (Below.refl _ _).alloc (Nat.le_refl _) _).drew.alloc hWb.size _))
    have HN := Lib.hid hn
    have a_S := asS_no w 130 (.agg #[.int .i64 5, .int .i64 s]) (by decide)
    have a_E := asE_no w 130 (.agg #[.int .i64 5, .int .i64 s]) (by decide)
    have a_V := asV_yes w (.agg #[.int .i64 5, .int .i64 s])
    clear hW hown hn hWb
    go_enter Try.func63, Try.ntmps63
    go_wp2
    rw [← HW.out]
    clear a_S a_E a_V
    go_region_law (first | (refine step_appYn rfl _ _ rfl B v ys [UInt8.ofNat (112 + (5 : Int).toNat), dg s] rfl OL.out ⟨W.heap.size, 0, none⟩ 2 2 rfl rfl CL.out (by have := HN.out; omega) SL.out ?_; intro v1 w1 ho1 hg1; have B1 := Lib.hid (below_appY BL.out SL.out OL.out hg1); have O1 := Lib.hid ho1; have K1 := Lib.hid (KL.out.trans (keepT_app OL.out hg1)); clear ho1 hg1) | (go_simp; go_at_call_of 99 s; refine (KB.out _).mono ?_; rintro e w' ⟨rfl, rfl⟩))
    all_goals
      go_wp2
      go_ret
      exact ⟨_, rfl, O1.out, B1.out, K1.out⟩

end Go.Proofs.Ytfkdefmafhlmnaa
