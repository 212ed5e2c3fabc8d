/- The contract of the model's l07Below: what is linked under a link by what is true and what is seen. Conditions: those in the theorems. -/
import Derived.Test.YthopleeehbkjaaaSiA
namespace Go.Proofs.Ythopleeehbkjaaa
open Go.RowKit

theorem bit_not {b : Bool} (h : b = false) : (!b) = true := by rw [h]; rfl

set_option maxHeartbeats 4000000 in
set_option maxRecDepth 100000 in
theorem l07Below_any (n0 n1 : Int) (xs ys ps zs ls : List Int) (a0 : Option Addr) (c0 : Nat) (b0 : Option Addr) (d0 : Nat) (a1 : Option Addr) (c1 : Nat) (b1 : Option Addr) (d1 : Nat) (al : Option Addr) (cl : Nat) (w : World) (h0 : Mo w n0 a0 b0 xs ys) (h1 : Mo w n1 a1 b1 ps zs) (hl : At w al ls.length ls) (hl8 : ls.length ≤ 8) :
    Calls Try.prog 60 #[.agg #[.int .i64 n0, .slice a0 xs.length c0, .slice b0 ys.length d0], .agg #[.int .i64 n1, .slice a1 ps.length c1, .slice b1 zs.length d1], .slice al ls.length cl] w fun e w' => ∃ v, e = .returned v ∧ Own w' w.heap.size v (tab xs.length (belV xs ys ps zs ls)) ∧ Below w.heap.size w w' := by
  obtain ⟨W, hW, HB, X0, X1, hWs⟩ := boxTw w n0 a0 xs.length c0 b0 ys.length d0 n1 a1 ps.length c1 b1 zs.length d1
  have M0 := Lib.hid (h0.keep HB.out)
  have M1 := Lib.hid (h1.keep HB.out)
  have HL := Lib.hid (hl.keep HB.out (Nat.le_refl _))
  have HW := Lib.hid hW
  have N0 := Lib.hid h0.1
  have N1 := Lib.hid h1.1
  have x8 := h0.2.1
  have p8 := h1.2.1
  have Y6 := Lib.hid h0.2.2.2.1
  have Z6 := Lib.hid h1.2.2.2.1
  have hyl : ys.length ≤ 6 := by rw [h0.2.2.2.1]; exact Nat.le_refl _
  have hzl : zs.length ≤ 6 := by rw [h1.2.2.2.1]; exact Nat.le_refl _
  have hws : w.heap.size ≤ W.heap.size := by omega
  have WS := Lib.hid hWs
  obtain rfl := h0.1
  obtain rfl := h1.1
  clear h0 h1 hl hW hWs
  obtain ⟨lt0, x0, x1, x2⟩ := X0.out
  obtain ⟨lt1, y0, y1, y2⟩ := X1.out
  go_enter Try.func60, Try.ntmps60
  go_wp2
  clear x0 x1 x2 y0 y1 y2
  rw [← HW.out]
  go_loopw [7, 8] (fun v i wr => ∃ t : Nat, t ≤ xs.length ∧ i = .int .i64 t ∧ wr.ownsRow W.heap.size 2 1 v t ((upTo (belV xs ys ps zs ls) t).map (Value.int .i64)) ∧ Hid (Below W.heap.size W wr)) (fun _ i _ => xs.length - (intOf i).toNat)
  case atStart => exact ⟨0, Nat.zero_le _, rfl, by rw [← WS.out]; exact World.ownsRow_lit W #[] 0 (Nat.le_refl _) (by unfold maxLen; omega) rfl, Lib.hid ((Below.refl _ _).alloc (Nat.le_refl _) _)⟩
  case round =>
    obtain ⟨t, ht, rfl, hown, B⟩ := hrel
    have HO := Lib.hid hown
    clear hown
    have hsz := B.out.size
    obtain ⟨lt0, x0, x1, x2⟩ := X0.out.keep B.out
    obtain ⟨lt1, y0, y1, y2⟩ := X1.out.keep B.out
    by_cases hlt : t < xs.length
    · obtain ⟨-, -, -, -, hx, hy⟩ := M0.out.keep B.out
      obtain ⟨-, -, -, -, hp, hz⟩ := M1.out.keep B.out
      have L := Lib.hid (HL.out.keep B.out (Nat.le_refl _))
      obtain ⟨xb, xo, rfl, hxb, hxc⟩ := hx.2.resolve_left (by omega)
      have hcx := hxc t hlt
      have HY := Lib.hid hy
      have HZ := Lib.hid hz
      have HP := Lib.hid hp
      clear hxc hx hy hz hp
      obtain ⟨wo, rfl⟩ : ∃ wo : World, wo = wr := ⟨_, rfl⟩
      go_wp2
      go_loopw [9, 10] (fun s i wr => ∃ y q : Nat, y ≤ ps.length ∧ i = .int .i64 y ∧ s = .int .i64 (mkT (beB xs ys ps zs ls t) y) ∧ wr = wo.drewN q) (fun _ i _ => ps.length - (intOf i).toNat)
      case atStart => exact ⟨0, 0, Nat.zero_le _, rfl, rfl, rfl⟩
      case round =>
        obtain ⟨y, q, hy, rfl, rfl, rfl⟩ := hrel
        by_cases hly : y < ps.length
        · obtain ⟨pb, po, rfl, hpb, hpc⟩ := HP.out.2.resolve_left (by omega)
          have hcp := hpc y hly
          clear hpc
          go_wp2
          go_quiet ((go_at_call 101; exact q_same (l07Forth_any ls _ _ _ _ _ _ (by omega) (L.out.drewN _)) rfl))
          go_wp2
          clear hcp
          obtain ⟨g0, hg0⟩ : ∃ g, g = foB ls (nth xs t) (nth ps y) ls.length := ⟨_, rfl⟩
          rw [← hg0]
          have G0 := Lib.hid hg0
          clear hg0
          go_loopw [11, 12] (fun g i wr => ∃ v q : Nat, v ≤ ys.length ∧ i = .int .i64 v ∧ g = .bool (gdB ys zs t y g0 v) ∧ wr = wo.drewN q) (fun _ i _ => ys.length - (intOf i).toNat)
          case atStart => exact ⟨0, _, Nat.zero_le _, rfl, rfl, World.drewN_drewN _ _ _⟩
          case round =>
            obtain ⟨v, q2, hv, rfl, rfl, rfl⟩ := hrel
            by_cases hlv : v < ys.length
            · obtain ⟨yb, yo, rfl, hyb, hyc⟩ := HY.out.2.resolve_left (by omega)
              have hcy := hyc v hlv
              have hlv2 : v < zs.length := by have := Y6.out; have := Z6.out; omega
              obtain ⟨zb, zo, rfl, hzb, hzc⟩ := HZ.out.2.resolve_left (by omega)
              have hcz := hzc v hlv2
              clear hyc hzc
              obtain ⟨g, hg⟩ : ∃ g, g = gdB ys zs t y g0 v := ⟨_, rfl⟩
              rw [← hg]
              have G := Lib.hid hg
              clear hg
              cases g
              · go_wp2
                go_roundw
                case rel => exact ⟨v + 1, _, hlv, by go_num, by rw [gdB, ← G.out]; rfl, rfl⟩
                case measure => simp [intOf]; omega
              · cases hbx : bitB (nth ys v) t
                · have HX := Lib.hid hbx
                  go_wp2_with (go_at_call 94; refine (l01Bit_any _ _ _ (by omega) (by omega)).mono ?_; rintro e w' ⟨rfl, rfl⟩)
                  go_roundw
                  case rel => exact ⟨v + 1, _, hlv, by go_num, by rw [gdB, ← G.out, HX.out]; rfl, rfl⟩
                  case measure => simp [intOf]; omega
                · have HX := Lib.hid hbx
                  go_wp2_with (go_at_call 94; refine (l01Bit_any _ _ _ (by omega) (by omega)).mono ?_; rintro e w' ⟨rfl, rfl⟩)
                  go_roundw
                  case rel => exact ⟨v + 1, _, hlv, by go_num, by rw [gdB, ← G.out, HX.out]; simp, rfl⟩
                  case measure => simp [intOf]; omega
            · obtain rfl : v = ys.length := by omega
              have EB := Lib.hid (show gdB ys zs t y g0 ys.length = beB xs ys ps zs ls t y by rw [G0.out]; rfl)
              obtain ⟨g, hg⟩ : ∃ g, g = gdB ys zs t y g0 ys.length := ⟨_, rfl⟩
              rw [← hg]
              have G := Lib.hid (hg.trans EB.out)
              clear hg
              cases g
              · go_wp2
                go_roundw
                case rel => exact ⟨y + 1, _, hly, by go_num, by rw [mkT, ← G.out]; rfl, rfl⟩
                case measure => simp [intOf]; omega
              · go_wp2_with (go_at_call 102; refine (l01One_any _ _ (by omega) (by omega)).mono ?_; rintro e w' ⟨rfl, rfl⟩)
                go_roundw
                case rel => exact ⟨y + 1, _, hly, by go_num, by rw [mkT, ← G.out]; rfl, rfl⟩
                case measure => simp [intOf]; omega
        · obtain rfl : y = ps.length := by omega
          go_wp2_with (at_builtin; refine list_app1 rfl _ _ rfl W.heap.size _ t _ rfl ((show World.ownsRow (wo.drewN q) _ _ _ _ _ _ from HO.out).alloc _) ⟨(wo.drewN q).heap.size, 0, none⟩ 1 _ rfl (World.cell?_alloc_at _ _ _ _ rfl) (by omega) (by simp; omega) ?_; intro v' w1' hown1 hgr1)
          have hbel := Lib.hid (below_app B.out ((below_drewN (Below.refl _ _) q).alloc hsz _) hsz HO.out hgr1)
          clear hgr1 x0 x1 x2 y0 y1 y2 hcx
          go_roundw
          case rel => exact ⟨t + 1, hlt, by go_num, by rw [upTo, List.map_append]; exact hown1, hbel⟩
          case measure => simp [intOf]; omega
    · obtain rfl : t = xs.length := by omega
      have O5 := Lib.hid (own_up HO.out)
      go_wp2
      go_ret
      exact ⟨_, rfl, by rw [← upTo_tab]; exact O5.out.mono hws, HB.out.trans (B.out.mono HB.out.size)⟩

end Go.Proofs.Ythopleeehbkjaaa
