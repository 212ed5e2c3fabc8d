/- The contract of the model's l07Step: what is linked by a step under a link. Conditions: those in the theorems. -/
import Derived.Test.YthopleeehbkjaaaSiB
namespace Go.Proofs.Ythopleeehbkjaaa
open Go.RowKit

def stB (xs ys ps zs ls : List Int) (x y : Nat) : Bool := atB ys zs x y ys.length && foB ls (nth xs x) (nth ps y) ls.length && (bits .andNot .i64 (nth ps y) (imgTo ls (nth xs x) ls.length) == 0)
def stV (xs ys ps zs ls : List Int) (x : Nat) : Int := mkT (stB xs ys ps zs ls x) ps.length
theorem own_down {w : World} {B k : Nat} {v : Value} {F : Nat → Int} (h : Own w B v (upTo F k)) : w.ownsRow B 2 1 v k ((upTo F k).map (Value.int .i64)) := by
  unfold Own at h; rw [upTo_len] at h; exact h

set_option maxHeartbeats 4000000 in
set_option maxRecDepth 100000 in
theorem l07Step_any (n0 n1 : Int) (xs ys ps zs ls : List Int) (a0 : Option Addr) (c0 : Nat) (b0 : Option Addr) (d0 : Nat) (a1 : Option Addr) (c1 : Nat) (b1 : Option Addr) (d1 : Nat) (al : Option Addr) (cl : Nat) (w : World) (h0 : Mo w n0 a0 b0 xs ys) (h1 : Mo w n1 a1 b1 ps zs) (hl : At w al ls.length ls) (hl8 : ls.length ≤ 8) :
    Calls Try.prog 63 #[.agg #[.int .i64 n0, .slice a0 xs.length c0, .slice b0 ys.length d0], .agg #[.int .i64 n1, .slice a1 ps.length c1, .slice b1 zs.length d1], .slice al ls.length cl] w fun e w' => ∃ v, e = .returned v ∧ Own w' w.heap.size v (tab xs.length (stV xs ys ps zs ls)) ∧ Below w.heap.size w w' := by
  obtain ⟨W, hW, HB, X0, X1, hWs⟩ := boxTw w n0 a0 xs.length c0 b0 ys.length d0 n1 a1 ps.length c1 b1 zs.length d1
  have M0 := Lib.hid (h0.keep HB.out)
  have M1 := Lib.hid (h1.keep HB.out)
  have HL := Lib.hid (hl.keep HB.out (Nat.le_refl _))
  have HW := Lib.hid hW
  have x8 := h0.2.1
  have p8 := h1.2.1
  have hws : w.heap.size ≤ W.heap.size := by omega
  have WS := Lib.hid hWs
  obtain rfl := h0.1
  obtain rfl := h1.1
  clear h0 h1 hl hW hWs
  obtain ⟨lt0, x0, x1, x2⟩ := X0.out
  obtain ⟨lt1, y0, y1, y2⟩ := X1.out
  go_enter Try.func63, Try.ntmps63
  go_wp2
  clear x0 x1 x2 y0 y1 y2
  rw [← HW.out]
  go_loopw [7, 8] (fun v i wr => ∃ t : Nat, t ≤ xs.length ∧ i = .int .i64 t ∧ Hid (Own wr W.heap.size v (upTo (stV xs ys ps zs ls) t)) ∧ Hid (Below W.heap.size W wr)) (fun _ i _ => xs.length - (intOf i).toNat)
  case atStart => exact ⟨0, Nat.zero_le _, rfl, Lib.hid (by rw [← WS.out]; exact World.ownsRow_lit W #[] 0 (Nat.le_refl _) (by unfold maxLen; omega) rfl), Lib.hid ((Below.refl _ _).alloc (Nat.le_refl _) _)⟩
  case round =>
    obtain ⟨t, ht, rfl, O, B⟩ := hrel
    have hsz := B.out.size
    obtain ⟨lt0, x0, x1, x2⟩ := X0.out.keep B.out
    obtain ⟨lt1, y0, y1, y2⟩ := X1.out.keep B.out
    by_cases hlt : t < xs.length
    · go_wp2
      clear x0 x1 x2 y0 y1 y2
      go_loopw [9, 10] (fun s i wr => ∃ y : Nat, y ≤ ps.length ∧ i = .int .i64 y ∧ s = .int .i64 (mkT (stB xs ys ps zs ls t) y) ∧ Hid (Own wr W.heap.size u7 (upTo (stV xs ys ps zs ls) t)) ∧ Hid (Below W.heap.size W wr)) (fun _ i _ => ps.length - (intOf i).toNat)
      case atStart => exact ⟨0, Nat.zero_le _, rfl, rfl, O, B⟩
      case round =>
        clear O B hsz
        obtain ⟨y, hy, rfl, rfl, O, B⟩ := hrel
        have hsz := B.out.size
        obtain ⟨lt0, x0, x1, x2⟩ := X0.out.keep B.out
        obtain ⟨lt1, y0, y1, y2⟩ := X1.out.keep B.out
        by_cases hly : y < ps.length
        · obtain ⟨-, -, -, -, hx, -⟩ := M0.out.keep B.out
          obtain ⟨-, -, -, -, hp, -⟩ := M1.out.keep B.out
          obtain ⟨xb, xo, rfl, hxb, hxc⟩ := hx.2.resolve_left (by omega)
          have hcx := hxc t hlt
          obtain ⟨pb, po, rfl, hpb, hpc⟩ := hp.2.resolve_left (by omega)
          have hcp := hpc y hly
          clear hpc hxc hx hp
          obtain ⟨A, hA⟩ : ∃ A, A = atB ys zs t y ys.length := ⟨_, rfl⟩
          obtain ⟨F, hF⟩ : ∃ F, F = foB ls (nth xs t) (nth ps y) ls.length := ⟨_, rfl⟩
          obtain ⟨G, hG⟩ : ∃ G, G = (bits .andNot .i64 (nth ps y) (imgTo ls (nth xs t) ls.length) == 0) := ⟨_, rfl⟩
          have CA := Lib.hid (show ∀ (w1 : World), Below W.heap.size W w1 → Calls Try.prog 105 #[.agg #[.int .i64 xs.length, .slice (some ⟨xb, xo, none⟩) xs.length c0, .slice b0 ys.length d0], .agg #[.int .i64 ps.length, .slice (some ⟨pb, po, none⟩) ps.length c1, .slice b1 zs.length d1], .int .i64 t, .int .i64 y] w1 fun e w' => e = .returned (.bool A) ∧ Below w1.heap.size w1 w' from
            fun w1 hw => by rw [hA]; exact l07Atoms_any _ _ xs ys ps zs t y _ _ _ _ _ _ _ _ w1 (by omega) (by omega) (by omega) (by omega) (M0.out.keep hw) (M1.out.keep hw))
          have CF := Lib.hid (show ∀ (w1 : World), Below W.heap.size W w1 → Calls Try.prog 101 #[.slice al ls.length cl, .int .i64 (nth xs t), .int .i64 (nth ps y)] w1 fun e w' => e = .returned (.bool F) ∧ w1 = w' from
            fun w1 hw => by rw [hF]; exact l07Forth_any ls _ _ _ _ _ w1 (by omega) (HL.out.keep hw (Nat.le_refl _)))
          have CG := Lib.hid (show ∀ (w1 : World), Below W.heap.size W w1 → Calls Try.prog 106 #[.slice al ls.length cl, .int .i64 (nth xs t), .int .i64 (nth ps y)] w1 fun e w' => e = .returned (.bool G) ∧ w1 = w' from
            fun w1 hw => by rw [hG]; exact l07Back_any ls _ _ _ _ _ w1 (by omega) (HL.out.keep hw (Nat.le_refl _)))
          have E := Lib.hid (show stB xs ys ps zs ls t y = (A && F && G) by rw [hA, hF, hG]; rfl)
          clear hA hF hG
          go_wp2
          go_quiet (fail)
          go_wp2_with fail
          clear x0 x1 x2 y0 y1 y2 hcx hcp
          refine (CA.out _ (below_drewN B.out _)).mono ?_
          rintro e w1 ⟨rfl, hb⟩
          have B1 := Lib.hid ((below_drewN B.out nq).trans (hb.mono (show W.heap.size ≤ _ from hsz)))
          have O1 := Lib.hid (Own.keep (show Own (World.drewN _ nq) _ _ _ from O.out) hb (Nat.le_refl _))
          clear hb
          cases A
          · go_wp2
            go_roundw
            case rel => exact ⟨y + 1, hly, by go_num, by rw [mkT, E.out]; rfl, O1, B1⟩
            case measure => simp [intOf]; omega
          · go_wp2_with fail
            refine (CF.out _ B1.out).mono ?_
            rintro e w' ⟨rfl, rfl⟩
            cases F
            · go_wp2
              go_roundw
              case rel => exact ⟨y + 1, hly, by go_num, by rw [mkT, E.out]; rfl, O1, B1⟩
              case measure => simp [intOf]; omega
            · go_wp2_with fail
              refine (CG.out _ B1.out).mono ?_
              rintro e w' ⟨rfl, rfl⟩
              cases G
              · go_wp2
                go_roundw
                case rel => exact ⟨y + 1, hly, by go_num, by rw [mkT, E.out]; rfl, O1, B1⟩
                case measure => simp [intOf]; omega
              · go_wp2_with (go_at_call 102; refine (l01One_any _ _ (by omega) (by omega)).mono ?_; rintro e w' ⟨rfl, rfl⟩)
                go_roundw
                case rel => exact ⟨y + 1, hly, by go_num, by rw [mkT, E.out]; rfl, O1, B1⟩
                case measure => simp [intOf]; omega
        · obtain rfl : y = ps.length := by omega
          go_wp2_with (at_builtin; refine list_app1 rfl _ _ rfl W.heap.size _ t _ rfl ((own_down O.out).alloc _) ⟨wr.heap.size, 0, none⟩ 1 _ rfl (World.cell?_alloc_at _ _ _ _ rfl) (by omega) (by simp; omega) ?_; intro v' w1' hown1 hgr1)
          have hbel := Lib.hid (below_app B.out ((Below.refl _ _).alloc hsz _) hsz (own_down O.out) hgr1)
          clear hgr1 x0 x1 x2 y0 y1 y2
          go_roundw
          case rel => exact ⟨t + 1, hlt, by go_num, Lib.hid (by unfold Own; rw [upTo_len, upTo, List.map_append]; exact hown1), hbel⟩
          case measure => simp [intOf]; omega
    · obtain rfl : t = xs.length := by omega
      go_wp2
      go_ret
      exact ⟨_, rfl, by rw [← upTo_tab]; exact O.out.mono hws, HB.out.trans (B.out.mono HB.out.size)⟩

end Go.Proofs.Ythopleeehbkjaaa
