/- 4 texts in one: CtQ, CtV, QuV, RdM. -/
import Derived.Test.YtomldealpmohhaaJn23
import Derived.Test.YtomldealpmohhaaJn22
import Derived.Test.YtomldealpmohhaaPmI
import Derived.Test.YtomldealpmohhaaJn05
/- Contracts of the model's l07Start and l07Bounded. Conditions: those in the theorems. -/
namespace Go.Proofs.Ytomldealpmohhaa
open Go.RowKit

theorem ownsRow_up {w : World} {B B' n s : Nat} {t : TypeId} {v : Value} {xs : List Value} (h : w.ownsRow B t s v n xs) (hB : B' ≤ B) : w.ownsRow B' t s v n xs := by
  obtain ⟨h1, h2 | ⟨g, c, cur, e, hb, r⟩⟩ := h
  · exact ⟨h1, .inl h2⟩
  · exact ⟨h1, .inr ⟨g, c, cur, e, Nat.le_trans hB hb, r⟩⟩

set_option maxHeartbeats 4000000 in
set_option maxRecDepth 100000 in
theorem l07Start_any (n0 n1 : Int) (xs ys ps zs : List Int) (a0 : Option Addr) (c0 : Nat) (b0 : Option Addr) (d0 : Nat) (a1 : Option Addr) (c1 : Nat) (b1 : Option Addr) (d1 : Nat) (w : World) (h0 : Mo w n0 a0 b0 xs ys) (h1 : Mo w n1 a1 b1 ps zs) :
    Calls Try.prog 137 #[.agg #[.int .i64 n0, .slice a0 xs.length c0, .slice b0 ys.length d0], .agg #[.int .i64 n1, .slice a1 ps.length c1, .slice b1 zs.length d1]] w fun e w' => ∃ v, e = .returned v ∧ Own w' w.heap.size v (tab xs.length (lkS xs ys ps zs)) ∧ Below w.heap.size w w' := by
  obtain ⟨W, hW, HB, X0, X1, hWs⟩ := boxTw w n0 a0 xs.length c0 b0 ys.length d0 n1 a1 ps.length c1 b1 zs.length d1
  have M0 := Lib.hid (h0.keep HB.out)
  have M1 := Lib.hid (h1.keep HB.out)
  have HW := Lib.hid hW
  have x8 := h0.2.1
  have p8 := h1.2.1
  have hws : w.heap.size ≤ W.heap.size := by omega
  have WS := Lib.hid hWs
  obtain rfl := h0.1
  obtain rfl := h1.1
  clear h0 h1 hW hWs
  obtain ⟨lt0, x0, x1, x2⟩ := X0.out
  obtain ⟨lt1, y0, y1, y2⟩ := X1.out
  go_enter Try.func137, Try.ntmps137
  go_wp2
  clear x0 x1 x2 y0 y1 y2
  rw [← HW.out]
  go_loopw [5, 6] (fun v i wr => ∃ t : Nat, t ≤ xs.length ∧ i = .int .i64 t ∧ Hid (Own wr W.heap.size v (upTo (lkS xs ys ps zs) t)) ∧ Hid (Below W.heap.size W wr)) (fun _ i _ => xs.length - (intOf i).toNat)
  case atStart => exact ⟨0, Nat.zero_le _, rfl, Lib.hid (by rw [← WS.out]; exact World.ownsRow_lit W #[] 0 (Nat.le_refl _) (by unfold maxLen; omega) rfl), Lib.hid ((Below.refl _ _).alloc (Nat.le_refl _) _)⟩
  case round =>
    obtain ⟨t, ht, rfl, O, B⟩ := hrel
    have hsz := B.out.size
    obtain ⟨lt0, x0, x1, x2⟩ := X0.out.keep B.out
    obtain ⟨lt1, y0, y1, y2⟩ := X1.out.keep B.out
    by_cases hlt : t < xs.length
    · go_wp2
      clear x0 x1 x2 y0 y1 y2
      go_loopw [7, 8] (fun s i wr => ∃ y : Nat, y ≤ ps.length ∧ i = .int .i64 y ∧ s = .int .i64 (mkT (fun y => atB ys zs t y ys.length) y) ∧ Hid (Own wr W.heap.size u5 (upTo (lkS xs ys ps zs) t)) ∧ Hid (Below W.heap.size W wr)) (fun _ i _ => ps.length - (intOf i).toNat)
      case atStart => exact ⟨0, Nat.zero_le _, rfl, rfl, O, B⟩
      case round =>
        clear O B hsz
        obtain ⟨y, hy, rfl, rfl, O, B⟩ := hrel
        have hsz := B.out.size
        obtain ⟨lt0, x0, x1, x2⟩ := X0.out.keep B.out
        obtain ⟨lt1, y0, y1, y2⟩ := X1.out.keep B.out
        by_cases hly : y < ps.length
        · obtain ⟨A, hA⟩ : ∃ A, A = atB ys zs t y ys.length := ⟨_, rfl⟩
          have CA := Lib.hid (show ∀ (w1 : World), Below W.heap.size W w1 → Calls Try.prog 86 #[.agg #[.int .i64 xs.length, .slice a0 xs.length c0, .slice b0 ys.length d0], .agg #[.int .i64 ps.length, .slice a1 ps.length c1, .slice b1 zs.length d1], .int .i64 t, .int .i64 y] w1 fun e w' => e = .returned (.bool A) ∧ Below w1.heap.size w1 w' from
            fun w1 hw => by rw [hA]; exact l07Atoms_any _ _ xs ys ps zs t y _ _ _ _ _ _ _ _ w1 (by omega) (by omega) (by omega) (by omega) (M0.out.keep hw) (M1.out.keep hw))
          have E := Lib.hid hA
          clear hA
          go_wp2_with fail
          clear x0 x1 x2 y0 y1 y2
          refine (CA.out _ B.out).mono ?_
          rintro e w1 ⟨rfl, hb⟩
          have B1 := Lib.hid (B.out.trans (hb.mono (show W.heap.size ≤ _ from hsz)))
          have O1 := Lib.hid (Own.keep O.out hb (Nat.le_refl _))
          clear hb
          cases A
          · go_wp2
            go_roundw
            case rel => exact ⟨y + 1, hly, by go_num, by rw [mkT, ← E.out]; rfl, O1, B1⟩
            case measure => simp [intOf]; omega
          · go_wp2_with (go_at_call 66; refine (l01One_any _ _ (by omega) (by omega)).mono ?_; rintro e w' ⟨rfl, rfl⟩)
            go_roundw
            case rel => exact ⟨y + 1, hly, by go_num, by rw [mkT, ← E.out]; rfl, O1, B1⟩
            case measure => simp [intOf]; omega
        · obtain rfl : y = ps.length := by omega
          go_wp2_with (at_builtin; refine list_app1 rfl _ _ rfl W.heap.size _ t _ rfl ((own_down O.out).alloc _) ⟨wr.heap.size, 0, none⟩ 1 _ rfl (World.cell?_alloc_at _ _ _ _ rfl) (by omega) (by simp; omega) ?_; intro v' w1' hown1 hgr1)
          have hbel := Lib.hid (below_app B.out ((Below.refl _ _).alloc hsz _) hsz (own_down O.out) hgr1)
          clear hgr1 x0 x1 x2 y0 y1 y2
          go_roundw
          case rel => exact ⟨t + 1, hlt, by go_num, Lib.hid (by unfold Own; rw [upTo_len, upTo, List.map_append]; exact hown1), hbel⟩
          case measure => simp [intOf]; omega
    · obtain rfl : t = xs.length := by omega
      go_wp2
      go_ret
      exact ⟨_, rfl, by rw [← upTo_tab]; exact O.out.mono hws, HB.out.trans (B.out.mono HB.out.size)⟩


set_option maxHeartbeats 4000000 in
set_option maxRecDepth 100000 in
theorem l07Bounded_any (n0 n1 : Int) (xs ys ps zs : List Int) (a0 : Option Addr) (c0 : Nat) (b0 : Option Addr) (d0 : Nat) (a1 : Option Addr) (c1 : Nat) (b1 : Option Addr) (d1 : Nat) (w : World) (h0 : Mo w n0 a0 b0 xs ys) (h1 : Mo w n1 a1 b1 ps zs) :
    Calls Try.prog 127 #[.agg #[.int .i64 n0, .slice a0 xs.length c0, .slice b0 ys.length d0], .agg #[.int .i64 n1, .slice a1 ps.length c1, .slice b1 zs.length d1]] w fun e w' => ∃ v us, e = .returned v ∧ Rl w' w.heap.size v us (lkN xs ys ps zs) 17 ∧ Below w.heap.size w w' := by
  obtain ⟨W, hW, HB, X0, X1, hWs⟩ := boxTw w n0 a0 xs.length c0 b0 ys.length d0 n1 a1 ps.length c1 b1 zs.length d1
  have M0 := Lib.hid (h0.keep HB.out)
  have M1 := Lib.hid (h1.keep HB.out)
  have HW := Lib.hid hW
  have x8 := h0.2.1
  have hws : w.heap.size ≤ W.heap.size := by omega
  have SA := Lib.hid (l07Start_any n0 n1 xs ys ps zs a0 c0 b0 d0 a1 c1 b1 d1 W M0.out M1.out)
  clear h0 h1 hW hWs
  obtain ⟨lt0, x0, x1, x2⟩ := X0.out
  obtain ⟨lt1, y0, y1, y2⟩ := X1.out
  go_enter Try.func127, Try.ntmps127
  go_wp2_with fail
  clear x0 x1 x2 y0 y1 y2
  rw [← HW.out]
  refine SA.out.mono ?_
  rintro e w1 ⟨v1, rfl, ho, hb⟩
  obtain ⟨a2, c2, e2, -, -, -, -⟩ := ho.at
  rw [tab_len] at e2
  subst e2
  have hL0 : (lkN xs ys ps zs 0).length = xs.length := lkN_len _ _ _ _ 0
  have R0 := Lib.hid (show Rl (w1.alloc (.cells #[.slice a2 xs.length c2] 22)) W.heap.size (.slice (some ⟨w1.heap.size, 0, none⟩) 1 1) [.slice a2 xs.length c2] (lkN xs ys ps zs) 1 from
    ⟨ownsRow_up (World.ownsRow_lit (e := 22) (size := 1) w1 #[.slice a2 xs.length c2] 1 (Nat.le_refl _) (by unfold maxLen; omega) rfl) hb.size, fun j hj => by
      obtain rfl : j = 0 := by omega
      exact ⟨a2, c2, by rw [hL0]; rfl, by rw [hL0]; exact Own.keep (show Own w1 W.heap.size _ _ from ho) (alloc_keep _ _).1 (Nat.le_refl _)⟩⟩)
  have B0 := Lib.hid (show Below W.heap.size W (w1.alloc (.cells #[.slice a2 xs.length c2] 22)) from hb.trans ((alloc_keep _ _).1.mono hb.size))
  clear ho hb hL0
  go_wp2
  go_loopw [5, 6] (fun v i wr => ∃ (k : Nat) (us : List Value), k ≤ 16 ∧ i = .int .i64 k ∧ Hid (Rl wr W.heap.size v us (lkN xs ys ps zs) (k + 1)) ∧ Hid (Below W.heap.size W wr)) (fun _ i _ => 16 - (intOf i).toNat)
  case atStart => exact ⟨0, _, Nat.zero_le _, rfl, R0, B0⟩
  case round =>
    clear R0 B0
    obtain ⟨k, us, hk, rfl, R, B⟩ := hrel
    by_cases hlt : k < 16
    · obtain ⟨aR, cR, eR, hg⟩ := R.out.form
      subst eR
      obtain ⟨g, rfl, hg1, hg2, hgc⟩ := hg.resolve_left (by omega)
      obtain ⟨aj, cj, euj, hoj⟩ := R.out.2 k (by omega)
      have UJ := (hgc k (by omega)).trans euj
      rw [lkN_len] at UJ
      obtain ⟨a3, c3, e3, hat3, -, -, -⟩ := hoj.at
      rw [lkN_len] at e3
      cases e3
      have LN := Lib.hid (lkN_len xs ys ps zs k)
      have CS := Lib.hid (show ∀ w1 : World, Below wr.heap.size wr w1 → Calls Try.prog 138 #[.agg #[.int .i64 n0, .slice a0 xs.length c0, .slice b0 ys.length d0], .agg #[.int .i64 n1, .slice a1 ps.length c1, .slice b1 zs.length d1], .slice aj xs.length cj] w1 fun e w' => ∃ v, e = .returned v ∧ Own w' w1.heap.size v (lkN xs ys ps zs (k + 1)) ∧ Below w1.heap.size w1 w' from
        fun w1 hw => by
          have q := l07Step_any n0 n1 xs ys ps zs (lkN xs ys ps zs k) a0 c0 b0 d0 a1 c1 b1 d1 aj cj w1 (M0.out.keep (B.out.trans (hw.mono B.out.size))) (M1.out.keep (B.out.trans (hw.mono B.out.size))) (hat3.keep hw (Nat.le_refl _)) (by rw [LN.out]; exact x8)
          rw [LN.out] at q
          exact q)
      obtain ⟨lt0, x0, x1, x2⟩ := X0.out.keep B.out
      obtain ⟨lt1, y0, y1, y2⟩ := X1.out.keep B.out
      have hk16 : (k : Int) < 16 := by omega
      have hkk : (k : Int) < (k : Int) + 1 := by omega
      have hsz := B.out.size
      clear hg hgc euj hoj hat3
      go_wp2
      go_region_law (first | (go_simp; go_at_call 138; refine (CS.out _ (Below.refl _ _).drew).mono ?_; rintro e w2 ⟨v2, rfl, ho, hb⟩; have ⟨a4, c4, e4⟩ : ∃ a c, v2 = .slice a xs.length c := (by obtain ⟨a4, c4, e4, -, -, -, -⟩ := ho.at; exact ⟨a4, c4, by rw [e4, lkN_len]⟩); subst e4; have O2 := Lib.hid (ho.mono (show W.heap.size ≤ _ from hsz)); have T2 := Lib.hid (show Below wr.heap.size wr w2 from below_of_drew hb); clear ho hb; have RA := Lib.hid ((R.out.keep T2.out (Nat.le_refl _)).keep (alloc_keep w2 (.cells #[.slice a4 xs.length c4] 22)).1 (Nat.le_refl _)); have hs2 : W.heap.size ≤ w2.heap.size := Nat.le_trans hsz T2.out.size) | (refine step_appR rfl _ _ rfl W.heap.size (.slice (some ⟨g, 0, none⟩) (k + 1) cR) (k + 1) us rfl RA.out.1 ⟨w2.heap.size, 0, none⟩ 1 (.slice a4 xs.length c4) rfl rfl (World.cell?_alloc_at _ _ _ _ rfl) (by omega) (by simp; omega) ?_; intro v' w1' hown1 hgr1))
      all_goals
        have R5 := Lib.hid (show Rl w1' W.heap.size v' (us ++ [.slice a4 (lkN xs ys ps zs (k + 1)).length c4]) (lkN xs ys ps zs) (k + 1 + 1) from RA.out.app (by rw [lkN_len]; exact Own.keep O2.out (alloc_keep _ _).1 (Nat.le_refl _)) (by rw [lkN_len]; exact hown1) hgr1)
        have B5 := Lib.hid (show Below W.heap.size W w1' from ((B.out.trans (T2.out.mono hsz)).trans ((alloc_keep w2 _).1.mono hs2)).grown hgr1 (by simp; omega) (fun j hj => (World.ownsRow.lt RA.out.1 j hj).1))
        clear hown1 hgr1 x0 x1 x2 y0 y1 y2
        go_wp2
        go_roundw
        case rel => exact ⟨k + 1, _, hlt, by go_num, R5, B5⟩
        case measure => simp [intOf]; omega
    · obtain rfl : k = 16 := by omega
      go_wp2
      go_ret
      exact ⟨_, us, rfl, R.out.mono hws, HB.out.trans (B.out.mono HB.out.size)⟩

end Go.Proofs.Ytomldealpmohhaa

/- Contracts of l07Greatest, l07Classes and BisimulationClasses of the model. Conditions: those in the theorems. -/
namespace Go.Proofs.Ytomldealpmohhaa
open Go.RowKit

set_option maxHeartbeats 1000000 in
theorem l07Greatest_any (n0 n1 : Int) (xs ys ps zs : List Int) (a0 : Option Addr) (c0 : Nat) (b0 : Option Addr) (d0 : Nat) (a1 : Option Addr) (c1 : Nat) (b1 : Option Addr) (d1 : Nat) (w : World) (h0 : Mo w n0 a0 b0 xs ys) (h1 : Mo w n1 a1 b1 ps zs) :
    Calls Try.prog 103 #[.agg #[.int .i64 n0, .slice a0 xs.length c0, .slice b0 ys.length d0], .agg #[.int .i64 n1, .slice a1 ps.length c1, .slice b1 zs.length d1]] w fun e w' => ∃ v, e = .returned v ∧ Own w' w.heap.size v (lkN xs ys ps zs 16) ∧ Below w.heap.size w w' := by
  obtain ⟨W, hW, HB, X0, X1, hWs⟩ := boxTw w n0 a0 xs.length c0 b0 ys.length d0 n1 a1 ps.length c1 b1 zs.length d1
  have LB := Lib.hid (l07Bounded_any n0 n1 xs ys ps zs a0 c0 b0 d0 a1 c1 b1 d1 W (h0.keep HB.out) (h1.keep HB.out))
  have HW := Lib.hid hW
  have hws : w.heap.size ≤ W.heap.size := by omega
  clear h0 h1 hW hWs
  obtain ⟨lt0, x0, x1, x2⟩ := X0.out
  obtain ⟨lt1, y0, y1, y2⟩ := X1.out
  go_enter Try.func103, Try.ntmps103
  go_wp2_with fail
  clear x0 x1 x2 y0 y1 y2
  rw [← HW.out]
  refine LB.out.mono ?_
  rintro e w1 ⟨v1, us, rfl, hr, hb⟩
  obtain ⟨aR, cR, eR, hg⟩ := hr.form
  subst eR
  obtain ⟨g, rfl, hg1, hg2, hgc⟩ := hg.resolve_left (by omega)
  obtain ⟨aj, cj, euj, hoj⟩ := hr.2 16 (by omega)
  have UJ := (hgc 16 (by omega)).trans euj
  have OJ := Lib.hid hoj
  have B := Lib.hid (HB.out.trans (hb.mono HB.out.size))
  clear hr hb hg hgc euj hoj
  go_wp2
  go_ret
  exact ⟨_, rfl, OJ.out.mono hws, B.out⟩

theorem Two.self {n : Int} {xs ys : List Int} (h : isM n xs ys = true) : Two xs ys xs ys := Two.of h h
theorem lk_lF {xs ys : List Int} (h : Two xs ys xs ys) {x y : Nat} (hx : x < xs.length) (hy : y < xs.length) : bitB (nth (lkN xs ys xs ys 16) y) x = true ↔ lF xs.length xs ys 16 y = lF xs.length xs ys 16 x := by
  have hS : Sm1 xs ys := ⟨by have := h.x8; omega, h.xr, h.yr⟩
  rw [bitB_T (((h.lk 16).lr y).bd (by have := h.x8; omega)), h.lk_T 16 hy x, ← cLs_iff hS 16 hy hx, cLs_eq, nuL_iff hy hx]
  exact ⟨fun q => q.2, fun q => ⟨hx, q⟩⟩

/-- What the search for a class has found. -/
def ClF (l : Nat → Lit) (x y : Nat) (c : Int) : Prop := (c = -1 ∧ ∀ y', y' < y → l y' ≠ l x) ∨ (c = (numF l x : Int) ∧ ∃ y', y' < x ∧ l y' = l x)

set_option maxHeartbeats 4000000 in
set_option maxRecDepth 100000 in
theorem l07Classes_any (n : Int) (xs ys : List Int) (a : Option Addr) (c : Nat) (b : Option Addr) (d : Nat) (w : World) (hf : isM n xs ys = true) (h : Mo w n a b xs ys) :
    Calls Try.prog 67 #[.agg #[.int .i64 n, .slice a xs.length c, .slice b ys.length d]] w fun e w' => ∃ v, e = .returned v ∧ Own w' w.heap.size v (cLs xs.length xs ys 16) ∧ Below w.heap.size w w' := by
  obtain ⟨W, hW, hb0, hx, hWs⟩ := boxM (w := w) n a xs.length c b ys.length d 34
  have HB := Lib.hid hb0
  have X := Lib.hid hx
  have GR := Lib.hid (l07Greatest_any n n xs ys xs ys a c b d a c b d W (h.keep hb0) (h.keep hb0))
  have TW := Lib.hid (Two.self hf)
  have x8 := h.2.1
  have HW := Lib.hid hW
  have hws := hb0.size
  obtain rfl := h.1
  obtain ⟨l, hl⟩ : ∃ l, l = lF xs.length xs ys 16 := ⟨_, rfl⟩
  have L := Lib.hid hl
  have EL := Lib.hid (show tab xs.length (fun i => (numF l i : Int)) = cLs xs.length xs ys 16 by rw [hl, cLs_eq]; rfl)
  obtain ⟨lt, x0, x1, x2⟩ := hx
  clear h hb0 hW hf hl hWs
  go_enter Try.func67, Try.ntmps67
  go_wp2_with fail
  clear x0 x1 x2
  rw [← HW.out]
  refine GR.out.mono ?_
  rintro e w1 ⟨v1, rfl, ho, hb⟩
  obtain ⟨a1, k1, e1, hat, -, -, -⟩ := ho.at
  have LL := lkN_len xs ys xs ys 16
  rw [LL] at e1 hat
  subst e1
  have A1 := Lib.hid hat
  have T1 := Lib.hid hb
  clear ho hb hat LL
  go_wp2
  go_loopw [4, 5, 6] (fun v c i wr => ∃ t : Nat, t ≤ xs.length ∧ i = .int .i64 t ∧ c = .int .i64 ((stF l t).1 : Nat) ∧ Hid (Own wr w1.heap.size v (upTo (fun t => (numF l t : Int)) t)) ∧ Hid (Below w1.heap.size w1 wr)) (fun _ _ i _ => xs.length - (intOf i).toNat)
  case atStart =>
    refine ⟨0, Nat.zero_le _, rfl, rfl, Lib.hid (show Own _ w1.heap.size _ _ from World.ownsRow_lit w1 #[] 0 (Nat.le_refl _) (by unfold maxLen; omega) rfl), Lib.hid (alloc_keep _ _).1⟩
  case round =>
    obtain ⟨t, ht, rfl, rfl, O, B⟩ := hrel
    have hsz := B.out.size
    have AL := Lib.hid (A1.out.keep B.out (Nat.le_refl _))
    have TB := Lib.hid (T1.out.trans (B.out.mono T1.out.size))
    obtain ⟨lt0, x0, x1, x2⟩ := X.out.keep TB.out
    by_cases hlt : t < xs.length
    · obtain ⟨a4, k4, e4, hat4, -, -, -⟩ := O.out.at
      rw [upTo_len] at e4 hat4
      subst e4
      have A4 := Lib.hid hat4
      clear hat4
      have hbd := st_bd (l := l) t
      obtain ⟨q, hq⟩ : ∃ q : Int, q = ((stF l t).1 : Nat) := ⟨_, rfl⟩
      have hq0 : 0 ≤ q := by omega
      have hq1 : q ≤ 8 := by omega
      have Q := Lib.hid hq
      rw [← hq]
      clear hq hbd
      go_wp2
      go_loop [7, 8] (fun c i => ∃ (y : Nat) (z : Int), y ≤ t ∧ i = .int .i64 y ∧ c = .int .i64 z ∧ Hid (ClF l t y z)) (fun c i => 2 * (t - (intOf i).toNat) + (0 - intOf c).toNat)
      case atStart => exact ⟨0, -1, Nat.zero_le _, rfl, rfl, Lib.hid (.inl ⟨rfl, fun y' h => absurd h (by omega)⟩)⟩
      case round =>
        obtain ⟨y, z, hy, rfl, rfl, CF⟩ := hrel
        rcases CF.out with ⟨hz, hno⟩ | ⟨hz, hex⟩
        · subst hz
          have NO := Lib.hid hno
          clear hno CF
          by_cases hyt : y < t
          · obtain ⟨lb, lo, rfl, hlb, hlc⟩ := AL.out.2.resolve_left (by omega)
            have hcl := hlc y (by omega)
            clear hlc
            have LX := lk_lF TW.out (x := t) (y := y) hlt (by omega)
            rw [← L.out] at LX
            have LY := Lib.hid LX
            clear LX
            cases hbit : bitB (nth (lkN xs ys xs ys 16) y) t
            · have NE := Lib.hid (show l y ≠ l t from fun e => by have := LY.out.2 e; rw [hbit] at this; cases this)
              go_wp2_with (go_at_call 52; refine (l01Bit_any _ _ _ (by omega) (by omega)).mono ?_; rintro e w' ⟨rfl, rfl⟩)
              go_round
              case rel => exact ⟨y + 1, -1, hyt, by go_num, rfl, Lib.hid (.inl ⟨rfl, fun y' h => by
                by_cases e : y' = y
                · subst e; exact NE.out
                · exact NO.out y' (by omega)⟩)⟩
              case measure => simp [intOf]; omega
            · have EQ := Lib.hid (LY.out.1 hbit)
              obtain ⟨ob, oo, rfl, hob, hoc⟩ := A4.out.2.resolve_left (by omega)
              have hco := hoc y hyt
              rw [upTo_tab, tab_nth _ _ _ hyt] at hco
              obtain ⟨p, hp⟩ : ∃ p : Int, p = (numF l y : Nat) := ⟨_, rfl⟩
              rw [← hp] at hco
              have hp0 : 0 ≤ p := by omega
              have P := Lib.hid hp
              clear hoc hp
              go_wp2_with (go_at_call 52; refine (l01Bit_any _ _ _ (by omega) (by omega)).mono ?_; rintro e w' ⟨rfl, rfl⟩)
              go_round
              case rel => exact ⟨y + 1, p, hyt, by go_num, rfl, Lib.hid (.inr ⟨by rw [P.out, (num_iff y t).2 EQ.out], y, hyt, EQ.out⟩)⟩
              case measure => simp [intOf]; omega
          · obtain rfl : y = t := by omega
            have NN := Lib.hid ((st_new_iff y).2 NO.out)
            have S1 := Lib.hid (show q + 1 = ((stF l (y + 1)).1 : Nat) by rw [(st_new NN.out).1, Q.out]; rfl)
            have S2 := Lib.hid (show (numF l y : Int) = q by rw [(st_new NN.out).2, Q.out])
            go_wp2_with (at_builtin; refine list_app1 rfl _ _ rfl w1.heap.size _ y _ rfl ((own_down O.out).alloc _) ⟨wr.heap.size, 0, none⟩ 1 _ rfl (World.cell?_alloc_at _ _ _ _ rfl) (by omega) (by simp; omega) ?_; intro v' w1' hown1 hgr1)
            have hbel := Lib.hid (below_app B.out ((Below.refl _ _).alloc hsz _) hsz (own_down O.out) hgr1)
            clear hgr1 x0 x1 x2
            go_roundw
            case rel => exact ⟨y + 1, hlt, by go_num, congrArg (Value.int .i64) S1.out, Lib.hid (by unfold Own; rw [upTo_len, upTo, List.map_append]; rw [S2.out]; exact hown1), hbel⟩
            case measure => simp [intOf]; omega
        · have hz0 : 0 ≤ z := by omega
          have hzl : ¬ z < 0 := by omega
          have Z := Lib.hid hz
          have NN := Lib.hid (show (stF l t).2 (l t) ≠ none from fun e => by obtain ⟨y', h1, h2⟩ := hex; exact (st_new_iff t).1 e y' h1 h2)
          have S1 := Lib.hid (show q = ((stF l (t + 1)).1 : Nat) by
            rw [Q.out]
            cases hs : (stF l t).2 (l t) with
            | none => exact absurd hs NN.out
            | some i => rw [(st_old hs).1])
          clear hz hex CF
          by_cases hyt : y < t
          · have hyt' : (y : Int) < (t : Int) := by omega
            go_wp2_with (at_builtin; refine list_app1 rfl _ _ rfl w1.heap.size _ t _ rfl ((own_down O.out).alloc _) ⟨wr.heap.size, 0, none⟩ 1 _ rfl (World.cell?_alloc_at _ _ _ _ rfl) (by omega) (by simp; omega) ?_; intro v' w1' hown1 hgr1)
            have hbel := Lib.hid (below_app B.out ((Below.refl _ _).alloc hsz _) hsz (own_down O.out) hgr1)
            clear hgr1 x0 x1 x2
            go_roundw
            case rel => exact ⟨t + 1, hlt, by go_num, congrArg (Value.int .i64) S1.out, Lib.hid (by unfold Own; rw [upTo_len, upTo, List.map_append]; rw [← Z.out]; exact hown1), hbel⟩
            case measure => simp [intOf]; omega
          · obtain rfl : y = t := by omega
            go_wp2_with (at_builtin; refine list_app1 rfl _ _ rfl w1.heap.size _ y _ rfl ((own_down O.out).alloc _) ⟨wr.heap.size, 0, none⟩ 1 _ rfl (World.cell?_alloc_at _ _ _ _ rfl) (by omega) (by simp; omega) ?_; intro v' w1' hown1 hgr1)
            have hbel := Lib.hid (below_app B.out ((Below.refl _ _).alloc hsz _) hsz (own_down O.out) hgr1)
            clear hgr1 x0 x1 x2
            go_roundw
            case rel => exact ⟨y + 1, hlt, by go_num, congrArg (Value.int .i64) S1.out, Lib.hid (by unfold Own; rw [upTo_len, upTo, List.map_append]; rw [← Z.out]; exact hown1), hbel⟩
            case measure => simp [intOf]; omega
    · obtain rfl : t = xs.length := by omega
      go_wp2
      go_ret
      exact ⟨_, rfl, by rw [← EL.out, ← upTo_tab]; exact O.out.mono (Nat.le_trans hws T1.out.size), HB.out.trans (TB.out.mono HB.out.size)⟩

theorem BisimulationClasses_len (n : Int) (xs ys : List Int) : (bcL n xs ys).length ≤ 1048576 := by
  rw [bcL]
  split
  · rename_i h
    obtain ⟨-, -, e, -⟩ := isM_ok h
    rw [cLs_len]; omega
  · simp

end Go.Proofs.Ytomldealpmohhaa

/- Contracts of QuotientModel of the model and of the program. Conditions: those in the theorems. -/
namespace Go.Proofs.Ytomldealpmohhaa
open Go.RowKit

noncomputable def qCt (xs ys : List Int) : Nat := (stF (lF xs.length xs ys 16) xs.length).1
noncomputable def qmL (n : Int) (xs ys : List Int) : List Int := if isM n xs ys then tab (qCt xs ys) (qaF (cLs xs.length xs ys 16) xs xs.length xs.length) else []
noncomputable def qmV (n : Int) (xs ys : List Int) : List Int := if isM n xs ys then tab ys.length (fun v => coTo (cLs xs.length xs ys 16) (nth ys v) xs.length) else []
theorem q_cq (xs ys : List Int) : Cq (cLs xs.length xs ys 16) xs.length (qCt xs ys) := by
  rw [cLs_eq]
  exact cq_of _ _
theorem qm_bad {n : Int} {xs ys : List Int} (h : isM n xs ys = false) : bcC n xs ys = 1 ∧ qmL n xs ys = [] ∧ qmV n xs ys = [] := by
  rw [bcC, qmL, qmV, h]; exact ⟨rfl, rfl, rfl⟩
theorem qm_ok {n : Int} {xs ys : List Int} (h : isM n xs ys = true) : bcC n xs ys = 0 ∧ bcL n xs ys = cLs xs.length xs ys 16 ∧ qmL n xs ys = tab (qCt xs ys) (qaF (cLs xs.length xs ys 16) xs xs.length xs.length) ∧ qmV n xs ys = tab ys.length (fun v => coTo (cLs xs.length xs ys 16) (nth ys v) xs.length) := by
  rw [bcC, bcL, qmL, qmV, h]; exact ⟨rfl, rfl, rfl, rfl⟩
theorem QuotientModel_len (n : Int) (xs ys : List Int) : (qmL n xs ys).length ≤ 1048576 ∧ (qmV n xs ys).length ≤ 1048576 := by
  cases h : isM n xs ys
  · obtain ⟨-, e1, e2⟩ := qm_bad h
    rw [e1, e2]; simp
  · obtain ⟨-, -, e1, e2⟩ := qm_ok h
    obtain ⟨-, -, h8, -, h6, -⟩ := isM_ok h
    have := (q_cq xs ys).mn
    rw [e1, e2, tab_len, tab_len]
    omega

end Go.Proofs.Ytomldealpmohhaa

/- Parts of models are models; the place of a world among the members of a mask. Plain mathematics, and the model's l01Index. Conditions: those in the theorems. -/
namespace Go.Proofs.Ytomldealpmohhaa
open Go.RowKit

theorem sq_in {ls : List Int} (hl : ls.length ≤ 30) (x : Int) : ∀ k, k ≤ ls.length → InMk ls.length (sqTo ls x k)
  | 0, _ => InMk.zero _
  | k + 1, hk => by
    rw [sqTo]
    split
    · exact (sq_in hl x k (by omega)).or hl (InMk.one hl (by omega))
    · exact sq_in hl x k (by omega)
theorem part_is {xs ys ls : List Int} (hl : ls.length ≤ 8) (hy : ys.length = 6) : isM ls.length (arV xs ls) (mvV ys ls) = true := by
  have ha : (arV xs ls).length = ls.length := tab_len _ _
  have hm : (mvV ys ls).length = 6 := by rw [mvV_len, hy]
  have h1 : frB (ls.length : Int) (arV xs ls) = true := by
    refine frB_eq (by unfold inB; simp; omega) (by rw [ha]) ?_
    refine (mksTo_iff (by omega) _ _).2 fun i hi => ?_
    rw [ha] at hi
    rw [arV, tab_nth _ _ _ hi]
    exact sq_in (by omega) _ _ (Nat.le_refl _)
  refine isM_eq h1 (by rw [hm]; rfl) ?_
  refine (mksTo_iff (by omega) _ _).2 fun i hi => ?_
  rw [hm] at hi
  rw [mvV, tab_nth _ _ _ (by omega)]
  exact sq_in (by omega) _ _ (Nat.le_refl _)

theorem memTo_pre (m : Nat) {w : Nat} : ∀ k, w ≤ k → ∃ tl, memTo m k = memTo m w ++ tl
  | 0, h => ⟨[], by obtain rfl : w = 0 := by omega
                    simp⟩
  | k + 1, h => by
    by_cases e : w = k + 1
    · exact ⟨[], by rw [e]; simp⟩
    · obtain ⟨tl, ht⟩ := memTo_pre m (w := w) k (by omega)
      rw [memTo]
      split
      · exact ⟨tl ++ [((k : Nat) : Int)], by rw [ht, List.append_assoc]⟩
      · exact ⟨tl, ht⟩
theorem mem_at {m w : Nat} (hb : bitN m w = true) (hw : w < 30) : (memTo m w).length < (memTo m 30).length ∧ nth (memTo m 30) (memTo m w).length = (w : Int) ∧ ∀ j, j < (memTo m w).length → nth (memTo m 30) j ≠ (w : Int) := by
  obtain ⟨tl, ht⟩ := memTo_pre m (w := w + 1) 30 (by omega)
  have e : memTo m (w + 1) = memTo m w ++ [((w : Nat) : Int)] := by rw [memTo, hb, if_pos rfl]
  have hl : (memTo m (w + 1)).length = (memTo m w).length + 1 := by rw [e]; simp
  refine ⟨by rw [ht, List.length_append]; omega, ?_, fun j hj => ?_⟩
  · rw [ht, nth_left _ _ _ (by omega), e, nth_snoc _ _ _ rfl]
  · rw [ht, nth_left _ _ _ (by omega), e, nth_left _ _ _ hj]
    obtain ⟨p, hp, hpw⟩ := memTo_ok m w j hj
    omega
theorem memTo_mod (m w : Nat) : ∀ k, k ≤ w → memTo (m % 2 ^ w) k = memTo m k
  | 0, _ => rfl
  | k + 1, hk => by
    have e : bitN (m % 2 ^ w) k = bitN m k := by
      have h := Nat.testBit_mod_two_pow m w k
      rw [decide_eq_true (by omega), Bool.true_and] at h
      have t : ∀ q, bitN q k = q.testBit k := fun q => by
        unfold bitN
        rw [Nat.testBit_eq_decide_div_mod_eq]
      rw [t, t, h]
    rw [memTo, memTo, e, memTo_mod m w k (by omega)]
theorem pop_below (m w : Nat) : pop (m % 2 ^ w) = (memTo m w).length := by
  rw [← memTo_pop w _ (Nat.mod_lt _ (Nat.two_pow_pos w)), memTo_mod m w w (Nat.le_refl w)]
theorem and_below {r n w : Nat} (hn : n ≤ 30) (hw : w < n) (hr : InMk n (r : Int)) : bits .and .i64 (r : Int) (full w) = ((r % 2 ^ w : Nat) : Int) := by
  have h1 := (InMk.full (n := w) (by omega)).bd (by omega)
  have h2 := hr.bd hn
  have e : full (w : Int) = ((2 ^ w - 1 : Nat) : Int) := by
    rw [full_eq _ (by omega) (by omega), Int.toNat_natCast]
    have := Nat.two_pow_pos w
    have e : ((2 : Int) ^ w) = ((2 ^ w : Nat) : Int) := by simp
    rw [e]; omega
  rw [e] at h1 ⊢
  rw [iand _ _ (by omega) (by omega), Nat.and_two_pow_sub_one_eq_mod]

set_option maxHeartbeats 400000 in
theorem l01Index_any (xs : List Int) (n : Int) (p : Nat) (a : Option Addr) (cap : Nat) (w : World) (h30 : xs.length ≤ 4096) (hp : p < xs.length) (hn : nth xs p = n) (hb : ∀ j, j < p → nth xs j ≠ n) (h : At w a xs.length xs) :
    Calls Try.prog 68 #[.slice a xs.length cap, .int .i64 n] w fun e w' => e = .returned (.int .i64 p) ∧ w = w' := by
  obtain ⟨b, off, rfl, hbb, hc⟩ := h.2.resolve_left (by omega)
  have HC := Lib.hid hc
  have HB := Lib.hid hb
  obtain ⟨l, hl⟩ : ∃ l, l = xs.length := ⟨_, rfl⟩
  rw [← hl] at hp HC h30 ⊢
  clear hc hb h hl
  go_enter Try.func68, Try.ntmps68
  go_wp2
  go_loop [5] (fun i => ∃ k : Nat, k ≤ p ∧ i = .int .i64 k) (fun i => p - (intOf i).toNat)
  case atStart => exact ⟨0, Nat.zero_le _, rfl⟩
  case round =>
    obtain ⟨k, hk, rfl⟩ := hrel
    have hck := HC.out k (by omega)
    have hkl : (k : Int) < (l : Int) := by omega
    by_cases e : k = p
    · subst e
      rw [hn] at hck
      go_wp2
      go_ret
      exact ⟨rfl, rfl⟩
    · have hkp : k < p := by omega
      have hne := HB.out k hkp
      have hbe : (nth xs k == n) = false := by simp [hne]
      go_wp2
      go_round
      case rel => exact ⟨k + 1, hkp, by go_num⟩
      case measure => simp [intOf]; omega

end Go.Proofs.Ytomldealpmohhaa
