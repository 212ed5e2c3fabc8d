/- Contracts of l07Greatest, l07Classes and BisimulationClasses of the model. Conditions: those in the theorems. -/
import Derived.Test.YtecjmibnoldpgabJn23
import Derived.Test.YtecjmibnoldpgabCtP
namespace Go.Proofs.Ytecjmibnoldpgab
open Go.RowKit

set_option maxHeartbeats 1000000 in
theorem l07Greatest_any (n0 n1 : Int) (xs ys ps zs : List Int) (a0 : Option Addr) (c0 : Nat) (b0 : Option Addr) (d0 : Nat) (a1 : Option Addr) (c1 : Nat) (b1 : Option Addr) (d1 : Nat) (w : World) (h0 : Mo w n0 a0 b0 xs ys) (h1 : Mo w n1 a1 b1 ps zs) :
    Calls Try.prog 47 #[.agg #[.int .i64 n0, .slice a0 xs.length c0, .slice b0 ys.length d0], .agg #[.int .i64 n1, .slice a1 ps.length c1, .slice b1 zs.length d1]] w fun e w' => ∃ v, e = .returned v ∧ Own w' w.heap.size v (lkN xs ys ps zs 16) ∧ Below w.heap.size w w' := by
  obtain ⟨W, hW, HB, X0, X1, hWs⟩ := boxTw w n0 a0 xs.length c0 b0 ys.length d0 n1 a1 ps.length c1 b1 zs.length d1
  have LB := Lib.hid (l07Bounded_any n0 n1 xs ys ps zs a0 c0 b0 d0 a1 c1 b1 d1 W (h0.keep HB.out) (h1.keep HB.out))
  have HW := Lib.hid hW
  have hws : w.heap.size ≤ W.heap.size := by omega
  clear h0 h1 hW hWs
  obtain ⟨lt0, x0, x1, x2⟩ := X0.out
  obtain ⟨lt1, y0, y1, y2⟩ := X1.out
  go_enter Try.func47, Try.ntmps47
  go_wp2_with fail
  clear x0 x1 x2 y0 y1 y2
  rw [← HW.out]
  refine LB.out.mono ?_
  rintro e w1 ⟨v1, us, rfl, hr, hb⟩
  obtain ⟨aR, cR, eR, hg⟩ := hr.form
  subst eR
  obtain ⟨g, rfl, hg1, hg2, hgc⟩ := hg.resolve_left (by omega)
  obtain ⟨aj, cj, euj, hoj⟩ := hr.2 16 (by omega)
  have UJ := (hgc 16 (by omega)).trans euj
  have OJ := Lib.hid hoj
  have B := Lib.hid (HB.out.trans (hb.mono HB.out.size))
  clear hr hb hg hgc euj hoj
  go_wp2
  go_ret
  exact ⟨_, rfl, OJ.out.mono hws, B.out⟩

theorem Two.self {n : Int} {xs ys : List Int} (h : isM n xs ys = true) : Two xs ys xs ys := Two.of h h
theorem lk_lF {xs ys : List Int} (h : Two xs ys xs ys) {x y : Nat} (hx : x < xs.length) (hy : y < xs.length) : bitB (nth (lkN xs ys xs ys 16) y) x = true ↔ lF xs.length xs ys 16 y = lF xs.length xs ys 16 x := by
  have hS : Sm1 xs ys := ⟨by have := h.x8; omega, h.xr, h.yr⟩
  rw [bitB_T (((h.lk 16).lr y).bd (by have := h.x8; omega)), h.lk_T 16 hy x, ← cLs_iff hS 16 hy hx, cLs_eq, nuL_iff hy hx]
  exact ⟨fun q => q.2, fun q => ⟨hx, q⟩⟩

/-- What the search for a class has found. -/
def ClF (l : Nat → Lit) (x y : Nat) (c : Int) : Prop := (c = -1 ∧ ∀ y', y' < y → l y' ≠ l x) ∨ (c = (numF l x : Int) ∧ ∃ y', y' < x ∧ l y' = l x)

set_option maxHeartbeats 4000000 in
set_option maxRecDepth 100000 in
theorem l07Classes_any (n : Int) (xs ys : List Int) (a : Option Addr) (c : Nat) (b : Option Addr) (d : Nat) (w : World) (hf : isM n xs ys = true) (h : Mo w n a b xs ys) :
    Calls Try.prog 32 #[.agg #[.int .i64 n, .slice a xs.length c, .slice b ys.length d]] w fun e w' => ∃ v, e = .returned v ∧ Own w' w.heap.size v (cLs xs.length xs ys 16) ∧ Below w.heap.size w w' := by
  obtain ⟨W, hW, hb0, hx, hWs⟩ := boxM (w := w) n a xs.length c b ys.length d 32
  have HB := Lib.hid hb0
  have X := Lib.hid hx
  have GR := Lib.hid (l07Greatest_any n n xs ys xs ys a c b d a c b d W (h.keep hb0) (h.keep hb0))
  have TW := Lib.hid (Two.self hf)
  have x8 := h.2.1
  have HW := Lib.hid hW
  have hws := hb0.size
  obtain rfl := h.1
  obtain ⟨l, hl⟩ : ∃ l, l = lF xs.length xs ys 16 := ⟨_, rfl⟩
  have L := Lib.hid hl
  have EL := Lib.hid (show tab xs.length (fun i => (numF l i : Int)) = cLs xs.length xs ys 16 by rw [hl, cLs_eq]; rfl)
  obtain ⟨lt, x0, x1, x2⟩ := hx
  clear h hb0 hW hf hl hWs
  go_enter Try.func32, Try.ntmps32
  go_wp2_with fail
  clear x0 x1 x2
  rw [← HW.out]
  refine GR.out.mono ?_
  rintro e w1 ⟨v1, rfl, ho, hb⟩
  obtain ⟨a1, k1, e1, hat, -, -, -⟩ := ho.at
  have LL := lkN_len xs ys xs ys 16
  rw [LL] at e1 hat
  subst e1
  have A1 := Lib.hid hat
  have T1 := Lib.hid hb
  clear ho hb hat LL
  go_wp2
  go_loopw [4, 5, 6] (fun v c i wr => ∃ t : Nat, t ≤ xs.length ∧ i = .int .i64 t ∧ c = .int .i64 ((stF l t).1 : Nat) ∧ Hid (Own wr w1.heap.size v (upTo (fun t => (numF l t : Int)) t)) ∧ Hid (Below w1.heap.size w1 wr)) (fun _ _ i _ => xs.length - (intOf i).toNat)
  case atStart =>
    refine ⟨0, Nat.zero_le _, rfl, rfl, Lib.hid (show Own _ w1.heap.size _ _ from World.ownsRow_lit w1 #[] 0 (Nat.le_refl _) (by unfold maxLen; omega) rfl), Lib.hid (alloc_keep _ _).1⟩
  case round =>
    obtain ⟨t, ht, rfl, rfl, O, B⟩ := hrel
    have hsz := B.out.size
    have AL := Lib.hid (A1.out.keep B.out (Nat.le_refl _))
    have TB := Lib.hid (T1.out.trans (B.out.mono T1.out.size))
    obtain ⟨lt0, x0, x1, x2⟩ := X.out.keep TB.out
    by_cases hlt : t < xs.length
    · obtain ⟨a4, k4, e4, hat4, -, -, -⟩ := O.out.at
      rw [upTo_len] at e4 hat4
      subst e4
      have A4 := Lib.hid hat4
      clear hat4
      have hbd := st_bd (l := l) t
      obtain ⟨q, hq⟩ : ∃ q : Int, q = ((stF l t).1 : Nat) := ⟨_, rfl⟩
      have hq0 : 0 ≤ q := by omega
      have hq1 : q ≤ 8 := by omega
      have Q := Lib.hid hq
      rw [← hq]
      clear hq hbd
      go_wp2
      go_loop [7, 8] (fun c i => ∃ (y : Nat) (z : Int), y ≤ t ∧ i = .int .i64 y ∧ c = .int .i64 z ∧ Hid (ClF l t y z)) (fun c i => 2 * (t - (intOf i).toNat) + (0 - intOf c).toNat)
      case atStart => exact ⟨0, -1, Nat.zero_le _, rfl, rfl, Lib.hid (.inl ⟨rfl, fun y' h => absurd h (by omega)⟩)⟩
      case round =>
        obtain ⟨y, z, hy, rfl, rfl, CF⟩ := hrel
        rcases CF.out with ⟨hz, hno⟩ | ⟨hz, hex⟩
        · subst hz
          have NO := Lib.hid hno
          clear hno CF
          by_cases hyt : y < t
          · obtain ⟨lb, lo, rfl, hlb, hlc⟩ := AL.out.2.resolve_left (by omega)
            have hcl := hlc y (by omega)
            clear hlc
            have LX := lk_lF TW.out (x := t) (y := y) hlt (by omega)
            rw [← L.out] at LX
            have LY := Lib.hid LX
            clear LX
            cases hbit : bitB (nth (lkN xs ys xs ys 16) y) t
            · have NE := Lib.hid (show l y ≠ l t from fun e => by have := LY.out.2 e; rw [hbit] at this; cases this)
              go_wp2_with (go_at_call 66; refine (l01Bit_any _ _ _ (by omega) (by omega)).mono ?_; rintro e w' ⟨rfl, rfl⟩)
              go_round
              case rel => exact ⟨y + 1, -1, hyt, by go_num, rfl, Lib.hid (.inl ⟨rfl, fun y' h => by
                by_cases e : y' = y
                · subst e; exact NE.out
                · exact NO.out y' (by omega)⟩)⟩
              case measure => simp [intOf]; omega
            · have EQ := Lib.hid (LY.out.1 hbit)
              obtain ⟨ob, oo, rfl, hob, hoc⟩ := A4.out.2.resolve_left (by omega)
              have hco := hoc y hyt
              rw [upTo_tab, tab_nth _ _ _ hyt] at hco
              obtain ⟨p, hp⟩ : ∃ p : Int, p = (numF l y : Nat) := ⟨_, rfl⟩
              rw [← hp] at hco
              have hp0 : 0 ≤ p := by omega
              have P := Lib.hid hp
              clear hoc hp
              go_wp2_with (go_at_call 66; refine (l01Bit_any _ _ _ (by omega) (by omega)).mono ?_; rintro e w' ⟨rfl, rfl⟩)
              go_round
              case rel => exact ⟨y + 1, p, hyt, by go_num, rfl, Lib.hid (.inr ⟨by rw [P.out, (num_iff y t).2 EQ.out], y, hyt, EQ.out⟩)⟩
              case measure => simp [intOf]; omega
          · obtain rfl : y = t := by omega
            have NN := Lib.hid ((st_new_iff y).2 NO.out)
            have S1 := Lib.hid (show q + 1 = ((stF l (y + 1)).1 : Nat) by rw [(st_new NN.out).1, Q.out]; rfl)
            have S2 := Lib.hid (show (numF l y : Int) = q by rw [(st_new NN.out).2, Q.out])
            go_wp2_with (at_builtin; refine list_app1 rfl _ _ rfl w1.heap.size _ y _ rfl ((own_down O.out).alloc _) ⟨wr.heap.size, 0, none⟩ 1 _ rfl (World.cell?_alloc_at _ _ _ _ rfl) (by omega) (by simp; omega) ?_; intro v' w1' hown1 hgr1)
            have hbel := Lib.hid (below_app B.out ((Below.refl _ _).alloc hsz _) hsz (own_down O.out) hgr1)
            clear hgr1 x0 x1 x2
            go_roundw
            case rel => exact ⟨y + 1, hlt, by go_num, congrArg (Value.int .i64) S1.out, Lib.hid (by unfold Own; rw [upTo_len, upTo, List.map_append]; rw [S2.out]; exact hown1), hbel⟩
            case measure => simp [intOf]; omega
        · have hz0 : 0 ≤ z := by omega
          have hzl : ¬ z < 0 := by omega
          have Z := Lib.hid hz
          have NN := Lib.hid (show (stF l t).2 (l t) ≠ none from fun e => by obtain ⟨y', h1, h2⟩ := hex; exact (st_new_iff t).1 e y' h1 h2)
          have S1 := Lib.hid (show q = ((stF l (t + 1)).1 : Nat) by
            rw [Q.out]
            cases hs : (stF l t).2 (l t) with
            | none => exact absurd hs NN.out
            | some i => rw [(st_old hs).1])
          clear hz hex CF
          by_cases hyt : y < t
          · have hyt' : (y : Int) < (t : Int) := by omega
            go_wp2_with (at_builtin; refine list_app1 rfl _ _ rfl w1.heap.size _ t _ rfl ((own_down O.out).alloc _) ⟨wr.heap.size, 0, none⟩ 1 _ rfl (World.cell?_alloc_at _ _ _ _ rfl) (by omega) (by simp; omega) ?_; intro v' w1' hown1 hgr1)
            have hbel := Lib.hid (below_app B.out ((Below.refl _ _).alloc hsz _) hsz (own_down O.out) hgr1)
            clear hgr1 x0 x1 x2
            go_roundw
            case rel => exact ⟨t + 1, hlt, by go_num, congrArg (Value.int .i64) S1.out, Lib.hid (by unfold Own; rw [upTo_len, upTo, List.map_append]; rw [← Z.out]; exact hown1), hbel⟩
            case measure => simp [intOf]; omega
          · obtain rfl : y = t := by omega
            go_wp2_with (at_builtin; refine list_app1 rfl _ _ rfl w1.heap.size _ y _ rfl ((own_down O.out).alloc _) ⟨wr.heap.size, 0, none⟩ 1 _ rfl (World.cell?_alloc_at _ _ _ _ rfl) (by omega) (by simp; omega) ?_; intro v' w1' hown1 hgr1)
            have hbel := Lib.hid (below_app B.out ((Below.refl _ _).alloc hsz _) hsz (own_down O.out) hgr1)
            clear hgr1 x0 x1 x2
            go_roundw
            case rel => exact ⟨y + 1, hlt, by go_num, congrArg (Value.int .i64) S1.out, Lib.hid (by unfold Own; rw [upTo_len, upTo, List.map_append]; rw [← Z.out]; exact hown1), hbel⟩
            case measure => simp [intOf]; omega
    · obtain rfl : t = xs.length := by omega
      go_wp2
      go_ret
      exact ⟨_, rfl, by rw [← EL.out, ← upTo_tab]; exact O.out.mono (Nat.le_trans hws T1.out.size), HB.out.trans (TB.out.mono HB.out.size)⟩

theorem BisimulationClasses_len (n : Int) (xs ys : List Int) : (bcL n xs ys).length ≤ 1048576 := by
  rw [bcL]
  split
  · rename_i h
    obtain ⟨-, -, e, -⟩ := isM_ok h
    rw [cLs_len]; omega
  · simp

set_option maxHeartbeats 1000000 in
theorem specBisimulationClasses_v (n : Int) (xs ys : List Int) (v : Value) (lo hi : Nat) (w : World) (hl : xs.length ≤ 1048576) (hm : ys.length ≤ 1048576) (h : InM w lo hi v n xs ys) :
    Calls Try.prog 10 #[v] w fun e w' => ∃ v, e = .returned (.tuple #[v, .int .i64 (bcC n xs ys)]) ∧ Own w' w.heap.size v (bcL n xs ys) ∧ Below w.heap.size w w' := by
  obtain ⟨a, cap, b, d, rfl, hat, hat', -⟩ := h.at
  obtain ⟨W, hW, hb0, hx, hWs⟩ := boxM (w := w) n a xs.length cap b ys.length d 32
  have HB := Lib.hid hb0
  have X := Lib.hid hx
  have H := Lib.hid (hat.keep hb0 (Nat.le_refl _))
  have H' := Lib.hid (hat'.keep hb0 (Nat.le_refl _))
  have HW := Lib.hid hW
  have hws := hb0.size
  have IS := Lib.hid (l06Is_any n xs ys a xs.length cap b ys.length d W hl hm H.out H'.out)
  clear h hat hat' hb0 hx hW hWs
  obtain ⟨lt, x0, x1, x2⟩ := X.out
  cases hf : isM n xs ys
  · have F := Lib.hid hf
    have C := Lib.hid (show bcC n xs ys = 1 ∧ bcL n xs ys = [] by rw [bcC, bcL, hf]; exact ⟨rfl, rfl⟩)
    clear hf
    go_enter Try.func10, Try.ntmps10
    go_wp2_with fail
    rw [← HW.out]
    clear x0 x1 x2
    refine IS.out.mono ?_
    rw [F.out]
    rintro e w1 ⟨rfl, hb⟩
    have B1 := Lib.hid (HB.out.trans (hb.mono HB.out.size))
    clear hb
    go_wp2
    go_ret2
    exact ⟨_, out_c C.out.1, by rw [C.out.2]; exact World.ownsRow_nil _ _ _ _, B1.out⟩
  · have F := Lib.hid hf
    have C := Lib.hid (show bcC n xs ys = 0 ∧ bcL n xs ys = cLs xs.length xs ys 16 by rw [bcC, bcL, hf]; exact ⟨rfl, rfl⟩)
    clear hf
    go_enter Try.func10, Try.ntmps10
    go_wp2_with fail
    rw [← HW.out]
    clear x0 x1 x2
    refine IS.out.mono ?_
    rw [F.out]
    rintro e w1 ⟨rfl, hb⟩
    have T1 := Lib.hid hb
    clear hb
    obtain ⟨lt, x0, x1, x2⟩ := X.out.keep T1.out
    have CC := Lib.hid (l07Classes_any n xs ys a cap b d w1 F.out (Mo.of F.out (H.out.keep T1.out (Nat.le_refl _)) (H'.out.keep T1.out (Nat.le_refl _))))
    go_wp2_with fail
    clear x0 x1 x2
    refine CC.out.mono ?_
    rintro e w2 ⟨v2, rfl, ho, hb⟩
    have OJ := Lib.hid (ho.mono (Nat.le_trans hws T1.out.size))
    have B := Lib.hid (HB.out.trans ((T1.out.trans (hb.mono T1.out.size)).mono HB.out.size))
    clear ho hb
    go_wp2
    go_ret2
    exact ⟨_, out_c C.out.1, by rw [C.out.2]; exact OJ.out, B.out⟩

end Go.Proofs.Ytecjmibnoldpgab
