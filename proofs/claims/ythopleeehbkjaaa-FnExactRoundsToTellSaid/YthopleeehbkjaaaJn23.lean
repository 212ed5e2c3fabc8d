/- 2 texts in one: CtP, CtV. -/
import Derived.Test.YthopleeehbkjaaaJn22
import Derived.Test.YthopleeehbkjaaaTaV
/- Contracts of linkIn and BisimulationClasses of the program. Conditions: those in the theorems. -/
namespace Go.Proofs.Ythopleeehbkjaaa
open Go.RowKit

/-- A row of masks, one of which is under way. -/
theorem kz_start (F : Nat → Int) (n : Nat) : tab n (ktF F (fun _ => 0) 0 0) = tab n (fun _ => 0) := by
  unfold tab
  refine List.map_congr_left fun t _ => ?_
  unfold ktF
  rw [if_neg (by omega)]
  split <;> rfl

set_option maxHeartbeats 2000000 in
set_option maxRecDepth 100000 in
theorem linkIn_any (cs : List Int) (A B : Nat) (a : Option Addr) (cap : Nat) (w : World) (hA : A ≤ 30) (hB : B ≤ 30) (hl : cs.length = A + B) (hcap : A + B ≤ cap) (h : At w a cs.length cs) :
    Calls Try.prog 76 #[.slice a cs.length cap, .int .i64 A] w fun e w' => ∃ v, e = .returned v ∧ Own w' w.heap.size v (liL cs A B) ∧ Below w.heap.size w w' := by
  have hmk := fun (W : World) => run_make_row' (P := Try.prog) 22 2 (.int .i64 0) 8 Try.underlying22 info64 rfl .i64 .i64 A (by omega) (by omega) W
  have H := Lib.hid h
  have HL := Lib.hid hl
  rw [hl]
  have hr0 := Lib.hid (World.rowIs_made w (.int .i64 0) A 2)
  clear h hl
  go_enter Try.func76, Try.ntmps76
  go_wp2
  clear hmk
  go_loopw [13] (fun i wr => ∃ x : Nat, x ≤ A ∧ i = .int .i64 x ∧ Hid (wr.rowIs w.heap.size 2 A (fun t => .int .i64 (ktF (fun x => mkT (fun y => nth cs (A + y) == nth cs x) B) (fun _ => 0) x 0 t))) ∧ Hid (Below w.heap.size w wr)) (fun i _ => A - (intOf i).toNat)
  case atStart => exact ⟨0, Nat.zero_le _, rfl, Lib.hid (hr0.out.congr fun t _ => by unfold ktF; rw [if_neg (by omega)]; split <;> rfl), Lib.hid ((Below.refl _ _).alloc (Nat.le_refl _) _)⟩
  case round =>
    obtain ⟨x, hx, rfl, R, BL⟩ := hrel
    by_cases hlt : x < A
    · obtain ⟨b, off, rfl, hb, hc⟩ := (H.out.keep BL.out (Nat.le_refl _)).2.resolve_left (by have := HL.out; omega)
      have HC := Lib.hid hc
      have hblk : b < w.heap.size := by
        obtain ⟨b', off', e, hb', -⟩ := H.out.2.resolve_left (by have := HL.out; omega)
        cases e; exact hb'
      clear hc
      by_cases hB0 : B = 0
      · subst hB0
        have hAB : A + 0 = A := rfl
        by_cases hcA : cap = A
        · subst hcA
          go_wp2
          refine wp_loop_rounds 1 ?_
          rw [rounds_succ]
          go_wp2
          go_roundw
          case rel => exact ⟨x + 1, hlt, by go_num, Lib.hid (R.out.congr fun t _ => by rw [← kt_next]; rfl), BL⟩
          case measure => simp [intOf]; omega
        · have hca : ¬ cap = A := hcA
          go_wp2
          refine wp_loop_rounds 1 ?_
          rw [rounds_succ]
          go_wp2
          go_roundw
          case rel => exact ⟨x + 1, hlt, by go_num, Lib.hid (R.out.congr fun t _ => by rw [← kt_next]; rfl), BL⟩
          case measure => simp [intOf]; omega
      · have hca : ¬ cap = A := by omega
        obtain ⟨wo, rfl⟩ : ∃ wo : World, wo = wr := ⟨_, rfl⟩
        go_wp2
        go_loopw [20] (fun i wr => ∃ y : Nat, y ≤ B ∧ i = .int .i64 y ∧ Hid (wr.rowIs w.heap.size 2 A (fun t => .int .i64 (ktF (fun x => mkT (fun y => nth cs (A + y) == nth cs x) B) (fun _ => 0) x (mkT (fun y => nth cs (A + y) == nth cs x) y) t))) ∧ Hid (Below w.heap.size w wr)) (fun i _ => B - (intOf i).toNat)
        case atStart => exact ⟨0, Nat.zero_le _, rfl, R, BL⟩
        case round =>
          obtain ⟨y, hy, rfl, R2, BL2⟩ := hrel
          by_cases hly : y < B
          · obtain ⟨b2, off2, e2, hb2, hc2⟩ := (H.out.keep BL2.out (Nat.le_refl _)).2.resolve_left (by have := HL.out; omega)
            cases e2
            have g1 : wr.cell? ⟨b, off + A + y, none⟩ = some (.int .i64 (nth cs (A + y))) := by rw [Nat.add_assoc]; exact hc2 (A + y) (by have := HL.out; omega)
            have g2 := hc2 x (by have := HL.out; omega)
            clear hc2
            have hcg : wr.cell? ⟨w.heap.size, x, none⟩ = some (.int .i64 (ktF (fun x => mkT (fun y => nth cs (A + y) == nth cs x) B) (fun _ => 0) x (mkT (fun y => nth cs (A + y) == nth cs x) y) x)) := R2.out.cell hlt
            have hfg : wr.frozen? ⟨w.heap.size, x, none⟩ = false := R2.out.frozen x
            rw [kt_at] at hcg
            obtain ⟨p, hp⟩ : ∃ p, p = nth cs (A + y) := ⟨_, rfl⟩
            obtain ⟨q, hq⟩ : ∃ q, q = nth cs x := ⟨_, rfl⟩
            rw [← hp] at g1
            rw [← hq] at g2
            have E := Lib.hid (show (nth cs (A + y) == nth cs x) = (p == q) by rw [hp, hq])
            clear hp hq
            cases hpq : (p == q)
            · have E2 := Lib.hid (E.out.trans hpq)
              go_wp2
              go_roundw
              case rel => exact ⟨y + 1, hly, by go_num, Lib.hid (by rw [mkT, E2.out]; exact R2.out), BL2⟩
              case measure => simp [intOf]; omega
            · have E2 := Lib.hid (E.out.trans hpq)
              go_wp2
              go_region
              all_goals
                go_wp2
                go_roundw
                case rel => exact ⟨y + 1, hly, by go_num, Lib.hid (row_setI (show World.rowIs (World.drew _) _ _ _ _ from R2.out) (fun t => kt_set (by rw [mkT, E2.out]; rfl) t)), Lib.hid ((BL2.out.drew).setCell (p := ⟨w.heap.size, x, none⟩) (Nat.le_refl _) _)⟩
                case measure => simp [intOf]; omega
          · obtain rfl : y = B := by omega
            go_wp2
            go_roundw
            case rel => exact ⟨x + 1, hlt, by go_num, Lib.hid (R2.out.congr fun t _ => by rw [← kt_next]), BL2⟩
            case measure => simp [intOf]; omega
    · obtain rfl : x = A := by omega
      have HR := Lib.hid (R.out.congr (g := fun t => .int .i64 (mkT (fun y => nth cs (x + y) == nth cs t) B)) fun t ht => by show Value.int .i64 (ktF _ _ _ _ _) = _; unfold ktF; rw [if_pos ht])
      go_wp2
      go_ret
      exact ⟨_, rfl, own_of_row (F := fun t => mkT (fun y => nth cs (x + y) == nth cs t) B) (Nat.le_refl _) (by omega) HR.out, BL.out⟩

def bcC (n : Int) (xs ys : List Int) : Int := if isM n xs ys then 0 else 1
noncomputable def bcL (n : Int) (xs ys : List Int) : List Int := if isM n xs ys then cLs xs.length xs ys 16 else []
theorem isM_sm {n : Int} {xs ys : List Int} (h : isM n xs ys = true) : Sm1 xs ys := by
  obtain ⟨-, e2, e3, e4⟩ := isM_rel h
  exact ⟨by omega, e3, e4⟩
theorem cLs_far {xs ys : List Int} {n K j : Nat} (h : cLs n xs ys K = cLs n xs ys (K + 1)) (hj : K ≤ j) : cLs n xs ys j = cLs n xs ys K := by
  obtain ⟨d, rfl⟩ := Nat.exists_eq_add_of_le hj
  exact cLs_stay h d

set_option maxHeartbeats 1000000 in
theorem implBisimulationClasses_v (n : Int) (xs ys : List Int) (v : Value) (lo hi : Nat) (w : World) (hl : xs.length ≤ 1048576) (hm : ys.length ≤ 1048576) (h : InM w lo hi v n xs ys) :
    Calls Try.prog 36 #[v] w fun e w' => ∃ v, e = .returned (.tuple #[v, .int .i64 (bcC n xs ys)]) ∧ Own w' w.heap.size v (bcL n xs ys) ∧ Below w.heap.size w w' := by
  obtain ⟨a, cap, b, d, rfl, hat, hat', -⟩ := h.at
  obtain ⟨W, hW, hb0, hx, hWs⟩ := boxM (w := w) n a xs.length cap b ys.length d 32
  have HB := Lib.hid hb0
  have X := Lib.hid hx
  have H := Lib.hid (hat.keep hb0 (Nat.le_refl _))
  have H' := Lib.hid (hat'.keep hb0 (Nat.le_refl _))
  have HW := Lib.hid hW
  have hws := hb0.size
  clear h hat hat' hb0 hx hW hWs
  cases hf : isM n xs ys
  · have F := Lib.hid hf
    have C := Lib.hid (show bcC n xs ys = 1 ∧ bcL n xs ys = [] by rw [bcC, bcL, hf]; exact ⟨rfl, rfl⟩)
    clear hf
    go_enter Try.func36, Try.ntmps36
    go_wp2_with fail
    rw [← HW.out]
    refine (implIsModel_any n xs ys _ _ _ _ _ _ _ hl hm H.out H'.out).mono ?_
    rw [F.out]
    rintro e w1 ⟨rfl, hb⟩
    have B1 := Lib.hid (HB.out.trans (hb.mono HB.out.size))
    clear hb
    go_wp2
    go_ret2
    exact ⟨_, out_c C.out.1, by rw [C.out.2]; exact World.ownsRow_nil _ _ _ _, B1.out⟩
  · have F := Lib.hid hf
    have C := Lib.hid (show bcC n xs ys = 0 ∧ bcL n xs ys = cLs xs.length xs ys 16 by rw [bcC, bcL, hf]; exact ⟨rfl, rfl⟩)
    have SM := Lib.hid (isM_sm hf)
    obtain ⟨-, e1, e2, -, e3, -⟩ := isM_ok hf
    have NX := Lib.hid e1
    have Y6 := Lib.hid e3
    clear hf e1 e3
    go_enter Try.func36, Try.ntmps36
    go_wp2_with fail
    rw [← HW.out]
    refine (implIsModel_any n xs ys _ _ _ _ _ _ _ hl hm H.out H'.out).mono ?_
    rw [F.out]
    rintro e w1 ⟨rfl, hb⟩
    have T1 := Lib.hid hb
    clear hb
    obtain ⟨lt, x0, x1, x2⟩ := X.out.keep T1.out
    go_wp2_with fail
    clear x0 x1 x2
    refine (contestIn_any n xs ys _ _ _ _ _ SM.out NX.out Y6.out (H.out.keep T1.out (Nat.le_refl _)) (H'.out.keep T1.out (Nat.le_refl _))).mono ?_
    rintro e w2 ⟨K, vR, us, rfl, hr, hst, hne, hb⟩
    have T2 := Lib.hid (T1.out.trans (hb.mono T1.out.size))
    obtain ⟨aR, cR, rfl, hg⟩ := hr.form
    obtain ⟨g, rfl, hg1, hg2, hgc⟩ := hg.resolve_left (by omega)
    obtain ⟨aj, cj, euj, hoj⟩ := hr.2 K (by omega)
    have UJ := (hgc K (by omega)).trans euj
    have hK := stop_le SM.out hne
    have E16 := Lib.hid (show cLs xs.length xs ys 16 = cLs xs.length xs ys K from cLs_far hst (by omega))
    have OJ := Lib.hid hoj
    have h1s : W.heap.size ≤ w1.heap.size := T1.out.size
    clear hr hst hne hb hg hgc euj hoj
    go_wp2_with fail
    refine (last_any _ _ _ _ _ _ _ g K cR _ w2 (by omega) hg2 UJ).mono ?_
    rintro e w3 ⟨rfl, hb⟩
    have T3 := Lib.hid (T2.out.trans (hb.mono T2.out.size))
    have O3 := Lib.hid (OJ.out.keep hb (Nat.le_refl _))
    clear hb UJ
    go_wp2
    go_ret2
    exact ⟨_, out_c C.out.1, by rw [C.out.2, E16.out]; exact O3.out.mono (by omega), HB.out.trans (T3.out.mono HB.out.size)⟩

end Go.Proofs.Ythopleeehbkjaaa

/- Contracts of l07Greatest, l07Classes and BisimulationClasses of the model. Conditions: those in the theorems. -/
namespace Go.Proofs.Ythopleeehbkjaaa
open Go.RowKit

set_option maxHeartbeats 1000000 in
theorem l07Greatest_any (n0 n1 : Int) (xs ys ps zs : List Int) (a0 : Option Addr) (c0 : Nat) (b0 : Option Addr) (d0 : Nat) (a1 : Option Addr) (c1 : Nat) (b1 : Option Addr) (d1 : Nat) (w : World) (h0 : Mo w n0 a0 b0 xs ys) (h1 : Mo w n1 a1 b1 ps zs) :
    Calls Try.prog 78 #[.agg #[.int .i64 n0, .slice a0 xs.length c0, .slice b0 ys.length d0], .agg #[.int .i64 n1, .slice a1 ps.length c1, .slice b1 zs.length d1]] w fun e w' => ∃ v, e = .returned v ∧ Own w' w.heap.size v (lkN xs ys ps zs 16) ∧ Below w.heap.size w w' := by
  obtain ⟨W, hW, HB, X0, X1, hWs⟩ := boxTw w n0 a0 xs.length c0 b0 ys.length d0 n1 a1 ps.length c1 b1 zs.length d1
  have LB := Lib.hid (l07Bounded_any n0 n1 xs ys ps zs a0 c0 b0 d0 a1 c1 b1 d1 W (h0.keep HB.out) (h1.keep HB.out))
  have HW := Lib.hid hW
  have hws : w.heap.size ≤ W.heap.size := by omega
  clear h0 h1 hW hWs
  obtain ⟨lt0, x0, x1, x2⟩ := X0.out
  obtain ⟨lt1, y0, y1, y2⟩ := X1.out
  go_enter Try.func78, Try.ntmps78
  go_wp2_with fail
  clear x0 x1 x2 y0 y1 y2
  rw [← HW.out]
  refine LB.out.mono ?_
  rintro e w1 ⟨v1, us, rfl, hr, hb⟩
  obtain ⟨aR, cR, eR, hg⟩ := hr.form
  subst eR
  obtain ⟨g, rfl, hg1, hg2, hgc⟩ := hg.resolve_left (by omega)
  obtain ⟨aj, cj, euj, hoj⟩ := hr.2 16 (by omega)
  have UJ := (hgc 16 (by omega)).trans euj
  have OJ := Lib.hid hoj
  have B := Lib.hid (HB.out.trans (hb.mono HB.out.size))
  clear hr hb hg hgc euj hoj
  go_wp2
  go_ret
  exact ⟨_, rfl, OJ.out.mono hws, B.out⟩

theorem Two.self {n : Int} {xs ys : List Int} (h : isM n xs ys = true) : Two xs ys xs ys := Two.of h h
theorem lk_lF {xs ys : List Int} (h : Two xs ys xs ys) {x y : Nat} (hx : x < xs.length) (hy : y < xs.length) : bitB (nth (lkN xs ys xs ys 16) y) x = true ↔ lF xs.length xs ys 16 y = lF xs.length xs ys 16 x := by
  have hS : Sm1 xs ys := ⟨by have := h.x8; omega, h.xr, h.yr⟩
  rw [bitB_T (((h.lk 16).lr y).bd (by have := h.x8; omega)), h.lk_T 16 hy x, ← cLs_iff hS 16 hy hx, cLs_eq, nuL_iff hy hx]
  exact ⟨fun q => q.2, fun q => ⟨hx, q⟩⟩

/-- What the search for a class has found. -/
def ClF (l : Nat → Lit) (x y : Nat) (c : Int) : Prop := (c = -1 ∧ ∀ y', y' < y → l y' ≠ l x) ∨ (c = (numF l x : Int) ∧ ∃ y', y' < x ∧ l y' = l x)

set_option maxHeartbeats 4000000 in
set_option maxRecDepth 100000 in
theorem l07Classes_any (n : Int) (xs ys : List Int) (a : Option Addr) (c : Nat) (b : Option Addr) (d : Nat) (w : World) (hf : isM n xs ys = true) (h : Mo w n a b xs ys) :
    Calls Try.prog 84 #[.agg #[.int .i64 n, .slice a xs.length c, .slice b ys.length d]] w fun e w' => ∃ v, e = .returned v ∧ Own w' w.heap.size v (cLs xs.length xs ys 16) ∧ Below w.heap.size w w' := by
  obtain ⟨W, hW, hb0, hx, hWs⟩ := boxM (w := w) n a xs.length c b ys.length d 32
  have HB := Lib.hid hb0
  have X := Lib.hid hx
  have GR := Lib.hid (l07Greatest_any n n xs ys xs ys a c b d a c b d W (h.keep hb0) (h.keep hb0))
  have TW := Lib.hid (Two.self hf)
  have x8 := h.2.1
  have HW := Lib.hid hW
  have hws := hb0.size
  obtain rfl := h.1
  obtain ⟨l, hl⟩ : ∃ l, l = lF xs.length xs ys 16 := ⟨_, rfl⟩
  have L := Lib.hid hl
  have EL := Lib.hid (show tab xs.length (fun i => (numF l i : Int)) = cLs xs.length xs ys 16 by rw [hl, cLs_eq]; rfl)
  obtain ⟨lt, x0, x1, x2⟩ := hx
  clear h hb0 hW hf hl hWs
  go_enter Try.func84, Try.ntmps84
  go_wp2_with fail
  clear x0 x1 x2
  rw [← HW.out]
  refine GR.out.mono ?_
  rintro e w1 ⟨v1, rfl, ho, hb⟩
  obtain ⟨a1, k1, e1, hat, -, -, -⟩ := ho.at
  have LL := lkN_len xs ys xs ys 16
  rw [LL] at e1 hat
  subst e1
  have A1 := Lib.hid hat
  have T1 := Lib.hid hb
  clear ho hb hat LL
  go_wp2
  go_loopw [4, 5, 6] (fun v c i wr => ∃ t : Nat, t ≤ xs.length ∧ i = .int .i64 t ∧ c = .int .i64 ((stF l t).1 : Nat) ∧ Hid (Own wr w1.heap.size v (upTo (fun t => (numF l t : Int)) t)) ∧ Hid (Below w1.heap.size w1 wr)) (fun _ _ i _ => xs.length - (intOf i).toNat)
  case atStart =>
    refine ⟨0, Nat.zero_le _, rfl, rfl, Lib.hid (show Own _ w1.heap.size _ _ from World.ownsRow_lit w1 #[] 0 (Nat.le_refl _) (by unfold maxLen; omega) rfl), Lib.hid (alloc_keep _ _).1⟩
  case round =>
    obtain ⟨t, ht, rfl, rfl, O, B⟩ := hrel
    have hsz := B.out.size
    have AL := Lib.hid (A1.out.keep B.out (Nat.le_refl _))
    have TB := Lib.hid (T1.out.trans (B.out.mono T1.out.size))
    obtain ⟨lt0, x0, x1, x2⟩ := X.out.keep TB.out
    by_cases hlt : t < xs.length
    · obtain ⟨a4, k4, e4, hat4, -, -, -⟩ := O.out.at
      rw [upTo_len] at e4 hat4
      subst e4
      have A4 := Lib.hid hat4
      clear hat4
      have hbd := st_bd (l := l) t
      obtain ⟨q, hq⟩ : ∃ q : Int, q = ((stF l t).1 : Nat) := ⟨_, rfl⟩
      have hq0 : 0 ≤ q := by omega
      have hq1 : q ≤ 8 := by omega
      have Q := Lib.hid hq
      rw [← hq]
      clear hq hbd
      go_wp2
      go_loop [7, 8] (fun c i => ∃ (y : Nat) (z : Int), y ≤ t ∧ i = .int .i64 y ∧ c = .int .i64 z ∧ Hid (ClF l t y z)) (fun c i => 2 * (t - (intOf i).toNat) + (0 - intOf c).toNat)
      case atStart => exact ⟨0, -1, Nat.zero_le _, rfl, rfl, Lib.hid (.inl ⟨rfl, fun y' h => absurd h (by omega)⟩)⟩
      case round =>
        obtain ⟨y, z, hy, rfl, rfl, CF⟩ := hrel
        rcases CF.out with ⟨hz, hno⟩ | ⟨hz, hex⟩
        · subst hz
          have NO := Lib.hid hno
          clear hno CF
          by_cases hyt : y < t
          · obtain ⟨lb, lo, rfl, hlb, hlc⟩ := AL.out.2.resolve_left (by omega)
            have hcl := hlc y (by omega)
            clear hlc
            have LX := lk_lF TW.out (x := t) (y := y) hlt (by omega)
            rw [← L.out] at LX
            have LY := Lib.hid LX
            clear LX
            cases hbit : bitB (nth (lkN xs ys xs ys 16) y) t
            · have NE := Lib.hid (show l y ≠ l t from fun e => by have := LY.out.2 e; rw [hbit] at this; cases this)
              go_wp2_with (go_at_call 94; refine (l01Bit_any _ _ _ (by omega) (by omega)).mono ?_; rintro e w' ⟨rfl, rfl⟩)
              go_round
              case rel => exact ⟨y + 1, -1, hyt, by go_num, rfl, Lib.hid (.inl ⟨rfl, fun y' h => by
                by_cases e : y' = y
                · subst e; exact NE.out
                · exact NO.out y' (by omega)⟩)⟩
              case measure => simp [intOf]; omega
            · have EQ := Lib.hid (LY.out.1 hbit)
              obtain ⟨ob, oo, rfl, hob, hoc⟩ := A4.out.2.resolve_left (by omega)
              have hco := hoc y hyt
              rw [upTo_tab, tab_nth _ _ _ hyt] at hco
              obtain ⟨p, hp⟩ : ∃ p : Int, p = (numF l y : Nat) := ⟨_, rfl⟩
              rw [← hp] at hco
              have hp0 : 0 ≤ p := by omega
              have P := Lib.hid hp
              clear hoc hp
              go_wp2_with (go_at_call 94; refine (l01Bit_any _ _ _ (by omega) (by omega)).mono ?_; rintro e w' ⟨rfl, rfl⟩)
              go_round
              case rel => exact ⟨y + 1, p, hyt, by go_num, rfl, Lib.hid (.inr ⟨by rw [P.out, (num_iff y t).2 EQ.out], y, hyt, EQ.out⟩)⟩
              case measure => simp [intOf]; omega
          · obtain rfl : y = t := by omega
            have NN := Lib.hid ((st_new_iff y).2 NO.out)
            have S1 := Lib.hid (show q + 1 = ((stF l (y + 1)).1 : Nat) by rw [(st_new NN.out).1, Q.out]; rfl)
            have S2 := Lib.hid (show (numF l y : Int) = q by rw [(st_new NN.out).2, Q.out])
            go_wp2_with (at_builtin; refine list_app1 rfl _ _ rfl w1.heap.size _ y _ rfl ((own_down O.out).alloc _) ⟨wr.heap.size, 0, none⟩ 1 _ rfl (World.cell?_alloc_at _ _ _ _ rfl) (by omega) (by simp; omega) ?_; intro v' w1' hown1 hgr1)
            have hbel := Lib.hid (below_app B.out ((Below.refl _ _).alloc hsz _) hsz (own_down O.out) hgr1)
            clear hgr1 x0 x1 x2
            go_roundw
            case rel => exact ⟨y + 1, hlt, by go_num, congrArg (Value.int .i64) S1.out, Lib.hid (by unfold Own; rw [upTo_len, upTo, List.map_append]; rw [S2.out]; exact hown1), hbel⟩
            case measure => simp [intOf]; omega
        · have hz0 : 0 ≤ z := by omega
          have hzl : ¬ z < 0 := by omega
          have Z := Lib.hid hz
          have NN := Lib.hid (show (stF l t).2 (l t) ≠ none from fun e => by obtain ⟨y', h1, h2⟩ := hex; exact (st_new_iff t).1 e y' h1 h2)
          have S1 := Lib.hid (show q = ((stF l (t + 1)).1 : Nat) by
            rw [Q.out]
            cases hs : (stF l t).2 (l t) with
            | none => exact absurd hs NN.out
            | some i => rw [(st_old hs).1])
          clear hz hex CF
          by_cases hyt : y < t
          · have hyt' : (y : Int) < (t : Int) := by omega
            go_wp2_with (at_builtin; refine list_app1 rfl _ _ rfl w1.heap.size _ t _ rfl ((own_down O.out).alloc _) ⟨wr.heap.size, 0, none⟩ 1 _ rfl (World.cell?_alloc_at _ _ _ _ rfl) (by omega) (by simp; omega) ?_; intro v' w1' hown1 hgr1)
            have hbel := Lib.hid (below_app B.out ((Below.refl _ _).alloc hsz _) hsz (own_down O.out) hgr1)
            clear hgr1 x0 x1 x2
            go_roundw
            case rel => exact ⟨t + 1, hlt, by go_num, congrArg (Value.int .i64) S1.out, Lib.hid (by unfold Own; rw [upTo_len, upTo, List.map_append]; rw [← Z.out]; exact hown1), hbel⟩
            case measure => simp [intOf]; omega
          · obtain rfl : y = t := by omega
            go_wp2_with (at_builtin; refine list_app1 rfl _ _ rfl w1.heap.size _ y _ rfl ((own_down O.out).alloc _) ⟨wr.heap.size, 0, none⟩ 1 _ rfl (World.cell?_alloc_at _ _ _ _ rfl) (by omega) (by simp; omega) ?_; intro v' w1' hown1 hgr1)
            have hbel := Lib.hid (below_app B.out ((Below.refl _ _).alloc hsz _) hsz (own_down O.out) hgr1)
            clear hgr1 x0 x1 x2
            go_roundw
            case rel => exact ⟨y + 1, hlt, by go_num, congrArg (Value.int .i64) S1.out, Lib.hid (by unfold Own; rw [upTo_len, upTo, List.map_append]; rw [← Z.out]; exact hown1), hbel⟩
            case measure => simp [intOf]; omega
    · obtain rfl : t = xs.length := by omega
      go_wp2
      go_ret
      exact ⟨_, rfl, by rw [← EL.out, ← upTo_tab]; exact O.out.mono (Nat.le_trans hws T1.out.size), HB.out.trans (TB.out.mono HB.out.size)⟩

theorem BisimulationClasses_len (n : Int) (xs ys : List Int) : (bcL n xs ys).length ≤ 1048576 := by
  rw [bcL]
  split
  · rename_i h
    obtain ⟨-, -, e, -⟩ := isM_ok h
    rw [cLs_len]; omega
  · simp

set_option maxHeartbeats 1000000 in
theorem specBisimulationClasses_v (n : Int) (xs ys : List Int) (v : Value) (lo hi : Nat) (w : World) (hl : xs.length ≤ 1048576) (hm : ys.length ≤ 1048576) (h : InM w lo hi v n xs ys) :
    Calls Try.prog 35 #[v] w fun e w' => ∃ v, e = .returned (.tuple #[v, .int .i64 (bcC n xs ys)]) ∧ Own w' w.heap.size v (bcL n xs ys) ∧ Below w.heap.size w w' := by
  obtain ⟨a, cap, b, d, rfl, hat, hat', -⟩ := h.at
  obtain ⟨W, hW, hb0, hx, hWs⟩ := boxM (w := w) n a xs.length cap b ys.length d 32
  have HB := Lib.hid hb0
  have X := Lib.hid hx
  have H := Lib.hid (hat.keep hb0 (Nat.le_refl _))
  have H' := Lib.hid (hat'.keep hb0 (Nat.le_refl _))
  have HW := Lib.hid hW
  have hws := hb0.size
  have IS := Lib.hid (l06Is_any n xs ys a xs.length cap b ys.length d W hl hm H.out H'.out)
  clear h hat hat' hb0 hx hW hWs
  obtain ⟨lt, x0, x1, x2⟩ := X.out
  cases hf : isM n xs ys
  · have F := Lib.hid hf
    have C := Lib.hid (show bcC n xs ys = 1 ∧ bcL n xs ys = [] by rw [bcC, bcL, hf]; exact ⟨rfl, rfl⟩)
    clear hf
    go_enter Try.func35, Try.ntmps35
    go_wp2_with fail
    rw [← HW.out]
    clear x0 x1 x2
    refine IS.out.mono ?_
    rw [F.out]
    rintro e w1 ⟨rfl, hb⟩
    have B1 := Lib.hid (HB.out.trans (hb.mono HB.out.size))
    clear hb
    go_wp2
    go_ret2
    exact ⟨_, out_c C.out.1, by rw [C.out.2]; exact World.ownsRow_nil _ _ _ _, B1.out⟩
  · have F := Lib.hid hf
    have C := Lib.hid (show bcC n xs ys = 0 ∧ bcL n xs ys = cLs xs.length xs ys 16 by rw [bcC, bcL, hf]; exact ⟨rfl, rfl⟩)
    clear hf
    go_enter Try.func35, Try.ntmps35
    go_wp2_with fail
    rw [← HW.out]
    clear x0 x1 x2
    refine IS.out.mono ?_
    rw [F.out]
    rintro e w1 ⟨rfl, hb⟩
    have T1 := Lib.hid hb
    clear hb
    obtain ⟨lt, x0, x1, x2⟩ := X.out.keep T1.out
    have CC := Lib.hid (l07Classes_any n xs ys a cap b d w1 F.out (Mo.of F.out (H.out.keep T1.out (Nat.le_refl _)) (H'.out.keep T1.out (Nat.le_refl _))))
    go_wp2_with fail
    clear x0 x1 x2
    refine CC.out.mono ?_
    rintro e w2 ⟨v2, rfl, ho, hb⟩
    have OJ := Lib.hid (ho.mono (Nat.le_trans hws T1.out.size))
    have B := Lib.hid (HB.out.trans ((T1.out.trans (hb.mono T1.out.size)).mono HB.out.size))
    clear ho hb
    go_wp2
    go_ret2
    exact ⟨_, out_c C.out.1, by rw [C.out.2]; exact OJ.out, B.out⟩

end Go.Proofs.Ythopleeehbkjaaa
