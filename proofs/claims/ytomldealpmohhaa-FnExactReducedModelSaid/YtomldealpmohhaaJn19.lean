/- 10 texts in one: SiA, SiB, SiT, SiBm, GsM, SiP, SiQ, SiR, SiV, SiW. -/
import Derived.Test.YtomldealpmohhaaJn17
import Derived.Test.YtomldealpmohhaaJn12
import Derived.Test.YtomldealpmohhaaTrV
import Derived.Test.YtomldealpmohhaaJn02
/- Contracts of the model's functions of chapter 7 over two models: what asks for the same variables, for the way back, for two models and a link. Conditions: those in the theorems. -/
namespace Go.Proofs.Ytomldealpmohhaa
open Go.RowKit

set_option maxHeartbeats 400000 in
theorem l07Back_any (ls : List Int) (s o : Int) (a : Option Addr) (len cap : Nat) (w : World) (hl : len ≤ 30) (h : At w a len ls) :
    Calls Try.prog 140 #[.slice a len cap, .int .i64 s, .int .i64 o] w fun e w' => e = .returned (.bool (bits .andNot .i64 o (imgTo ls s len) == 0)) ∧ w = w' := by
  have H := Lib.hid h
  clear h
  go_enter Try.func140, Try.ntmps140
  go_wp2
  go_loop [7, 8] (fun m i => ∃ k : Nat, k ≤ len ∧ i = .int .i64 k ∧ m = .int .i64 (imgTo ls s k)) (fun _ i => len - (intOf i).toNat)
  case atStart => exact ⟨0, Nat.zero_le _, rfl, rfl⟩
  case round =>
    obtain ⟨k, hk, rfl, rfl⟩ := hrel
    by_cases hlt : k < len
    · obtain ⟨b, off, rfl, hb, hc⟩ := H.out.2.resolve_left (by omega)
      have hcell := hc k hlt
      clear hc
      cases hbit : bitB s k
      all_goals
        have HB := Lib.hid hbit
        go_wp2_with (go_at_call 52; refine (l01Bit_any _ _ _ (by omega) (by omega)).mono ?_; rintro e w' ⟨rfl, rfl⟩)
        go_round
        case rel => exact ⟨k + 1, hlt, by go_num, by simp only [imgTo, HB.out]; rfl⟩
        case measure => simp [intOf]; omega
    · obtain rfl : k = len := by omega
      go_wp2
      go_ret
      exact ⟨rfl, rfl⟩

def m2C (n0 : Int) (xs0 ys0 : List Int) (n1 : Int) (xs1 ys1 : List Int) : Int := if isM n0 xs0 ys0 && isM n1 xs1 ys1 then 0 else 1

end Go.Proofs.Ytomldealpmohhaa

/- The contract of the model's l07Below: what is linked under a link by what is true and what is seen. Conditions: those in the theorems. -/
namespace Go.Proofs.Ytomldealpmohhaa
open Go.RowKit

theorem bit_not {b : Bool} (h : b = false) : (!b) = true := by rw [h]; rfl

end Go.Proofs.Ytomldealpmohhaa

/- The contract of the model's l07Step: what is linked by a step under a link. Conditions: those in the theorems. -/
namespace Go.Proofs.Ytomldealpmohhaa
open Go.RowKit

def stB (xs ys ps zs ls : List Int) (x y : Nat) : Bool := atB ys zs x y ys.length && foB ls (nth xs x) (nth ps y) ls.length && (bits .andNot .i64 (nth ps y) (imgTo ls (nth xs x) ls.length) == 0)
def stV (xs ys ps zs ls : List Int) (x : Nat) : Int := mkT (stB xs ys ps zs ls x) ps.length
theorem own_down {w : World} {B k : Nat} {v : Value} {F : Nat → Int} (h : Own w B v (upTo F k)) : w.ownsRow B 2 1 v k ((upTo F k).map (Value.int .i64)) := by
  unfold Own at h; rw [upTo_len] at h; exact h

set_option maxHeartbeats 4000000 in
set_option maxRecDepth 100000 in
theorem l07Step_any (n0 n1 : Int) (xs ys ps zs ls : List Int) (a0 : Option Addr) (c0 : Nat) (b0 : Option Addr) (d0 : Nat) (a1 : Option Addr) (c1 : Nat) (b1 : Option Addr) (d1 : Nat) (al : Option Addr) (cl : Nat) (w : World) (h0 : Mo w n0 a0 b0 xs ys) (h1 : Mo w n1 a1 b1 ps zs) (hl : At w al ls.length ls) (hl8 : ls.length ≤ 8) :
    Calls Try.prog 138 #[.agg #[.int .i64 n0, .slice a0 xs.length c0, .slice b0 ys.length d0], .agg #[.int .i64 n1, .slice a1 ps.length c1, .slice b1 zs.length d1], .slice al ls.length cl] w fun e w' => ∃ v, e = .returned v ∧ Own w' w.heap.size v (tab xs.length (stV xs ys ps zs ls)) ∧ Below w.heap.size w w' := by
  obtain ⟨W, hW, HB, X0, X1, hWs⟩ := boxTw w n0 a0 xs.length c0 b0 ys.length d0 n1 a1 ps.length c1 b1 zs.length d1
  have M0 := Lib.hid (h0.keep HB.out)
  have M1 := Lib.hid (h1.keep HB.out)
  have HL := Lib.hid (hl.keep HB.out (Nat.le_refl _))
  have HW := Lib.hid hW
  have x8 := h0.2.1
  have p8 := h1.2.1
  have hws : w.heap.size ≤ W.heap.size := by omega
  have WS := Lib.hid hWs
  obtain rfl := h0.1
  obtain rfl := h1.1
  clear h0 h1 hl hW hWs
  obtain ⟨lt0, x0, x1, x2⟩ := X0.out
  obtain ⟨lt1, y0, y1, y2⟩ := X1.out
  go_enter Try.func138, Try.ntmps138
  go_wp2
  clear x0 x1 x2 y0 y1 y2
  rw [← HW.out]
  go_loopw [7, 8] (fun v i wr => ∃ t : Nat, t ≤ xs.length ∧ i = .int .i64 t ∧ Hid (Own wr W.heap.size v (upTo (stV xs ys ps zs ls) t)) ∧ Hid (Below W.heap.size W wr)) (fun _ i _ => xs.length - (intOf i).toNat)
  case atStart => exact ⟨0, Nat.zero_le _, rfl, Lib.hid (by rw [← WS.out]; exact World.ownsRow_lit W #[] 0 (Nat.le_refl _) (by unfold maxLen; omega) rfl), Lib.hid ((Below.refl _ _).alloc (Nat.le_refl _) _)⟩
  case round =>
    obtain ⟨t, ht, rfl, O, B⟩ := hrel
    have hsz := B.out.size
    obtain ⟨lt0, x0, x1, x2⟩ := X0.out.keep B.out
    obtain ⟨lt1, y0, y1, y2⟩ := X1.out.keep B.out
    by_cases hlt : t < xs.length
    · go_wp2
      clear x0 x1 x2 y0 y1 y2
      go_loopw [9, 10] (fun s i wr => ∃ y : Nat, y ≤ ps.length ∧ i = .int .i64 y ∧ s = .int .i64 (mkT (stB xs ys ps zs ls t) y) ∧ Hid (Own wr W.heap.size u7 (upTo (stV xs ys ps zs ls) t)) ∧ Hid (Below W.heap.size W wr)) (fun _ i _ => ps.length - (intOf i).toNat)
      case atStart => exact ⟨0, Nat.zero_le _, rfl, rfl, O, B⟩
      case round =>
        clear O B hsz
        obtain ⟨y, hy, rfl, rfl, O, B⟩ := hrel
        have hsz := B.out.size
        obtain ⟨lt0, x0, x1, x2⟩ := X0.out.keep B.out
        obtain ⟨lt1, y0, y1, y2⟩ := X1.out.keep B.out
        by_cases hly : y < ps.length
        · obtain ⟨-, -, -, -, hx, -⟩ := M0.out.keep B.out
          obtain ⟨-, -, -, -, hp, -⟩ := M1.out.keep B.out
          obtain ⟨xb, xo, rfl, hxb, hxc⟩ := hx.2.resolve_left (by omega)
          have hcx := hxc t hlt
          obtain ⟨pb, po, rfl, hpb, hpc⟩ := hp.2.resolve_left (by omega)
          have hcp := hpc y hly
          clear hpc hxc hx hp
          obtain ⟨A, hA⟩ : ∃ A, A = atB ys zs t y ys.length := ⟨_, rfl⟩
          obtain ⟨F, hF⟩ : ∃ F, F = foB ls (nth xs t) (nth ps y) ls.length := ⟨_, rfl⟩
          obtain ⟨G, hG⟩ : ∃ G, G = (bits .andNot .i64 (nth ps y) (imgTo ls (nth xs t) ls.length) == 0) := ⟨_, rfl⟩
          have CA := Lib.hid (show ∀ (w1 : World), Below W.heap.size W w1 → Calls Try.prog 86 #[.agg #[.int .i64 xs.length, .slice (some ⟨xb, xo, none⟩) xs.length c0, .slice b0 ys.length d0], .agg #[.int .i64 ps.length, .slice (some ⟨pb, po, none⟩) ps.length c1, .slice b1 zs.length d1], .int .i64 t, .int .i64 y] w1 fun e w' => e = .returned (.bool A) ∧ Below w1.heap.size w1 w' from
            fun w1 hw => by rw [hA]; exact l07Atoms_any _ _ xs ys ps zs t y _ _ _ _ _ _ _ _ w1 (by omega) (by omega) (by omega) (by omega) (M0.out.keep hw) (M1.out.keep hw))
          have CF := Lib.hid (show ∀ (w1 : World), Below W.heap.size W w1 → Calls Try.prog 139 #[.slice al ls.length cl, .int .i64 (nth xs t), .int .i64 (nth ps y)] w1 fun e w' => e = .returned (.bool F) ∧ w1 = w' from
            fun w1 hw => by rw [hF]; exact l07Forth_any ls _ _ _ _ _ w1 (by omega) (HL.out.keep hw (Nat.le_refl _)))
          have CG := Lib.hid (show ∀ (w1 : World), Below W.heap.size W w1 → Calls Try.prog 140 #[.slice al ls.length cl, .int .i64 (nth xs t), .int .i64 (nth ps y)] w1 fun e w' => e = .returned (.bool G) ∧ w1 = w' from
            fun w1 hw => by rw [hG]; exact l07Back_any ls _ _ _ _ _ w1 (by omega) (HL.out.keep hw (Nat.le_refl _)))
          have E := Lib.hid (show stB xs ys ps zs ls t y = (A && F && G) by rw [hA, hF, hG]; rfl)
          clear hA hF hG
          go_wp2
          go_quiet (fail)
          go_wp2_with fail
          clear x0 x1 x2 y0 y1 y2 hcx hcp
          refine (CA.out _ (below_drewN B.out _)).mono ?_
          rintro e w1 ⟨rfl, hb⟩
          have B1 := Lib.hid ((below_drewN B.out nq).trans (hb.mono (show W.heap.size ≤ _ from hsz)))
          have O1 := Lib.hid (Own.keep (show Own (World.drewN _ nq) _ _ _ from O.out) hb (Nat.le_refl _))
          clear hb
          cases A
          · go_wp2
            go_roundw
            case rel => exact ⟨y + 1, hly, by go_num, by rw [mkT, E.out]; rfl, O1, B1⟩
            case measure => simp [intOf]; omega
          · go_wp2_with fail
            refine (CF.out _ B1.out).mono ?_
            rintro e w' ⟨rfl, rfl⟩
            cases F
            · go_wp2
              go_roundw
              case rel => exact ⟨y + 1, hly, by go_num, by rw [mkT, E.out]; rfl, O1, B1⟩
              case measure => simp [intOf]; omega
            · go_wp2_with fail
              refine (CG.out _ B1.out).mono ?_
              rintro e w' ⟨rfl, rfl⟩
              cases G
              · go_wp2
                go_roundw
                case rel => exact ⟨y + 1, hly, by go_num, by rw [mkT, E.out]; rfl, O1, B1⟩
                case measure => simp [intOf]; omega
              · go_wp2_with (go_at_call 66; refine (l01One_any _ _ (by omega) (by omega)).mono ?_; rintro e w' ⟨rfl, rfl⟩)
                go_roundw
                case rel => exact ⟨y + 1, hly, by go_num, by rw [mkT, E.out]; rfl, O1, B1⟩
                case measure => simp [intOf]; omega
        · obtain rfl : y = ps.length := by omega
          go_wp2_with (at_builtin; refine list_app1 rfl _ _ rfl W.heap.size _ t _ rfl ((own_down O.out).alloc _) ⟨wr.heap.size, 0, none⟩ 1 _ rfl (World.cell?_alloc_at _ _ _ _ rfl) (by omega) (by simp; omega) ?_; intro v' w1' hown1 hgr1)
          have hbel := Lib.hid (below_app B.out ((Below.refl _ _).alloc hsz _) hsz (own_down O.out) hgr1)
          clear hgr1 x0 x1 x2 y0 y1 y2
          go_roundw
          case rel => exact ⟨t + 1, hlt, by go_num, Lib.hid (by unfold Own; rw [upTo_len, upTo, List.map_append]; exact hown1), hbel⟩
          case measure => simp [intOf]; omega
    · obtain rfl : t = xs.length := by omega
      go_wp2
      go_ret
      exact ⟨_, rfl, by rw [← upTo_tab]; exact O.out.mono hws, HB.out.trans (B.out.mono HB.out.size)⟩

end Go.Proofs.Ytomldealpmohhaa

/- A link is a bisimulation for the program exactly if it is one for the model. Plain mathematics. -/
namespace Go.Proofs.Ytomldealpmohhaa
open Go.RowKit

theorem ivTo_T2 {p q : Nat} (hp : p ≤ 30) (hq : q ≤ 30) {xs : List Int} (hr : ∀ i, InMk q (nth xs i)) (t k : Nat) (hk : k ≤ p) :
    InMk p (ivTo xs t k) ∧ ∀ i, T (ivTo xs t k) i = true ↔ i < k ∧ T (nth xs i) t = true := by
  induction k with
  | zero => exact ⟨InMk.zero p, fun i => by simp [ivTo, T_zero]⟩
  | succ k ih =>
    obtain ⟨h1, h2⟩ := ih (by omega)
    rw [ivTo, bitB_T ((hr k).bd hq)]
    cases hb : T (nth xs k) t
    · rw [if_neg (by simp)]
      refine ⟨h1, fun i => (h2 i).trans ⟨fun ⟨a, b⟩ => ⟨by omega, b⟩, fun ⟨a, b⟩ => ⟨?_, b⟩⟩⟩
      rcases Nat.lt_succ_iff_lt_or_eq.1 a with h | h
      · exact h
      · subst h; rw [hb] at b; cases b
    · rw [if_pos rfl]
      have ho := InMk.one hp (show k < p by omega)
      refine ⟨h1.or hp ho, fun i => ?_⟩
      rw [T_or hp h1 ho, Bool.or_eq_true, h2 i, T_one (by omega), decide_eq_true_eq]
      constructor
      · rintro (⟨a, b⟩ | h)
        · exact ⟨by omega, b⟩
        · subst h; exact ⟨by omega, hb⟩
      · rintro ⟨a, b⟩
        rcases Nat.lt_succ_iff_lt_or_eq.1 a with h | h
        · exact .inl ⟨h, b⟩
        · exact .inr h.symm

theorem atB_T {ys zs : List Int} {p q : Nat} (hp : p ≤ 30) (hq : q ≤ 30) (hy : ∀ i, InMk p (nth ys i)) (hz : ∀ i, InMk q (nth zs i)) (x y k : Nat) :
    atB ys zs x y k = true ↔ ∀ v, v < k → T (nth ys v) x = T (nth zs v) y := by
  induction k with
  | zero => simp [atB]
  | succ k ih =>
    rw [atB, Bool.and_eq_true, ih, bitB_T ((hy k).bd hp), bitB_T ((hz k).bd hq), beq_iff_eq]
    constructor
    · rintro ⟨a, b⟩ v hv
      rcases Nat.lt_succ_iff_lt_or_eq.1 hv with h | h
      · exact a v h
      · subst h; exact b
    · exact fun h => ⟨fun v hv => h v (by omega), h k (by omega)⟩

def backL (ls : List Int) (n : Nat) : List Int := tab n (fun t => ivTo ls t ls.length)
theorem backL_len (ls : List Int) (n : Nat) : (backL ls n).length = n := tab_len _ _

section
variable {xs ys ps zs ls : List Int}
theorem Lk.back_T (h : Lk xs ys ps zs ls) (y : Nat) : InMk xs.length (nth (backL ls ps.length) y) ∧ ∀ x, T (nth (backL ls ps.length) y) x = true ↔ y < ps.length ∧ x < ls.length ∧ T (nth ls x) y = true := by
  have hp := Nat.le_trans h.p8 (show 8 ≤ 30 by decide)
  have hx := Nat.le_trans h.x8 (show 8 ≤ 30 by decide)
  by_cases hy : y < ps.length
  · rw [backL, tab_nth _ _ _ hy]
    obtain ⟨a, b⟩ := ivTo_T2 hx hp h.lr y ls.length (by rw [h.ll]; exact Nat.le_refl _)
    exact ⟨a, fun x => by rw [b x]; simp [hy]⟩
  · rw [nth_high (by rw [backL_len]; omega)]
    exact ⟨InMk.zero _, fun x => by simp [T_zero, hy]⟩
theorem Lk.back (h : Lk xs ys ps zs ls) : Lk ps zs xs ys (backL ls ps.length) where
  x8 := h.p8
  p8 := h.x8
  xr := h.pr
  pr := h.xr
  yr := h.zr
  zr := h.yr
  yz := h.yz.symm
  ll := backL_len _ _
  lr := fun i => (h.back_T i).1
theorem Lk.bel_T (h : Lk xs ys ps zs ls) (x y : Nat) : T (belV xs ys ps zs ls x) y = true ↔ y < ps.length ∧ (∀ j, j < ls.length → T (nth xs x) j = true → ∃ z, T (nth ps y) z = true ∧ T (nth ls j) z = true) ∧ ∀ v, v < ys.length → T (nth ys v) x = true → T (nth zs v) y = true := by
  have hp := Nat.le_trans h.p8 (show 8 ≤ 30 by decide)
  have hx := Nat.le_trans h.x8 (show 8 ≤ 30 by decide)
  rw [belV, (mkT_T hp ps.length (Nat.le_refl _)).2 y, Bool.and_eq_true, decide_eq_true_eq, beB, gdB_T hx hp h.yr h.zr, foB_T hp hx h.lr (h.pr y) (h.xr x)]
theorem Lk.st_T (h : Lk xs ys ps zs ls) (x y : Nat) : T (stV xs ys ps zs ls x) y = true ↔ y < ps.length ∧ (∀ v, v < ys.length → T (nth ys v) x = T (nth zs v) y) ∧ (∀ j, j < ls.length → T (nth xs x) j = true → ∃ z, T (nth ps y) z = true ∧ T (nth ls j) z = true) ∧ ∀ z, T (nth ps y) z = true → ∃ j, j < ls.length ∧ T (nth xs x) j = true ∧ T (nth ls j) z = true := by
  have hp := Nat.le_trans h.p8 (show 8 ≤ 30 by decide)
  have hx := Nat.le_trans h.x8 (show 8 ≤ 30 by decide)
  obtain ⟨i1, i2⟩ := imgTo_T hp (xs := ls) h.lr ((h.xr x).bd hx) ls.length
  rw [stV, (mkT_T hp ps.length (Nat.le_refl _)).2 y, Bool.and_eq_true, decide_eq_true_eq, stB, Bool.and_eq_true, Bool.and_eq_true, atB_T hx hp h.yr h.zr, foB_T hp hx h.lr (h.pr y) (h.xr x), beq_iff_eq, andNot_zero hp (h.pr y) i1]
  constructor
  · rintro ⟨a, ⟨b, c⟩, d⟩
    exact ⟨a, b, c, fun z hz => (i2 z).1 (d z hz)⟩
  · rintro ⟨a, b, c, d⟩
    exact ⟨a, ⟨b, c⟩, fun z hz => (i2 z).2 (d z hz)⟩
theorem Lk.st_in (h : Lk xs ys ps zs ls) (x : Nat) : InMk ps.length (stV xs ys ps zs ls x) := (mkT_T (Nat.le_trans h.p8 (by decide)) ps.length (Nat.le_refl _)).1

theorem Lk.bis (h : Lk xs ys ps zs ls) : (decide (simL xs ys ps zs ls = ls) && decide (simL ps zs xs ys (backL ls ps.length) = backL ls ps.length)) = insB ls (tab xs.length (stV xs ys ps zs ls)) ls.length := by
  have hp := Nat.le_trans h.p8 (show 8 ≤ 30 by decide)
  have hx := Nat.le_trans h.x8 (show 8 ≤ 30 by decide)
  rw [h.test, h.back.test, Bool.eq_iff_iff, Bool.and_eq_true, insB_iff hp h.lr (tab_in fun i _ => h.bel_in i), insB_iff hx h.back.lr (tab_in fun i _ => h.back.bel_in i), insB_iff hp h.lr (tab_in fun i _ => h.st_in i), backL_len]
  constructor
  · rintro ⟨a, b⟩ i hi y hy
    have a1 := a i hi y hy
    rw [tab_nth _ _ _ hi] at a1
    rw [h.bel_T] at a1
    obtain ⟨a2, a3, a4⟩ := a1
    have b1 := b y a2 i (((h.back_T y).2 i).2 ⟨a2, hi, hy⟩)
    rw [tab_nth _ _ _ a2, h.back.bel_T] at b1
    obtain ⟨b2, b3, b4⟩ := b1
    rw [tab_nth _ _ _ (by rw [← h.ll]; exact hi), h.st_T]
    refine ⟨a2, fun v hv => ?_, a3, fun z hz => ?_⟩
    · rw [Bool.eq_iff_iff]
      exact ⟨a4 v hv, b4 v (by rw [h.yz]; exact hv)⟩
    · obtain ⟨j, h1, h2⟩ := b3 z (by rw [backL_len]; exact T_lt (h.pr y) hz) hz
      obtain ⟨-, h3, h4⟩ := ((h.back_T z).2 j).1 h2
      exact ⟨j, h3, h1, h4⟩
  · intro a
    refine ⟨fun i hi y hy => ?_, fun y hy x hx2 => ?_⟩
    · have a1 := a i hi y hy
      rw [tab_nth _ _ _ (by rw [← h.ll]; exact hi), h.st_T] at a1
      obtain ⟨a2, a3, a4, a5⟩ := a1
      rw [tab_nth _ _ _ hi, h.bel_T]
      exact ⟨a2, a4, fun v hv ht => by rw [← a3 v hv]; exact ht⟩
    · obtain ⟨-, hi, hl⟩ := ((h.back_T y).2 x).1 hx2
      have a1 := a x hi y hl
      rw [tab_nth _ _ _ (by rw [← h.ll]; exact hi), h.st_T] at a1
      obtain ⟨a2, a3, a4, a5⟩ := a1
      rw [tab_nth _ _ _ hy, h.back.bel_T]
      refine ⟨by rw [← h.ll]; exact hi, fun z hz ht => ?_, fun v hv ht => by rw [a3 v (by rw [← h.yz]; exact hv)]; exact ht⟩
      obtain ⟨j, h1, h2, h3⟩ := a5 z ht
      exact ⟨j, h2, ((h.back_T z).2 j).2 ⟨by rw [backL_len] at hz; exact hz, h1, h3⟩⟩
end

end Go.Proofs.Ytomldealpmohhaa

/- The greatest simulation: what both sides come to. Plain mathematics. -/
namespace Go.Proofs.Ytomldealpmohhaa
open Go.RowKit

def muL (ls : List Int) : Nat → Nat
  | 0 => 0
  | k + 1 => muL ls k + (nth ls k).toNat
theorem muL_le {us vs : List Int} (k : Nat) (h : ∀ i, i < k → nth us i ≤ nth vs i) : muL us k ≤ muL vs k := by
  induction k with
  | zero => exact Nat.le_refl _
  | succ k ih =>
    have h1 := ih fun i hi => h i (by omega)
    have h2 := h k (by omega)
    simp only [muL]
    omega
theorem muL_lt {us vs : List Int} (k : Nat) (hp : ∀ i, 0 ≤ nth us i) (h : ∀ i, i < k → nth us i ≤ nth vs i) {j : Nat} (hj : j < k) (hne : nth us j ≠ nth vs j) : muL us k < muL vs k := by
  induction k with
  | zero => omega
  | succ k ih =>
    have h2 := h k (by omega)
    simp only [muL]
    by_cases e : j = k
    · subst e
      have h1 := muL_le j fun i hi => h i (by omega)
      have := hp j
      omega
    · have h1 := ih (fun i hi => h i (by omega)) (by omega)
      omega

def gsN (xs ys ps zs : List Int) : Nat → List Int
  | 0 => tab xs.length (fun _ => full ps.length)
  | k + 1 => simL xs ys ps zs (gsN xs ys ps zs k)
theorem simL_len (xs ys ps zs ls : List Int) : (simL xs ys ps zs ls).length = ls.length := tab_len _ _
theorem gsN_len (xs ys ps zs : List Int) (k : Nat) : (gsN xs ys ps zs k).length = xs.length := by
  induction k with
  | zero => exact tab_len _ _
  | succ k ih => rw [gsN, simL_len]; exact ih

section
variable {xs ys ps zs ls : List Int}
theorem Lk.next (h : Lk xs ys ps zs ls) : Lk xs ys ps zs (simL xs ys ps zs ls) := { h with ll := (simL_len _ _ _ _ _).trans h.ll, lr := fun i => tab_in (fun i _ => (h.sim i).1) i }
theorem gs_start {n0 n1 : Int} (h0 : isM n0 xs ys = true) (h1 : isM n1 ps zs = true) : Lk xs ys ps zs (gsN xs ys ps zs 0) := by
  obtain ⟨e1, e2, e3, e4⟩ := isM_rel h0
  obtain ⟨f1, f2, f3, f4⟩ := isM_rel h1
  obtain ⟨-, -, -, -, y6, -⟩ := isM_ok h0
  obtain ⟨-, -, -, -, z6, -⟩ := isM_ok h1
  exact ⟨e2, f2, e3, f3, e4, f4, by omega, tab_len _ _, fun i => tab_in (fun _ _ => InMk.full (by omega)) i⟩
theorem gs_lk (h : Lk xs ys ps zs (gsN xs ys ps zs 0)) (k : Nat) : Lk xs ys ps zs (gsN xs ys ps zs k) := by
  induction k with
  | zero => exact h
  | succ k ih => exact ih.next
theorem and_le' {n : Nat} (hn : n ≤ 30) {x y : Int} (hx : InMk n x) (hy : InMk n y) : bits .and .i64 x y ≤ y := by
  have h1 := hx.bd hn
  have h2 := hy.bd hn
  obtain ⟨a, rfl⟩ := Int.eq_ofNat_of_zero_le hx.1
  obtain ⟨b, rfl⟩ := Int.eq_ofNat_of_zero_le hy.1
  rw [iand _ _ (by omega) (by omega)]
  have := Nat.and_le_right (n := a) (m := b)
  omega
theorem Lk.le (h : Lk xs ys ps zs ls) (i : Nat) : nth (simL xs ys ps zs ls) i ≤ nth ls i := by
  have hp := Nat.le_trans h.p8 (show 8 ≤ 30 by decide)
  by_cases hi : i < ls.length
  · rw [simL, tab_nth _ _ _ hi, h.kept]
    exact and_le' hp (h.bel_in i) (h.lr i)
  · rw [nth_high (by rw [simL_len]; omega), nth_high (by omega)]
    exact Int.le_refl _
theorem Lk.drop (h : Lk xs ys ps zs ls) (hne : simL xs ys ps zs ls ≠ ls) : muL (simL xs ys ps zs ls) xs.length < muL ls xs.length := by
  have : ∃ j, j < ls.length ∧ nth (simL xs ys ps zs ls) j ≠ nth ls j := by
    refine Classical.byContradiction fun hh => hne (nth_ext (simL_len _ _ _ _ _) fun i hi => ?_)
    rw [simL_len] at hi
    exact Classical.byContradiction fun h2 => hh ⟨i, hi, h2⟩
  obtain ⟨j, h1, h2⟩ := this
  exact muL_lt _ (fun i => (h.next.lr i).1) (fun i _ => h.le i) (by rw [← h.ll]; exact h1) h2
end

theorem gs_stay {xs ys ps zs : List Int} {k : Nat} (h : simL xs ys ps zs (gsN xs ys ps zs k) = gsN xs ys ps zs k) (d : Nat) : gsN xs ys ps zs (k + d) = gsN xs ys ps zs k := by
  induction d with
  | zero => rfl
  | succ d ih => rw [← Nat.add_assoc, gsN, ih, h]
noncomputable def gsL (xs ys ps zs : List Int) : List Int := Classical.epsilon fun E => ∃ k, E = gsN xs ys ps zs k ∧ simL xs ys ps zs E = E
theorem gsL_eq {xs ys ps zs : List Int} {k : Nat} (h : simL xs ys ps zs (gsN xs ys ps zs k) = gsN xs ys ps zs k) : gsL xs ys ps zs = gsN xs ys ps zs k := by
  obtain ⟨k', e, h'⟩ := Classical.epsilon_spec (p := fun E => ∃ k, E = gsN xs ys ps zs k ∧ simL xs ys ps zs E = E) ⟨_, k, rfl, h⟩
  show gsL xs ys ps zs = _
  have e' : gsL xs ys ps zs = gsN xs ys ps zs k' := e
  have h2 : simL xs ys ps zs (gsN xs ys ps zs k') = gsN xs ys ps zs k' := by rw [← e']; exact h'
  rw [e']
  rcases Nat.le_total k k' with hk | hk
  · obtain ⟨d, rfl⟩ := Nat.exists_eq_add_of_le hk
    exact gs_stay h d
  · obtain ⟨d, rfl⟩ := Nat.exists_eq_add_of_le hk
    exact (gs_stay h2 d).symm
theorem gsL_len {xs ys ps zs : List Int} {k : Nat} (h : simL xs ys ps zs (gsN xs ys ps zs k) = gsN xs ys ps zs k) : (gsL xs ys ps zs).length = xs.length := by rw [gsL_eq h, gsN_len]

end Go.Proofs.Ytomldealpmohhaa

/- Contracts of the program's functions of chapter 7 over two models and a link: what checks them; what is kept of a link. Conditions: those in the theorems. -/
namespace Go.Proofs.Ytomldealpmohhaa
open Go.RowKit

end Go.Proofs.Ytomldealpmohhaa

/- Contracts of checkLink, simulated and isSimulation of the program. Conditions: those in the theorems. -/
namespace Go.Proofs.Ytomldealpmohhaa
open Go.RowKit

def lkC (n0 : Int) (xs0 ys0 : List Int) (n1 : Int) (xs1 ys1 ls : List Int) : Int := if isM n0 xs0 ys0 && isM n1 xs1 ys1 then (if (ls.length : Int) = n0 then (if mksTo n1 ls ls.length then 0 else 1) else 1) else 1

theorem own_zero {w : World} {B : Nat} {v : Value} {xs : List Int} (h : Own w B v xs) (h0 : 0 < xs.length) : ∃ g c, v = .slice (some ⟨g, 0, none⟩) xs.length c ∧ B ≤ g := by
  obtain ⟨-, ⟨-, e⟩ | ⟨g, c, cur, e, hB, -⟩⟩ := h
  · omega
  · exact ⟨g, c, e, hB⟩
theorem own_cell {w : World} {B g c n : Nat} {F : Nat → Int} (h : Own w B (.slice (some ⟨g, 0, none⟩) n c) (tab n F)) {j : Nat} (hj : j < n) : w.cell? ⟨g, j, none⟩ = some (.int .i64 (F j)) ∧ w.frozen? ⟨g, j, none⟩ = false := by
  unfold Own at h
  rw [tab_len] at h
  exact ⟨(World.ownsRow.cellAt h j (by omega)).trans (tab_get hj), World.ownsRow.frozenAt h j⟩
theorem own_set {w : World} {B g c n : Nat} {F G : Nat → Int} {z : Int} {j : Nat} (h : Own w B (.slice (some ⟨g, 0, none⟩) n c) (tab n F)) (e : ∀ t, (if t = j then z else F t) = G t) : Own (w.setCell ⟨g, j, none⟩ (.int .i64 z)) B (.slice (some ⟨g, 0, none⟩) n c) (tab n G) := by
  unfold Own at h ⊢
  rw [tab_len] at h ⊢
  rw [← tab_set e]
  exact (World.ownsRow.stored h j _).1
theorem own_blk {w : World} {B g c n : Nat} {xs : List Int} (h : Own w B (.slice (some ⟨g, 0, none⟩) n c) xs) : B ≤ g ∧ g < w.heap.size := by
  obtain ⟨-, ⟨e, -⟩ | ⟨g', c', cur, e, hB, hh, -⟩⟩ := h
  · cases e
  · cases e; exact ⟨hB, (Array.getElem?_eq_some_iff.1 hh).1⟩

/-- A row of which the entries below x are done, that at x is s, the others are as they were. -/
def ktF (F G : Nat → Int) (x : Nat) (s : Int) (t : Nat) : Int := if t < x then F t else if t = x then s else G t
theorem kt_at (F G : Nat → Int) (x : Nat) (s : Int) : ktF F G x s x = s := by unfold ktF; rw [if_neg (by omega), if_pos rfl]
theorem kt_set {F G : Nat → Int} {x : Nat} {s z s' : Int} (h : z = s') (t : Nat) : (if t = x then z else ktF F G x s t) = ktF F G x s' t := by
  subst h
  unfold ktF
  by_cases e : t = x
  · subst e; rw [if_pos rfl, if_neg (by omega), if_pos rfl]
  · rw [if_neg e, if_neg e, if_neg e]
theorem kt_next {F G : Nat → Int} {x : Nat} : ktF F G x (F x) = ktF F G (x + 1) (G (x + 1)) := by
  funext t
  unfold ktF
  by_cases h : t < x
  · rw [if_pos h, if_pos (by omega)]
  · by_cases e : t = x
    · subst e; rw [if_neg h, if_pos rfl, if_pos (by omega)]
    · rw [if_neg h, if_neg e, if_neg (by omega)]
      split
      · rename_i e2; rw [e2]
      · rfl
theorem kt_start {F G : Nat → Int} : ktF F G 0 (G 0) = G := by
  funext t
  unfold ktF
  rw [if_neg (by omega)]
  split
  · rename_i e; rw [e]
  · rfl
theorem kt_all {F G : Nat → Int} {n : Nat} : tab n (ktF F G n (G n)) = tab n F := by
  unfold tab
  refine List.map_congr_left fun t ht => ?_
  have := List.mem_range.1 ht
  unfold ktF
  rw [if_pos this]

end Go.Proofs.Ytomldealpmohhaa

/- Contracts of simulated and isSimulation of the program. Conditions: those in the theorems. -/
namespace Go.Proofs.Ytomldealpmohhaa
open Go.RowKit

end Go.Proofs.Ytomldealpmohhaa

/- Contracts of IsSimulation and IsBisimulation of the model and of the program. Conditions: those in the theorems. -/
namespace Go.Proofs.Ytomldealpmohhaa
open Go.RowKit

theorem Mo.lk {n0 n1 : Int} {xs ys ps zs ls : List Int} (h0 : isM n0 xs ys = true) (h1 : isM n1 ps zs = true) (hl : (ls.length : Int) = n0) (hm : mksTo n1 ls ls.length = true) : Lk xs ys ps zs ls := by
  obtain ⟨e1, e2, e3, e4⟩ := isM_rel h0
  obtain ⟨f1, f2, f3, f4⟩ := isM_rel h1
  obtain ⟨-, -, -, -, y6, -⟩ := isM_ok h0
  obtain ⟨-, -, -, -, z6, -⟩ := isM_ok h1
  subst f1
  refine ⟨e2, f2, e3, f3, e4, f4, by omega, by omega, fun i => ?_⟩
  by_cases hi : i < ls.length
  · exact (mksTo_iff (by omega) ls ls.length).1 hm i hi
  · rw [nth_high (by omega)]; exact InMk.zero _

def lnkB (n0 n1 : Int) (ls : List Int) : Bool := decide ((ls.length : Int) = n0) && mksTo n1 ls ls.length
theorem lkC_of (n0 : Int) (xs0 ys0 : List Int) (n1 : Int) (xs1 ys1 ls : List Int) : lkC n0 xs0 ys0 n1 xs1 ys1 ls = if isM n0 xs0 ys0 && isM n1 xs1 ys1 && lnkB n0 n1 ls then 0 else 1 := by
  unfold lkC lnkB
  cases (isM n0 xs0 ys0 && isM n1 xs1 ys1)
  · rfl
  · by_cases h : (ls.length : Int) = n0
    · simp [h]
    · simp [h]

def siB (b : Bool) (n0 : Int) (xs ys : List Int) (n1 : Int) (ps zs ls : List Int) : Bool := isM n0 xs ys && isM n1 ps zs && lnkB n0 n1 ls && (if b then insB ls (tab xs.length (stV xs ys ps zs ls)) ls.length else insB ls (tab xs.length (belV xs ys ps zs ls)) ls.length)
theorem si_bad {b : Bool} {n0 n1 : Int} {xs ys ps zs ls : List Int} (h : (isM n0 xs ys && isM n1 ps zs && lnkB n0 n1 ls) = false) : Ending.returned (.tuple #[.bool false, .int .i64 1]) = .returned (.tuple #[.bool (siB b n0 xs ys n1 ps zs ls), .int .i64 (lkC n0 xs ys n1 ps zs ls)]) := by
  rw [siB, lkC_of, h]; rfl
theorem si_ok {b : Bool} {n0 n1 : Int} {xs ys ps zs ls : List Int} {z : Bool} (h : (isM n0 xs ys && isM n1 ps zs && lnkB n0 n1 ls) = true) (hz : z = if b then insB ls (tab xs.length (stV xs ys ps zs ls)) ls.length else insB ls (tab xs.length (belV xs ys ps zs ls)) ls.length) : Ending.returned (.tuple #[.bool z, .int .i64 0]) = .returned (.tuple #[.bool (siB b n0 xs ys n1 ps zs ls), .int .i64 (lkC n0 xs ys n1 ps zs ls)]) := by
  rw [siB, lkC_of, h, hz]; rfl

end Go.Proofs.Ytomldealpmohhaa

/- Contracts of IsSimulation and IsBisimulation of the model and of the program, told by values. Conditions: those in the theorems. -/
namespace Go.Proofs.Ytomldealpmohhaa
open Go.RowKit

theorem own_mem {w : World} {lo hi : Nat} {v : Value} {xs : List Int} (h : OwnIn w lo hi v xs) : ∃ a c, v = .slice a xs.length c ∧ At w a xs.length xs := by
  obtain ⟨a, c, e, hat, -⟩ := Own.at h.1
  exact ⟨a, c, e, hat⟩


end Go.Proofs.Ytomldealpmohhaa
