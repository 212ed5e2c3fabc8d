/- 4 texts in one: SiM, SiS, Tr2, Tr3. -/
import Derived.Test.YthopleeehbkjaaaJn11
import Derived.Test.YthopleeehbkjaaaInv
/- Simulations and bisimulations: what the program keeps of a link, what the model asks of it. Plain mathematics. -/
namespace Go.Proofs.Ythopleeehbkjaaa
open Go.RowKit

/-! What the program keeps. -/
def kvT (ys zs : List Int) (x : Nat) (s : Int) : Nat → Int
  | 0 => s
  | v + 1 => if bitB (nth ys v) x then bits .and .i64 (kvT ys zs x s v) (nth zs v) else kvT ys zs x s v
def knT (xs ps ls : List Int) (x : Nat) (s : Int) : Nat → Int
  | 0 => s
  | j + 1 => if bitB (nth xs x) j then bits .and .i64 (knT xs ps ls x s j) (piTo ps (nth ls j) ps.length) else knT xs ps ls x s j
def simV (xs ys ps zs ls : List Int) (x : Nat) : Int := knT xs ps ls x (kvT ys zs x (nth ls x) ys.length) ls.length
def simL (xs ys ps zs ls : List Int) : List Int := tab ls.length (simV xs ys ps zs ls)

/-! What the model asks. -/
def foB (ls : List Int) (seen others : Int) : Nat → Bool
  | 0 => true
  | j + 1 => foB ls seen others j && !(bitB seen j && (bits .and .i64 (nth ls j) others == 0))
def gdB (ys zs : List Int) (x y : Nat) (g : Bool) : Nat → Bool
  | 0 => g
  | v + 1 => gdB ys zs x y g v && (!bitB (nth ys v) x || bitB (nth zs v) y)
def beB (xs ys ps zs ls : List Int) (x y : Nat) : Bool := gdB ys zs x y (foB ls (nth xs x) (nth ps y) ls.length) ys.length
def mkT (f : Nat → Bool) : Nat → Int
  | 0 => 0
  | y + 1 => if f y then bits .or .i64 (mkT f y) (one y) else mkT f y
def belV (xs ys ps zs ls : List Int) (x : Nat) : Int := mkT (beB xs ys ps zs ls x) ps.length
def insB (us vs : List Int) : Nat → Bool
  | 0 => true
  | k + 1 => insB us vs k && (bits .andNot .i64 (nth us k) (nth vs k) == 0)

/-- Two models and a link between them. -/
structure Lk (xs ys ps zs ls : List Int) : Prop where
  x8 : xs.length ≤ 8
  p8 : ps.length ≤ 8
  xr : Rel xs.length (nth xs)
  pr : Rel ps.length (nth ps)
  yr : ∀ i, InMk xs.length (nth ys i)
  zr : ∀ i, InMk ps.length (nth zs i)
  yz : zs.length = ys.length
  ll : ls.length = xs.length
  lr : ∀ i, InMk ps.length (nth ls i)

theorem mkT_T {f : Nat → Bool} {n : Nat} (hn : n ≤ 30) (k : Nat) (hk : k ≤ n) : InMk n (mkT f k) ∧ ∀ i, T (mkT f k) i = (decide (i < k) && f i) := by
  induction k with
  | zero => exact ⟨InMk.zero n, fun i => by simp [mkT, T_zero]⟩
  | succ k ih =>
    obtain ⟨h1, h2⟩ := ih (by omega)
    have ho := InMk.one hn (show k < n by omega)
    rw [mkT]
    cases hb : f k
    · rw [if_neg (by simp)]
      refine ⟨h1, fun i => ?_⟩
      rw [h2 i]
      by_cases e : i = k
      · subst e; rw [hb]; simp
      · have : decide (i < k + 1) = decide (i < k) := by rw [decide_eq_decide]; omega
        rw [this]
    · rw [if_pos rfl]
      refine ⟨h1.or hn ho, fun i => ?_⟩
      rw [T_or hn h1 ho, h2 i, T_one (by omega)]
      by_cases e : i = k
      · subst e; rw [hb]; simp
      · have : decide (i < k + 1) = decide (i < k) := by rw [decide_eq_decide]; omega
        rw [this]
        simp [show ¬ k = i from fun h => e h.symm]

theorem kvT_T {ys zs : List Int} {n p : Nat} (hn : n ≤ 30) (hp : p ≤ 30) (hy : ∀ i, InMk p (nth ys i)) (hz : ∀ i, InMk n (nth zs i)) (x : Nat) {s : Int} (hs : InMk n s) (k : Nat) :
    InMk n (kvT ys zs x s k) ∧ ∀ i, T (kvT ys zs x s k) i = true ↔ T s i = true ∧ ∀ v, v < k → T (nth ys v) x = true → T (nth zs v) i = true := by
  induction k with
  | zero => exact ⟨hs, fun i => by simp [kvT]⟩
  | succ k ih =>
    obtain ⟨h1, h2⟩ := ih
    rw [kvT, bitB_T ((hy k).bd hp)]
    cases hb : T (nth ys k) x
    · rw [if_neg (by simp)]
      refine ⟨h1, fun i => (h2 i).trans ⟨fun ⟨a, b⟩ => ⟨a, fun v hv ht => ?_⟩, fun ⟨a, b⟩ => ⟨a, fun v hv => b v (by omega)⟩⟩⟩
      rcases Nat.lt_succ_iff_lt_or_eq.1 hv with h | h
      · exact b v h ht
      · subst h; rw [hb] at ht; cases ht
    · rw [if_pos rfl]
      refine ⟨h1.an hn (hz k), fun i => ?_⟩
      rw [T_an hn h1 (hz k), Bool.and_eq_true, h2 i]
      constructor
      · rintro ⟨⟨a, b⟩, c⟩
        refine ⟨a, fun v hv ht => ?_⟩
        rcases Nat.lt_succ_iff_lt_or_eq.1 hv with h | h
        · exact b v h ht
        · subst h; exact c
      · rintro ⟨a, b⟩
        exact ⟨⟨a, fun v hv => b v (by omega)⟩, b k (by omega) hb⟩

theorem knT_T {xs ps ls : List Int} {p : Nat} (hn : ps.length ≤ 30) (hp : p ≤ 30) (x : Nat) (hx : InMk p (nth xs x)) (hr : Rel ps.length (nth ps)) (hl : ∀ i, InMk ps.length (nth ls i)) {s : Int} (hs : InMk ps.length s) (k : Nat) :
    InMk ps.length (knT xs ps ls x s k) ∧ ∀ i, T (knT xs ps ls x s k) i = true ↔ T s i = true ∧ ∀ j, j < k → T (nth xs x) j = true → i < ps.length ∧ ∃ y, T (nth ps i) y = true ∧ T (nth ls j) y = true := by
  induction k with
  | zero => exact ⟨hs, fun i => by simp [knT]⟩
  | succ k ih =>
    obtain ⟨h1, h2⟩ := ih
    obtain ⟨p1, p2⟩ := piTo_T hn hr (hl k) hn ps.length (Nat.le_refl _)
    rw [knT, bitB_T (hx.bd hp)]
    cases hb : T (nth xs x) k
    · rw [if_neg (by simp)]
      refine ⟨h1, fun i => (h2 i).trans ⟨fun ⟨a, b⟩ => ⟨a, fun v hv ht => ?_⟩, fun ⟨a, b⟩ => ⟨a, fun v hv => b v (by omega)⟩⟩⟩
      rcases Nat.lt_succ_iff_lt_or_eq.1 hv with h | h
      · exact b v h ht
      · subst h; rw [hb] at ht; cases ht
    · rw [if_pos rfl]
      refine ⟨h1.an hn p1, fun i => ?_⟩
      rw [T_an hn h1 p1, Bool.and_eq_true, h2 i, p2 i]
      constructor
      · rintro ⟨⟨a, b⟩, c⟩
        refine ⟨a, fun v hv ht => ?_⟩
        rcases Nat.lt_succ_iff_lt_or_eq.1 hv with h | h
        · exact b v h ht
        · subst h; exact c
      · rintro ⟨a, b⟩
        exact ⟨⟨a, fun v hv => b v (by omega)⟩, b k (by omega) hb⟩

theorem foB_T {ls : List Int} {seen others : Int} {p q : Nat} (hq : q ≤ 30) (hp : p ≤ 30) (hl : ∀ i, InMk q (nth ls i)) (ho : InMk q others) (hs : InMk p seen) (k : Nat) :
    foB ls seen others k = true ↔ ∀ j, j < k → T seen j = true → ∃ y, T others y = true ∧ T (nth ls j) y = true := by
  induction k with
  | zero => simp [foB]
  | succ k ih =>
    rw [foB, Bool.and_eq_true, ih, bitB_T (hs.bd hp), Bool.not_eq_true', Bool.and_eq_false_imp]
    have hz := and_zero hq (hl k) ho
    constructor
    · rintro ⟨a, b⟩ j hj ht
      rcases Nat.lt_succ_iff_lt_or_eq.1 hj with h | h
      · exact a j h ht
      · subst h
        refine Classical.byContradiction fun hh => ?_
        have := b ht
        rw [hz.2 (fun i hi => by
          cases hm : T others i
          · rfl
          · exact absurd ⟨i, hm, hi⟩ hh)] at this
        cases this
    · intro h
      refine ⟨fun j hj => h j (by omega), fun ht => ?_⟩
      obtain ⟨y, h1, h2⟩ := h k (by omega) ht
      rw [Bool.eq_false_iff]
      intro hh
      rw [hz.1 hh y h2] at h1
      cases h1

theorem gdB_T {ys zs : List Int} {p q : Nat} (hp : p ≤ 30) (hq : q ≤ 30) (hy : ∀ i, InMk p (nth ys i)) (hz : ∀ i, InMk q (nth zs i)) (x y : Nat) (g : Bool) (k : Nat) :
    gdB ys zs x y g k = true ↔ g = true ∧ ∀ v, v < k → T (nth ys v) x = true → T (nth zs v) y = true := by
  induction k with
  | zero => simp [gdB]
  | succ k ih =>
    rw [gdB, Bool.and_eq_true, ih, bitB_T ((hy k).bd hp), bitB_T ((hz k).bd hq)]
    constructor
    · rintro ⟨⟨a, b⟩, c⟩
      refine ⟨a, fun v hv ht => ?_⟩
      rcases Nat.lt_succ_iff_lt_or_eq.1 hv with h | h
      · exact b v h ht
      · subst h; rw [ht] at c; simpa using c
    · rintro ⟨a, b⟩
      refine ⟨⟨a, fun v hv => b v (by omega)⟩, ?_⟩
      cases ht : T (nth ys k) x
      · rfl
      · rw [b k (by omega) ht]; rfl

theorem insB_iff {us vs : List Int} {n : Nat} (hn : n ≤ 30) (ha : ∀ i, InMk n (nth us i)) (hb : ∀ i, InMk n (nth vs i)) (k : Nat) :
    insB us vs k = true ↔ ∀ i, i < k → ∀ y, T (nth us i) y = true → T (nth vs i) y = true := by
  induction k with
  | zero => simp [insB]
  | succ k ih =>
    rw [insB, Bool.and_eq_true, ih, beq_iff_eq, andNot_zero hn (ha k) (hb k)]
    constructor
    · rintro ⟨a, b⟩ i hi
      rcases Nat.lt_succ_iff_lt_or_eq.1 hi with h | h
      · exact a i h
      · subst h; exact b
    · exact fun h => ⟨fun i hi => h i (by omega), h k (by omega)⟩

theorem tab_in {n q : Nat} {F : Nat → Int} (h : ∀ i, i < n → InMk q (F i)) (i : Nat) : InMk q (nth (tab n F) i) := by
  by_cases hi : i < n
  · rw [tab_nth n F i hi]; exact h i hi
  · rw [nth_high (by rw [tab_len]; omega)]; exact InMk.zero _
theorem nth_ext {xs ys : List Int} (hl : xs.length = ys.length) (h : ∀ i, i < xs.length → nth xs i = nth ys i) : xs = ys := by
  apply List.ext_getElem hl
  intro i h1 h2
  have := h i h1
  unfold nth at this
  rw [List.getD_eq_getElem?_getD, List.getD_eq_getElem?_getD, List.getElem?_eq_getElem h1, List.getElem?_eq_getElem h2] at this
  exact this

section
variable {xs ys ps zs ls : List Int}
theorem Lk.sim (h : Lk xs ys ps zs ls) (x : Nat) : InMk ps.length (simV xs ys ps zs ls x) ∧ ∀ i, T (simV xs ys ps zs ls x) i = true ↔ T (nth ls x) i = true ∧ T (belV xs ys ps zs ls x) i = true := by
  have hp := Nat.le_trans h.p8 (show 8 ≤ 30 by decide)
  have hx := Nat.le_trans h.x8 (show 8 ≤ 30 by decide)
  obtain ⟨a1, a2⟩ := kvT_T hp hx h.yr h.zr x (h.lr x) ys.length
  obtain ⟨b1, b2⟩ := knT_T hp hx x (h.xr x) h.pr h.lr a1 ls.length
  refine ⟨b1, fun i => ?_⟩
  rw [simV, b2 i, a2 i, belV, (mkT_T hp ps.length (Nat.le_refl _)).2 i, Bool.and_eq_true, decide_eq_true_eq, beB, gdB_T hx hp h.yr h.zr, foB_T hp hx h.lr (h.pr i) (h.xr x)]
  constructor
  · rintro ⟨⟨a, b⟩, c⟩
    exact ⟨a, T_lt (h.lr x) a, fun j hj ht => (c j hj ht).2, b⟩
  · rintro ⟨a, b, c, d⟩
    exact ⟨⟨a, d⟩, fun j hj ht => ⟨b, c j hj ht⟩⟩
theorem Lk.bel_in (h : Lk xs ys ps zs ls) (x : Nat) : InMk ps.length (belV xs ys ps zs ls x) := (mkT_T (Nat.le_trans h.p8 (by decide)) ps.length (Nat.le_refl _)).1

/-- The program's test and the model's are one. -/
theorem Lk.test (h : Lk xs ys ps zs ls) : decide (simL xs ys ps zs ls = ls) = insB ls (tab ls.length (belV xs ys ps zs ls)) ls.length := by
  have hp := Nat.le_trans h.p8 (show 8 ≤ 30 by decide)
  rw [Bool.eq_iff_iff, decide_eq_true_eq, insB_iff hp h.lr (tab_in fun i _ => h.bel_in i)]
  constructor
  · intro e i hi y hy
    rw [tab_nth _ _ _ hi]
    have : nth (simL xs ys ps zs ls) i = nth ls i := by rw [e]
    rw [simL, tab_nth _ _ _ hi] at this
    rw [← this] at hy
    exact (((h.sim i).2 y).1 hy).2
  · intro hh
    refine nth_ext (by rw [simL, tab_len]) fun i hi => ?_
    rw [simL, tab_len] at hi
    rw [simL, tab_nth _ _ _ hi]
    refine T_ext (h.sim i).1 (h.lr i) fun y => ?_
    rw [Bool.eq_iff_iff, (h.sim i).2 y]
    refine ⟨fun q => q.1, fun q => ⟨q, ?_⟩⟩
    have := hh i hi y q
    rwa [tab_nth _ _ _ hi] at this
/-- .. and what it keeps is what the model keeps. -/
theorem Lk.kept (h : Lk xs ys ps zs ls) (x : Nat) : simV xs ys ps zs ls x = bits .and .i64 (belV xs ys ps zs ls x) (nth ls x) := by
  have hp := Nat.le_trans h.p8 (show 8 ≤ 30 by decide)
  refine T_ext (h.sim x).1 ((h.bel_in x).an hp (h.lr x)) fun y => ?_
  rw [Bool.eq_iff_iff, (h.sim x).2 y, T_an hp (h.bel_in x) (h.lr x), Bool.and_eq_true, And.comm]
end

end Go.Proofs.Ythopleeehbkjaaa

/- Contracts of the model's small functions of chapter 7 over links and masks. Conditions: those in the theorems. -/
namespace Go.Proofs.Ythopleeehbkjaaa
open Go.RowKit

theorem foB_false {ls : List Int} {s o : Int} {k l : Nat} (hk : k ≤ l) (h : foB ls s o k = false) : foB ls s o l = false := by
  induction l with
  | zero => simp at hk; subst hk; exact h
  | succ l ih =>
    by_cases e : k = l + 1
    · subst e; exact h
    · rw [foB, ih (by omega)]; rfl
theorem insB_false {us vs : List Int} {k l : Nat} (hk : k ≤ l) (h : insB us vs k = false) : insB us vs l = false := by
  induction l with
  | zero => simp at hk; subst hk; exact h
  | succ l ih =>
    by_cases e : k = l + 1
    · subst e; exact h
    · rw [insB, ih (by omega)]; rfl

set_option maxHeartbeats 400000 in
theorem l07Forth_any (ls : List Int) (s o : Int) (a : Option Addr) (len cap : Nat) (w : World) (hl : len ≤ 30) (h : At w a len ls) :
    Calls Try.prog 101 #[.slice a len cap, .int .i64 s, .int .i64 o] w fun e w' => e = .returned (.bool (foB ls s o len)) ∧ w = w' := by
  have H := Lib.hid h
  clear h
  go_enter Try.func101, Try.ntmps101
  go_wp2
  go_loop [7] (fun i => ∃ k : Nat, k ≤ len ∧ i = .int .i64 k ∧ foB ls s o k = true) (fun i => len - (intOf i).toNat)
  case atStart => exact ⟨0, Nat.zero_le _, rfl, rfl⟩
  case round =>
    obtain ⟨k, hk, rfl, hm⟩ := hrel
    have HM := Lib.hid hm
    clear hm
    by_cases hlt : k < len
    · obtain ⟨b, off, rfl, hb, hc⟩ := H.out.2.resolve_left (by omega)
      have hcell := hc k hlt
      clear hc
      cases hbit : bitB s k
      · have HB := Lib.hid hbit
        go_wp2_with (go_at_call 94; refine (l01Bit_any _ _ _ (by omega) (by omega)).mono ?_; rintro e w' ⟨rfl, rfl⟩)
        go_round
        case rel => exact ⟨k + 1, hlt, by go_num, by rw [foB, HM.out, HB.out]; rfl⟩
        case measure => simp [intOf]; omega
      · have HB := Lib.hid hbit
        cases hz : (bits .and .i64 (nth ls k) o == 0)
        · have HZ := Lib.hid hz
          go_wp2_with (go_at_call 94; refine (l01Bit_any _ _ _ (by omega) (by omega)).mono ?_; rintro e w' ⟨rfl, rfl⟩)
          go_round
          case rel => exact ⟨k + 1, hlt, by go_num, by rw [foB, HM.out, HB.out, HZ.out]; rfl⟩
          case measure => simp [intOf]; omega
        · have HZ := Lib.hid hz
          go_wp2_with (go_at_call 94; refine (l01Bit_any _ _ _ (by omega) (by omega)).mono ?_; rintro e w' ⟨rfl, rfl⟩)
          go_ret
          exact ⟨ret_bool (foB_false (k := k + 1) hlt (by rw [foB, HM.out, HB.out, HZ.out]; rfl)).symm, rfl⟩
    · obtain rfl : k = len := by omega
      go_wp2
      go_ret
      exact ⟨ret_bool HM.out.symm, rfl⟩

set_option maxHeartbeats 400000 in
theorem l07Inside_any (us vs : List Int) (a a' : Option Addr) (len len' cap cap' : Nat) (w : World) (hl : len ≤ 1048576) (hll : len ≤ len') (h : At w a len us) (h' : At w a' len' vs) :
    Calls Try.prog 59 #[.slice a len cap, .slice a' len' cap'] w (SomeDrew w fun e => e = .returned (.bool (insB us vs len))) := by
  have H := Lib.hid h
  have H' := Lib.hid h'
  clear h h'
  go_enter Try.func59, Try.ntmps59
  go_wp2
  go_loopw [5] (fun i wr => ∃ k q : Nat, k ≤ len ∧ i = .int .i64 k ∧ insB us vs k = true ∧ wr = w.drewN q) (fun i _ => len - (intOf i).toNat)
  case atStart => exact ⟨0, 0, Nat.zero_le _, rfl, rfl, rfl⟩
  case round =>
    obtain ⟨k, q, hk, rfl, hm, rfl⟩ := hrel
    have HM := Lib.hid hm
    clear hm
    by_cases hlt : k < len
    · obtain ⟨b, off, rfl, hb, hc⟩ := H.out.2.resolve_left (by omega)
      have hcell := hc k hlt
      obtain ⟨b', off', rfl, hb', hc'⟩ := H'.out.2.resolve_left (by omega)
      have hlt2 : k < len' := by omega
      have hcell2 := hc' k hlt2
      clear hc hc'
      cases hz : (bits .andNot .i64 (nth us k) (nth vs k) == 0)
      all_goals
        have hz2 : (bits .andNot .i64 (nth us k) (nth vs k) != 0) = !(bits .andNot .i64 (nth us k) (nth vs k) == 0) := rfl
        rw [hz] at hz2
        have HZ := Lib.hid hz
        clear hz
        go_wp2
        go_quiet (fail)
        go_wp2
        first
        | (go_ret
           exact ⟨ret_bool (insB_false (k := k + 1) hlt (by rw [insB, HM.out, HZ.out]; rfl)).symm, q + nq, by rw [World.drewN_drewN]⟩)
        | (go_roundw
           case rel => exact ⟨k + 1, _, hlt, by go_num, by rw [insB, HM.out, HZ.out]; rfl, rfl⟩
           case measure => simp [intOf]; omega)
    · obtain rfl : k = len := by omega
      go_wp2
      go_ret
      exact ⟨ret_bool HM.out.symm, _, rfl⟩

end Go.Proofs.Ythopleeehbkjaaa

/- The truth set of a formula of two parts (kind 2), by the model. Conditions: those in the theorem. -/
namespace Go.Proofs.Ythopleeehbkjaaa
open Go.RowKit

set_option maxHeartbeats 4000000 in
set_option maxRecDepth 100000 in
theorem tr_bi2 (g d : Fm) (hg : g.ok) (ihg : TrC g) (ihd : TrC d) : TrC (.bi 2 g d) := by
  intro n xs ys a cap a' cap' b off len cp w hl hm h
  obtain ⟨W, hW, hb0, hx, hWs⟩ := boxM (w := w) n a xs.length cap a' ys.length cap' 32
  have HB := Lib.hid hb0
  have X := Lib.hid hx
  have M := Lib.hid (hm.keep hb0)
  have HF := Lib.hid (h.keep hb0 (Nat.le_refl _))
  have HW := Lib.hid hW
  obtain ⟨hb, c1, -⟩ := HF.out.head
  have hsz : (Fm.bi 2 g d).sz = 1 + g.sz + d.sz := rfl
  have hgp := g.sz_pos
  have hdp := d.sz_pos
  have hlen := h.len
  have h0 : 0 < len := by omega
  obtain ⟨hn, h8, -⟩ := hm
  have hn0 : 0 ≤ n := by omega
  have hn30 : n ≤ 30 := by omega
  obtain ⟨lt, x0, x1, x2⟩ := X.out
  replace c1 : W.cell? ⟨b, off, none⟩ = some (.int .i64 2) := c1
  obtain ⟨x, hxx⟩ : ∃ x, x = g.tr xs ys := ⟨_, rfl⟩
  obtain ⟨y, hyy⟩ : ∃ y, y = d.tr xs ys := ⟨_, rfl⟩
  obtain ⟨cl, hcl⟩ : ∃ c, c = cp - 1 := ⟨_, rfl⟩
  obtain ⟨cr, hcr⟩ : ∃ c, c = cp - (1 + g.sz) := ⟨_, rfl⟩
  obtain ⟨ol, hol⟩ : ∃ c, c = off + 2 := ⟨_, rfl⟩
  obtain ⟨or, hor⟩ : ∃ c, c = off + (1 + g.sz) * 2 := ⟨_, rfl⟩
  obtain ⟨sl, hsl⟩ : ∃ c, c = g.sz := ⟨_, rfl⟩
  obtain ⟨sr, hsr⟩ : ∃ c, c = d.sz := ⟨_, rfl⟩
  have L := Lib.hid (show ∀ w1 : World, Below W.heap.size W w1 → Calls Try.prog 125 #[.slice (some ⟨b, off, none⟩) len cp] w1 fun e w' => e = .returned (.slice (some ⟨b, ol, none⟩) sl cl) ∧ w1 = w' from
    fun w1 hw => by rw [hol, hcl, hsl]; exact l02Left_any 2 g d hg b off len cp w1 hl (HF.out.keep hw (Nat.le_refl _)))
  have R := Lib.hid (show ∀ w1 : World, Below W.heap.size W w1 → Calls Try.prog 126 #[.slice (some ⟨b, off, none⟩) len cp] w1 fun e w' => e = .returned (.slice (some ⟨b, or, none⟩) sr cr) ∧ w1 = w' from
    fun w1 hw => by rw [hor, hcr, hsr]; exact l02Right_any 2 g d hg b off len cp w1 hl (HF.out.keep hw (Nat.le_refl _)))
  have IL := Lib.hid (show ∀ w1 : World, Below W.heap.size W w1 → Calls Try.prog 88 #[.agg #[.int .i64 n, .slice a xs.length cap, .slice a' ys.length cap'], .slice (some ⟨b, ol, none⟩) sl cl] w1 fun e w' => e = .returned (.int .i64 x) ∧ Below w1.heap.size w1 w' from
    fun w1 hw => by rw [hxx, hol, hcl, hsl]; exact ihg n xs ys a cap a' cap' b (off + 2) g.sz (cp - 1) w1 (by omega) (M.out.keep hw) (HF.out.left.keep hw (Nat.le_refl _)))
  have IR := Lib.hid (show ∀ w1 : World, Below W.heap.size W w1 → Calls Try.prog 88 #[.agg #[.int .i64 n, .slice a xs.length cap, .slice a' ys.length cap'], .slice (some ⟨b, or, none⟩) sr cr] w1 fun e w' => e = .returned (.int .i64 y) ∧ Below w1.heap.size w1 w' from
    fun w1 hw => by rw [hyy, hor, hcr, hsr]; exact ihd n xs ys a cap a' cap' b (off + (1 + g.sz) * 2) d.sz (cp - (1 + g.sz)) w1 (by omega) (M.out.keep hw) (HF.out.right.keep hw (Nat.le_refl _)))
  have E := Lib.hid (show bits .and .i64 x y = (Fm.bi 2 g d).tr xs ys by rw [Fm.tr, if_pos rfl, hxx, hyy])
  clear h hb0 hx hW hn h8 hsz hgp hdp hlen hxx hyy ihg ihd hcl hcr hol hor hsl hsr hg
  go_enter Try.func88, Try.ntmps88
  go_wp2_with fail
  rw [← HW.out]
  refine (l01Full_any _ _ hn0 hn30).mono ?_
  rintro e w' ⟨rfl, rfl⟩
  go_wp2
  go_region_held3 (fun w' => w'.cell? ⟨w.heap.size, 0, none⟩ = some (.int .i64 n) ∧ w'.cell? ⟨w.heap.size, 1, none⟩ = some (.slice a xs.length cap) ∧ w'.cell? ⟨w.heap.size, 2, none⟩ = some (.slice a' ys.length cap')) (first | exact ⟨z0, z1, z2⟩ | exact ⟨y0, y1, y2⟩ | exact ⟨x0, x1, x2⟩ | go_keep) (first | (go_at_call 125; refine (L.out _ (Below.refl _ _).drew).mono ?_; rintro e w' ⟨rfl, rfl⟩) | (go_at_call_of 88 cl; refine (IL.out _ (Below.refl _ _).drew).mono ?_; rintro e w1 ⟨rfl, hb⟩; have T1 := Lib.hid (show Below W.heap.size W w1 from below_of_drew hb); clear hb; obtain ⟨ly, y0, y1, y2⟩ := X.out.keep T1.out) | (go_at_call 126; refine (R.out _ T1.out).mono ?_; rintro e w' ⟨rfl, rfl⟩) | (go_at_call_of 88 cr; refine (IR.out _ T1.out).mono ?_; rintro e w2 ⟨rfl, hb⟩; have T2 := Lib.hid (show Below W.heap.size W w2 from T1.out.trans (hb.mono T1.out.size)); clear hb; obtain ⟨lz, z0, z1, z2⟩ := X.out.keep T2.out))
  all_goals
    go_wp2
    go_ret
    exact ⟨ret_int E.out, HB.out.trans (T2.out.mono HB.out.size)⟩

end Go.Proofs.Ythopleeehbkjaaa

/- The truth set of a formula of two parts (kind 3), by the model. Conditions: those in the theorem. -/
namespace Go.Proofs.Ythopleeehbkjaaa
open Go.RowKit

set_option maxHeartbeats 4000000 in
set_option maxRecDepth 100000 in
theorem tr_bi3 (g d : Fm) (hg : g.ok) (ihg : TrC g) (ihd : TrC d) : TrC (.bi 3 g d) := by
  intro n xs ys a cap a' cap' b off len cp w hl hm h
  obtain ⟨W, hW, hb0, hx, hWs⟩ := boxM (w := w) n a xs.length cap a' ys.length cap' 32
  have HB := Lib.hid hb0
  have X := Lib.hid hx
  have M := Lib.hid (hm.keep hb0)
  have HF := Lib.hid (h.keep hb0 (Nat.le_refl _))
  have HW := Lib.hid hW
  obtain ⟨hb, c1, -⟩ := HF.out.head
  have hsz : (Fm.bi 3 g d).sz = 1 + g.sz + d.sz := rfl
  have hgp := g.sz_pos
  have hdp := d.sz_pos
  have hlen := h.len
  have h0 : 0 < len := by omega
  obtain ⟨hn, h8, -⟩ := hm
  have hn0 : 0 ≤ n := by omega
  have hn30 : n ≤ 30 := by omega
  obtain ⟨lt, x0, x1, x2⟩ := X.out
  replace c1 : W.cell? ⟨b, off, none⟩ = some (.int .i64 3) := c1
  obtain ⟨x, hxx⟩ : ∃ x, x = g.tr xs ys := ⟨_, rfl⟩
  obtain ⟨y, hyy⟩ : ∃ y, y = d.tr xs ys := ⟨_, rfl⟩
  obtain ⟨cl, hcl⟩ : ∃ c, c = cp - 1 := ⟨_, rfl⟩
  obtain ⟨cr, hcr⟩ : ∃ c, c = cp - (1 + g.sz) := ⟨_, rfl⟩
  obtain ⟨ol, hol⟩ : ∃ c, c = off + 2 := ⟨_, rfl⟩
  obtain ⟨or, hor⟩ : ∃ c, c = off + (1 + g.sz) * 2 := ⟨_, rfl⟩
  obtain ⟨sl, hsl⟩ : ∃ c, c = g.sz := ⟨_, rfl⟩
  obtain ⟨sr, hsr⟩ : ∃ c, c = d.sz := ⟨_, rfl⟩
  have L := Lib.hid (show ∀ w1 : World, Below W.heap.size W w1 → Calls Try.prog 125 #[.slice (some ⟨b, off, none⟩) len cp] w1 fun e w' => e = .returned (.slice (some ⟨b, ol, none⟩) sl cl) ∧ w1 = w' from
    fun w1 hw => by rw [hol, hcl, hsl]; exact l02Left_any 3 g d hg b off len cp w1 hl (HF.out.keep hw (Nat.le_refl _)))
  have R := Lib.hid (show ∀ w1 : World, Below W.heap.size W w1 → Calls Try.prog 126 #[.slice (some ⟨b, off, none⟩) len cp] w1 fun e w' => e = .returned (.slice (some ⟨b, or, none⟩) sr cr) ∧ w1 = w' from
    fun w1 hw => by rw [hor, hcr, hsr]; exact l02Right_any 3 g d hg b off len cp w1 hl (HF.out.keep hw (Nat.le_refl _)))
  have IL := Lib.hid (show ∀ w1 : World, Below W.heap.size W w1 → Calls Try.prog 88 #[.agg #[.int .i64 n, .slice a xs.length cap, .slice a' ys.length cap'], .slice (some ⟨b, ol, none⟩) sl cl] w1 fun e w' => e = .returned (.int .i64 x) ∧ Below w1.heap.size w1 w' from
    fun w1 hw => by rw [hxx, hol, hcl, hsl]; exact ihg n xs ys a cap a' cap' b (off + 2) g.sz (cp - 1) w1 (by omega) (M.out.keep hw) (HF.out.left.keep hw (Nat.le_refl _)))
  have IR := Lib.hid (show ∀ w1 : World, Below W.heap.size W w1 → Calls Try.prog 88 #[.agg #[.int .i64 n, .slice a xs.length cap, .slice a' ys.length cap'], .slice (some ⟨b, or, none⟩) sr cr] w1 fun e w' => e = .returned (.int .i64 y) ∧ Below w1.heap.size w1 w' from
    fun w1 hw => by rw [hyy, hor, hcr, hsr]; exact ihd n xs ys a cap a' cap' b (off + (1 + g.sz) * 2) d.sz (cp - (1 + g.sz)) w1 (by omega) (M.out.keep hw) (HF.out.right.keep hw (Nat.le_refl _)))
  have E := Lib.hid (show bits .or .i64 x y = (Fm.bi 3 g d).tr xs ys by rw [Fm.tr, if_neg (by decide), if_pos rfl, hxx, hyy])
  clear h hb0 hx hW hn h8 hsz hgp hdp hlen hxx hyy ihg ihd hcl hcr hol hor hsl hsr hg
  go_enter Try.func88, Try.ntmps88
  go_wp2_with fail
  rw [← HW.out]
  refine (l01Full_any _ _ hn0 hn30).mono ?_
  rintro e w' ⟨rfl, rfl⟩
  go_wp2
  go_region_held3 (fun w' => w'.cell? ⟨w.heap.size, 0, none⟩ = some (.int .i64 n) ∧ w'.cell? ⟨w.heap.size, 1, none⟩ = some (.slice a xs.length cap) ∧ w'.cell? ⟨w.heap.size, 2, none⟩ = some (.slice a' ys.length cap')) (first | exact ⟨z0, z1, z2⟩ | exact ⟨y0, y1, y2⟩ | exact ⟨x0, x1, x2⟩ | go_keep) (first | (go_at_call 125; refine (L.out _ (Below.refl _ _).drew).mono ?_; rintro e w' ⟨rfl, rfl⟩) | (go_at_call_of 88 cl; refine (IL.out _ (Below.refl _ _).drew).mono ?_; rintro e w1 ⟨rfl, hb⟩; have T1 := Lib.hid (show Below W.heap.size W w1 from below_of_drew hb); clear hb; obtain ⟨ly, y0, y1, y2⟩ := X.out.keep T1.out) | (go_at_call 126; refine (R.out _ T1.out).mono ?_; rintro e w' ⟨rfl, rfl⟩) | (go_at_call_of 88 cr; refine (IR.out _ T1.out).mono ?_; rintro e w2 ⟨rfl, hb⟩; have T2 := Lib.hid (show Below W.heap.size W w2 from T1.out.trans (hb.mono T1.out.size)); clear hb; obtain ⟨lz, z0, z1, z2⟩ := X.out.keep T2.out))
  all_goals
    go_wp2
    go_ret
    exact ⟨ret_int E.out, HB.out.trans (T2.out.mono HB.out.size)⟩

end Go.Proofs.Ythopleeehbkjaaa
