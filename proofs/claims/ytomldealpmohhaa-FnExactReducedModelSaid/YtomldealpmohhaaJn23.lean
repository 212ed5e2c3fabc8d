/- 4 texts in one: CtS, CtP, QuS, CtR. -/
import Derived.Test.YtomldealpmohhaaCtB
import Derived.Test.YtomldealpmohhaaJn22
import Derived.Test.YtomldealpmohhaaJn10
import Derived.Test.YtomldealpmohhaaRf
import Derived.Deep.RegionLaw
import Derived.Test.YtomldealpmohhaaCtA
/- Worlds of two models, and those of their sum, are alike in as many rounds. Plain mathematics. -/
namespace Go.Proofs.Ytomldealpmohhaa
open Go.RowKit

def shF (n : Nat) (x : Int) : Int := wrap64 (x * 2 ^ (n : Int).toNat)
theorem shF_eq {n p : Nat} (hn : n ≤ 8) (hp : p ≤ 8) {x : Int} (hx : InMk p x) : shF n x = ((x.toNat * 2 ^ n : Nat) : Int) ∧ InMk (n + p) (shF n x) := by
  have h1 := hx.1
  have h2 : x.toNat < 2 ^ p := hx.nat
  have e : x * 2 ^ (n : Int).toNat = ((x.toNat * 2 ^ n : Nat) : Int) := by
    rw [Int.toNat_natCast]
    obtain ⟨a, rfl⟩ := Int.eq_ofNat_of_zero_le h1
    simp
  have hlt : x.toNat * 2 ^ n < 2 ^ (n + p) := by
    rw [Nat.pow_add, Nat.mul_comm (2 ^ n)]
    exact Nat.mul_lt_mul_of_pos_right h2 (Nat.two_pow_pos n)
  have h16 : 2 ^ (n + p) ≤ 2 ^ 16 := Nat.pow_le_pow_right (by decide) (by omega)
  have e2 : shF n x = ((x.toNat * 2 ^ n : Nat) : Int) := by
    unfold shF
    rw [e]
    exact IntWalk.wrap64_in _ (by omega)
  exact ⟨e2, by rw [e2]; exact InMk.of hlt⟩
theorem shF_T {n p : Nat} (hn : n ≤ 8) (hp : p ≤ 8) {x : Int} (hx : InMk p x) (i : Nat) : T (shF n x) i = (decide (n ≤ i) && T x (i - n)) := by
  rw [(shF_eq hn hp hx).1, T, Int.toNat_natCast, T, ← Nat.shiftLeft_eq, Nat.testBit_shiftLeft]
theorem InMk.up {n m : Nat} (h : n ≤ m) {x : Int} (hx : InMk n x) : InMk m x := by
  obtain ⟨a, rfl⟩ := Int.eq_ofNat_of_zero_le hx.1
  exact InMk.of (Nat.lt_of_lt_of_le (by have := hx.nat; simpa using this) (Nat.pow_le_pow_right (by decide) h))

theorem smTo_nth (xs ps : List Int) (n : Int) (k i : Nat) : nth (smTo xs ps n k) i = if i < xs.length then nth xs i else if i < xs.length + k then wrap64 (nth ps (i - xs.length) * 2 ^ n.toNat) else 0 := by
  induction k with
  | zero =>
    by_cases h : i < xs.length
    · rw [if_pos h]; rfl
    · rw [if_neg h, if_neg (by omega)]
      exact nth_high (by show xs.length ≤ i; omega)
  | succ k ih =>
    show nth (smTo xs ps n k ++ [wrap64 (nth ps k * 2 ^ n.toNat)]) i = _
    by_cases h : i < xs.length + k
    · rw [nth_left _ _ _ (by rw [smTo_len]; exact h), ih]
      by_cases h2 : i < xs.length
      · rw [if_pos h2, if_pos h2]
      · rw [if_neg h2, if_neg h2, if_pos h, if_pos (by omega)]
    · by_cases e : i = xs.length + k
      · subst e
        rw [nth_snoc _ _ _ (smTo_len _ _ _ _), if_neg (by omega), if_pos (by omega), show xs.length + k - xs.length = k by omega]
      · rw [nth_high (by simp [smTo_len]; omega), if_neg (by omega), if_neg (by omega)]

section
variable {xs ys ps zs : List Int}
/-- The sum of two models. -/
def sXs (xs ps : List Int) : List Int := smTo xs ps xs.length ps.length
def sYs (xs ys zs : List Int) : List Int := tab ys.length (smF xs.length ys zs)
theorem sXs_len (xs ps : List Int) : (sXs xs ps).length = xs.length + ps.length := smTo_len _ _ _ _
theorem sXs_lo {i : Nat} (h : i < xs.length) : nth (sXs xs ps) i = nth xs i := by rw [sXs, smTo_nth, if_pos h]
theorem sXs_hi {y : Nat} (h : y < ps.length) : nth (sXs xs ps) (xs.length + y) = shF xs.length (nth ps y) := by
  rw [sXs, smTo_nth, if_neg (by omega), if_pos (by omega), show xs.length + y - xs.length = y by omega]; rfl
theorem sYs_nth {v : Nat} (h : v < ys.length) : nth (sYs xs ys zs) v = bits .or .i64 (nth ys v) (shF xs.length (nth zs v)) := by
  rw [sYs, tab_nth _ _ _ h]; rfl

structure Two (xs ys ps zs : List Int) : Prop where
  x8 : xs.length ≤ 8
  p8 : ps.length ≤ 8
  xr : Rel xs.length (nth xs)
  pr : Rel ps.length (nth ps)
  yr : ∀ i, InMk xs.length (nth ys i)
  zr : ∀ i, InMk ps.length (nth zs i)
  y6 : ys.length = 6
  z6 : zs.length = 6
theorem Two.of {n0 n1 : Int} (h0 : isM n0 xs ys = true) (h1 : isM n1 ps zs = true) : Two xs ys ps zs := by
  obtain ⟨e1, e2, e3, e4⟩ := isM_rel h0
  obtain ⟨f1, f2, f3, f4⟩ := isM_rel h1
  obtain ⟨-, -, -, -, y6, -⟩ := isM_ok h0
  obtain ⟨-, -, -, -, z6, -⟩ := isM_ok h1
  exact ⟨e2, f2, e3, f3, e4, f4, y6, z6⟩
theorem Two.sum (h : Two xs ys ps zs) : Sm1 (sXs xs ps) (sYs xs ys zs) := by
  have h1 := h.x8
  have h2 := h.p8
  refine ⟨by rw [sXs_len]; omega, fun i => ?_, fun v => ?_⟩
  · rw [sXs_len]
    by_cases hi : i < xs.length
    · rw [sXs_lo hi]; exact (h.xr i).up (by omega)
    · by_cases hj : i < xs.length + ps.length
      · obtain ⟨y, rfl⟩ := Nat.exists_eq_add_of_le (Nat.le_of_not_lt hi)
        rw [sXs_hi (by omega)]
        exact (shF_eq h1 h2 (h.pr y)).2
      · rw [nth_high (by rw [sXs_len]; omega)]; exact InMk.zero _
  · rw [sXs_len]
    by_cases hv : v < ys.length
    · rw [sYs_nth hv]
      exact ((h.yr v).up (by omega)).or (by omega) (shF_eq h1 h2 (h.zr v)).2
    · rw [nth_high (by rw [sYs, tab_len]; omega)]; exact InMk.zero _
theorem Two.val (h : Two xs ys ps zs) {v : Nat} (hv : v < 6) (i : Nat) : T (nth (sYs xs ys zs) v) i = (T (nth ys v) i || (decide (xs.length ≤ i) && T (nth zs v) (i - xs.length))) := by
  have h1 := h.x8
  have h2 := h.p8
  rw [sYs_nth (by rw [h.y6]; exact hv), T_or (n := xs.length + ps.length) (by omega) ((h.yr v).up (by omega)) (shF_eq h1 h2 (h.zr v)).2, shF_T h1 h2 (h.zr v)]
theorem Two.val_lo (h : Two xs ys ps zs) {v : Nat} (hv : v < 6) {x : Nat} (hx : x < xs.length) : T (nth (sYs xs ys zs) v) x = T (nth ys v) x := by
  rw [h.val hv, decide_eq_false (by omega)]; simp
theorem Two.val_hi (h : Two xs ys ps zs) {v : Nat} (hv : v < 6) (y : Nat) : T (nth (sYs xs ys zs) v) (xs.length + y) = T (nth zs v) y := by
  rw [h.val hv, T_high (h.yr v) (by omega), decide_eq_true (by omega), show xs.length + y - xs.length = y by omega]; simp
/-- Alike in the sum. -/
theorem Two.bb (h : Two xs ys ps zs) (k : Nat) {x y : Nat} (hx : x < xs.length) (hy : y < ps.length) : BB (sXs xs ps) (sYs xs ys zs) (sXs xs ps) (sYs xs ys zs) k x (xs.length + y) ↔ BB xs ys ps zs k x y := by
  have h1 := h.x8
  have h2 := h.p8
  have at_ : ∀ {x y : Nat}, x < xs.length → ((∀ v, v < 6 → T (nth (sYs xs ys zs) v) x = T (nth (sYs xs ys zs) v) (xs.length + y)) ↔ ∀ v, v < 6 → T (nth ys v) x = T (nth zs v) y) := by
    intro x y hx
    constructor
    · intro e v hv
      have := e v hv
      rw [h.val_lo hv hx, h.val_hi hv] at this
      exact this
    · intro e v hv
      rw [h.val_lo hv hx, h.val_hi hv]
      exact e v hv
  induction k generalizing x y with
  | zero => exact at_ hx
  | succ k ih =>
    show (_ ∧ _ ∧ _) ↔ (_ ∧ _ ∧ _)
    rw [at_ hx]
    refine and_congr_right fun _ => and_congr ?_ ?_
    · constructor
      · intro e x' hx'
        obtain ⟨y', h3, h4⟩ := e x' (by rw [sXs_lo hx]; exact hx')
        rw [sXs_hi hy, shF_T h1 h2 (h.pr y), Bool.and_eq_true, decide_eq_true_eq] at h3
        obtain ⟨z, rfl⟩ := Nat.exists_eq_add_of_le h3.1
        rw [show xs.length + z - xs.length = z by omega] at h3
        exact ⟨z, h3.2, (ih (T_lt (h.xr x) hx') (T_lt (h.pr y) h3.2)).1 h4⟩
      · intro e x' hx'
        rw [sXs_lo hx] at hx'
        obtain ⟨y', h3, h4⟩ := e x' hx'
        exact ⟨xs.length + y', by rw [sXs_hi hy, shF_T h1 h2 (h.pr y), Bool.and_eq_true, decide_eq_true_eq, show xs.length + y' - xs.length = y' by omega]; exact ⟨by omega, h3⟩, (ih (T_lt (h.xr x) hx') (T_lt (h.pr y) h3)).2 h4⟩
    · constructor
      · intro e y' hy'
        obtain ⟨x', h3, h4⟩ := e (xs.length + y') (by rw [sXs_hi hy, shF_T h1 h2 (h.pr y), Bool.and_eq_true, decide_eq_true_eq, show xs.length + y' - xs.length = y' by omega]; exact ⟨by omega, hy'⟩)
        rw [sXs_lo hx] at h3
        exact ⟨x', h3, (ih (T_lt (h.xr x) h3) (T_lt (h.pr y) hy')).1 h4⟩
      · intro e y' hy'
        rw [sXs_hi hy, shF_T h1 h2 (h.pr y), Bool.and_eq_true, decide_eq_true_eq] at hy'
        obtain ⟨z, rfl⟩ := Nat.exists_eq_add_of_le hy'.1
        rw [show xs.length + z - xs.length = z by omega] at hy'
        obtain ⟨x', h3, h4⟩ := e z hy'.2
        exact ⟨x', by rw [sXs_lo hx]; exact h3, (ih (T_lt (h.xr x) h3) (T_lt (h.pr y) hy'.2)).2 h4⟩
/-- .. so worlds are in one class of the sum exactly if they are alike. -/
theorem Two.cls (h : Two xs ys ps zs) (k : Nat) {x y : Nat} (hx : x < xs.length) (hy : y < ps.length) : nth (cLs (xs.length + ps.length) (sXs xs ps) (sYs xs ys zs) k) x = nth (cLs (xs.length + ps.length) (sXs xs ps) (sYs xs ys zs) k) (xs.length + y) ↔ BB xs ys ps zs k x y := by
  have e := cLs_iff h.sum k (i := x) (j := xs.length + y) (by rw [sXs_len]; omega) (by rw [sXs_len]; omega)
  rw [sXs_len] at e
  rw [e, h.bb k hx hy]

/-! The model's links. -/
def lkS (xs ys ps zs : List Int) (x : Nat) : Int := mkT (fun y => atB ys zs x y ys.length) ps.length
def lkN (xs ys ps zs : List Int) : Nat → List Int
  | 0 => tab xs.length (lkS xs ys ps zs)
  | k + 1 => tab xs.length (stV xs ys ps zs (lkN xs ys ps zs k))
theorem lkN_len (xs ys ps zs : List Int) (k : Nat) : (lkN xs ys ps zs k).length = xs.length := by cases k <;> exact tab_len _ _
theorem Two.lk (h : Two xs ys ps zs) (k : Nat) : Lk xs ys ps zs (lkN xs ys ps zs k) := by
  have hp := Nat.le_trans h.p8 (show 8 ≤ 30 by decide)
  refine ⟨h.x8, h.p8, h.xr, h.pr, h.yr, h.zr, by rw [h.y6, h.z6], lkN_len _ _ _ _ _, fun i => ?_⟩
  cases k with
  | zero => exact tab_in (fun i _ => (mkT_T hp ps.length (Nat.le_refl _)).1) i
  | succ k => exact tab_in (fun i _ => (mkT_T hp ps.length (Nat.le_refl _)).1) i
theorem Two.lk_T (h : Two xs ys ps zs) (k : Nat) {x : Nat} (hx : x < xs.length) (y : Nat) : T (nth (lkN xs ys ps zs k) x) y = true ↔ y < ps.length ∧ BB xs ys ps zs k x y := by
  have hp := Nat.le_trans h.p8 (show 8 ≤ 30 by decide)
  have hxx := Nat.le_trans h.x8 (show 8 ≤ 30 by decide)
  induction k generalizing x y with
  | zero =>
    rw [lkN, tab_nth _ _ _ hx, lkS, (mkT_T hp ps.length (Nat.le_refl _)).2 y, Bool.and_eq_true, decide_eq_true_eq, atB_T hxx hp h.yr h.zr, h.y6]
    rfl
  | succ k ih =>
    rw [lkN, tab_nth _ _ _ hx, (h.lk k).st_T, lkN_len, h.y6]
    constructor
    · rintro ⟨a, b, c, d⟩
      refine ⟨a, b, fun x' hx' => ?_, fun y' hy' => ?_⟩
      · obtain ⟨z, h3, h4⟩ := c x' (T_lt (h.xr x) hx') hx'
        exact ⟨z, h3, ((ih (T_lt (h.xr x) hx') z).1 h4).2⟩
      · obtain ⟨j, h3, h4, h5⟩ := d y' hy'
        exact ⟨j, h4, ((ih h3 y').1 h5).2⟩
    · rintro ⟨a, b, c, d⟩
      refine ⟨a, b, fun j hj ht => ?_, fun z hz => ?_⟩
      · obtain ⟨z, h3, h4⟩ := c j ht
        exact ⟨z, h3, (ih hj z).2 ⟨T_lt (h.pr y) h3, h4⟩⟩
      · obtain ⟨j, h3, h4⟩ := d z hz
        exact ⟨j, T_lt (h.xr x) h3, h3, (ih (T_lt (h.xr x) h3) z).2 ⟨T_lt (h.pr y) hz, h4⟩⟩
/-- What the program reads off a round is the model's link. -/
def liL (cs : List Int) (a b : Nat) : List Int := tab a (fun x => mkT (fun y => nth cs (a + y) == nth cs x) b)
theorem Two.link (h : Two xs ys ps zs) (k : Nat) : liL (cLs (xs.length + ps.length) (sXs xs ps) (sYs xs ys zs) k) xs.length ps.length = lkN xs ys ps zs k := by
  have hp := Nat.le_trans h.p8 (show 8 ≤ 30 by decide)
  refine nth_ext (by rw [liL, tab_len, lkN_len]) fun x hx => ?_
  rw [liL, tab_len] at hx
  rw [liL, tab_nth _ _ _ hx]
  refine T_ext (mkT_T hp ps.length (Nat.le_refl _)).1 ((h.lk k).lr x) fun y => ?_
  rw [Bool.eq_iff_iff, (mkT_T hp ps.length (Nat.le_refl _)).2 y, Bool.and_eq_true, decide_eq_true_eq, beq_iff_eq, h.lk_T k hx]
  constructor
  · rintro ⟨a, b⟩; exact ⟨a, (h.cls k hx a).1 b.symm⟩
  · rintro ⟨a, b⟩; exact ⟨a, ((h.cls k hx a).2 b).symm⟩
end

/-- The rounds stop early. -/
theorem stop_le {xs ys : List Int} (h : Sm1 xs ys) {K : Nat} (hne : ∀ j, j < K → cLs xs.length xs ys j ≠ cLs xs.length xs ys (j + 1)) : K ≤ xs.length := by
  have : ∀ j, j ≤ K → j ≤ dK xs ys j := by
    intro j
    induction j with
    | zero => exact fun _ => Nat.zero_le _
    | succ j ih =>
      intro hj
      have h1 := ih (by omega)
      have h2 := dK_lt h j (hne j (by omega))
      omega
  have h1 := this K (Nat.le_refl _)
  have h2 := dK_bd xs ys K
  omega

end Go.Proofs.Ytomldealpmohhaa

/- Contracts of linkIn and BisimulationClasses of the program. Conditions: those in the theorems. -/
namespace Go.Proofs.Ytomldealpmohhaa
open Go.RowKit

/-- A row of masks, one of which is under way. -/
theorem kz_start (F : Nat → Int) (n : Nat) : tab n (ktF F (fun _ => 0) 0 0) = tab n (fun _ => 0) := by
  unfold tab
  refine List.map_congr_left fun t _ => ?_
  unfold ktF
  rw [if_neg (by omega)]
  split <;> rfl

def bcC (n : Int) (xs ys : List Int) : Int := if isM n xs ys then 0 else 1
noncomputable def bcL (n : Int) (xs ys : List Int) : List Int := if isM n xs ys then cLs xs.length xs ys 16 else []
theorem isM_sm {n : Int} {xs ys : List Int} (h : isM n xs ys = true) : Sm1 xs ys := by
  obtain ⟨-, e2, e3, e4⟩ := isM_rel h
  exact ⟨by omega, e3, e4⟩
theorem cLs_far {xs ys : List Int} {n K j : Nat} (h : cLs n xs ys K = cLs n xs ys (K + 1)) (hj : K ≤ j) : cLs n xs ys j = cLs n xs ys K := by
  obtain ⟨d, rfl⟩ := Nat.exists_eq_add_of_le hj
  exact cLs_stay h d

end Go.Proofs.Ytomldealpmohhaa

/- Contracts of the model's quotients. Conditions: those in the theorems. -/
namespace Go.Proofs.Ytomldealpmohhaa
open Go.RowKit

theorem OwnM.twoR {w : World} {B g1 g2 m k : Nat} {F G : Nat → Int} (h1 : w.rowIs g1 2 m (fun t => .int .i64 (F t))) (h2 : w.rowIs g2 2 k (fun t => .int .i64 (G t))) (hne : g1 ≠ g2) (hB1 : B ≤ g1) (hB2 : B ≤ g2) (hm : m ≤ 1099511627776) (hk : k ≤ 1099511627776) : OwnM w B (.agg #[.int .i64 m, .slice (some ⟨g1, 0, none⟩) m m, .slice (some ⟨g2, 0, none⟩) k k]) m (tab m F) (tab k G) := by
  refine ⟨rfl, own_of_row hB1 hm h1, own_of_row hB2 hk h2, fun q e1 e2 => ?_⟩
  cases e1
  cases e2
  exact hne rfl

set_option maxHeartbeats 8000000 in
set_option maxRecDepth 100000 in
theorem l07Quotient_any (cs xs ys : List Int) (n m : Nat) (a : Option Addr) (cap : Nat) (b : Option Addr) (d : Nat) (ac : Option Addr) (cc : Nat) (w : World) (hq : Cq cs n m) (hn : n ≤ 8) (hy : ys.length ≤ 30) (hx : ∀ i, InMk n (nth xs i)) (h : At w a n xs) (h' : At w b ys.length ys) (h'' : At w ac n cs) :
    Calls Try.prog 69 #[.agg #[.int .i64 n, .slice a n cap, .slice b ys.length d], .slice ac n cc] w fun e w' => ∃ v, e = .returned v ∧ OwnM w' w.heap.size v m (tab m (qaF cs xs n n)) (tab ys.length (fun v => coTo cs (nth ys v) n)) ∧ Below w.heap.size w w' := by
  obtain ⟨W, hW, HB, X, Z, hWs⟩ := boxM2 w n a n cap b ys.length d
  have H := Lib.hid (h.keep HB.out (Nat.le_refl _))
  have H' := Lib.hid (h'.keep HB.out (Nat.le_refl _))
  have H2 := Lib.hid (h''.keep HB.out (Nat.le_refl _))
  have hm8 : m ≤ 8 := by have := hq.mn; omega
  have hmk := fun (W : World) => run_make_row' (P := Try.prog) 22 2 (.int .i64 0) 8 Try.underlying22 info64 rfl .i64 .i64 m (by omega) (by omega) W
  have hmk2 := fun (W : World) => run_make_row' (P := Try.prog) 22 2 (.int .i64 0) 8 Try.underlying22 info64 rfl .i64 .i64 ys.length (by omega) (by omega) W
  have hz0 : w.heap.size + 1 + 1 ≤ W.heap.size := by omega
  have Q := Lib.hid hq
  have HX := Lib.hid hx
  have HW := Lib.hid hW
  obtain ⟨lt, x0, x1, x2⟩ := X.out
  clear h h' h'' hW hWs hq hx
  go_enter Try.func69, Try.ntmps69
  go_wp2
  rw [← HW.out]
  go_loop [5, 6] (fun c i => ∃ k : Nat, k ≤ n ∧ i = .int .i64 k ∧ c = .int .i64 (mxF cs k)) (fun _ i => n - (intOf i).toNat)
  case atStart => exact ⟨0, Nat.zero_le _, rfl, rfl⟩
  case round =>
    obtain ⟨k, hk, rfl, rfl⟩ := hrel
    by_cases hlt : k < n
    · obtain ⟨cb, co, rfl, hcb, hcc⟩ := H2.out.2.resolve_left (by omega)
      have hck := hcc k hlt
      clear hcc
      have hbk := Q.out.bd k hlt
      have hmx := Q.out.mx_le k hk
      have hmx0 := (mx_ge cs k).1
      have MX := Lib.hid (show mxF cs (k + 1) = (if mxF cs k < nth cs k + 1 then nth cs k + 1 else mxF cs k) from rfl)
      obtain ⟨p, hp⟩ : ∃ p, p = mxF cs k := ⟨_, rfl⟩
      obtain ⟨q, hqq⟩ : ∃ q, q = nth cs k := ⟨_, rfl⟩
      rw [← hp] at hmx hmx0 MX ⊢
      rw [← hqq] at hck hbk MX
      clear hp hqq
      by_cases hc : p < q + 1
      · have E := Lib.hid (MX.out.trans (if_pos hc))
        go_wp2
        go_round
        case rel => exact ⟨k + 1, hlt, by go_num, by rw [E.out]⟩
        case measure => simp [intOf]; omega
      · have E := Lib.hid (MX.out.trans (if_neg hc))
        go_wp2
        go_round
        case rel => exact ⟨k + 1, hlt, by go_num, by rw [E.out]⟩
        case measure => simp [intOf]; omega
    · obtain rfl : k = n := by omega
      rw [Q.out.mx]
      have RR := fun (m1 m2 : Nat) => (show ((W.alloc (.cells (madeCells #[.int .i64 0] m1) 2)).alloc (.cells (madeCells #[.int .i64 0] m2) 2)).rowIs W.heap.size 2 m1 (fun _ => .int .i64 0) ∧ ((W.alloc (.cells (madeCells #[.int .i64 0] m1) 2)).alloc (.cells (madeCells #[.int .i64 0] m2) 2)).rowIs (W.heap.size + 1) 2 m2 (fun _ => .int .i64 0) ∧ Below W.heap.size W ((W.alloc (.cells (madeCells #[.int .i64 0] m1) 2)).alloc (.cells (madeCells #[.int .i64 0] m2) 2)) from
        ⟨rowIs_below (World.rowIs_made _ _ _ _) (alloc_keep _ _).1 (by simp), by
          have q := World.rowIs_made (W.alloc (.cells (madeCells #[.int .i64 0] m1) 2)) (.int .i64 0) m2 2
          rw [show (W.alloc (.cells (madeCells #[.int .i64 0] m1) 2)).heap.size = W.heap.size + 1 by simp] at q
          exact q, ((Below.refl _ _).alloc (Nat.le_refl _) _).alloc (by simp) _⟩)
      have RA := Lib.hid (RR m ys.length)
      have RB := Lib.hid (RR ys.length m)
      clear RR
      go_wp2
      go_cut [7, 8] (fun s7 s8 wx => ∃ g1 g2 : Nat, s7 = .slice (some ⟨g1, 0, none⟩) m m ∧ s8 = .slice (some ⟨g2, 0, none⟩) ys.length ys.length ∧ g1 ≠ g2 ∧ W.heap.size ≤ g1 ∧ W.heap.size ≤ g2 ∧ Hid (wx.rowIs g1 2 m (fun _ => .int .i64 0)) ∧ Hid (wx.rowIs g2 2 ys.length (fun _ => .int .i64 0)) ∧ Hid (Below W.heap.size W wx))
      case first =>
        go_region
        all_goals (try go_wp2_with fail)
        all_goals go_meet
        all_goals first
          | exact ⟨W.heap.size, W.heap.size + 1, rfl, by simp, by omega, by omega, by omega, Lib.hid RA.out.1, Lib.hid RA.out.2.1, Lib.hid (Below.drew RA.out.2.2)⟩
          | exact ⟨W.heap.size + 1, W.heap.size, by simp, rfl, by omega, by omega, by omega, Lib.hid RB.out.2.1, Lib.hid RB.out.1, Lib.hid (Below.drew RB.out.2.2)⟩
      case rest =>
        rename World => wz
        obtain ⟨g1, g2, rfl, rfl, hne, hg1, hg2, R1, R2, T⟩ := hcut
        clear x0 x1 x2 hmk hmk2
        go_wp2
        go_loopw [9] (fun i wr => ∃ x : Nat, x ≤ k ∧ i = .int .i64 x ∧ Hid (wr.rowIs g1 2 m (fun t => .int .i64 (qaF cs xs k x t))) ∧ Hid (wr.rowIs g2 2 ys.length (fun t => .int .i64 (coTo cs (nth ys t) x))) ∧ Hid (Below W.heap.size W wr)) (fun i _ => k - (intOf i).toNat)
        case atStart => exact ⟨0, Nat.zero_le _, rfl, R1, R2, T⟩
        case round =>
          clear R1 R2 T
          obtain ⟨x, hxk, rfl, R1, R2, T⟩ := hrel
          obtain ⟨lt0, x0, x1, x2⟩ := X.out.keep T.out
          by_cases hlt : x < k
          · obtain ⟨j, hj⟩ := Int.eq_ofNat_of_zero_le (Q.out.bd x hlt).1
            have hjm : j < m := by have := (Q.out.bd x hlt).2; omega
            have hjm' : (j : Int) < (m : Int) := by omega
            have J := Lib.hid hj
            clear hj
            go_wp2
            clear x0 x1 x2
            go_loopw [10] (fun i wr => ∃ y : Nat, y ≤ k ∧ i = .int .i64 y ∧ Hid (wr.rowIs g1 2 m (fun t => .int .i64 (qiF cs xs k x y t))) ∧ Hid (wr.rowIs g2 2 ys.length (fun t => .int .i64 (coTo cs (nth ys t) x))) ∧ Hid (Below W.heap.size W wr)) (fun i _ => k - (intOf i).toNat)
            case atStart => exact ⟨0, Nat.zero_le _, rfl, Lib.hid (R1.out.congr fun t _ => by rw [Q.out.qi0 hn HX.out]), R2, T⟩
            case round =>
              clear R1 R2 T
              obtain ⟨y, hyk, rfl, R1, R2, T⟩ := hrel
              obtain ⟨lt0, x0, x1, x2⟩ := X.out.keep T.out
              by_cases hly : y < k
              · obtain ⟨cb, co, rfl, hcb, hcc⟩ := (H2.out.keep T.out (Nat.le_refl _)).2.resolve_left (by omega)
                obtain ⟨xb, xo, rfl, hxb, hxc⟩ := (H.out.keep T.out (Nat.le_refl _)).2.resolve_left (by omega)
                have hcx := hcc x hlt
                rw [J.out] at hcx
                have hcy := hcc y hly
                have hxx := hxc x hlt
                obtain ⟨p, hp⟩ := Int.eq_ofNat_of_zero_le (Q.out.bd y hly).1
                have hpm : p < m := by have := (Q.out.bd y hly).2; omega
                have PP := Lib.hid hp
                rw [hp] at hcy
                have hcg : wr.cell? ⟨g1, j, none⟩ = some (.int .i64 (qiF cs xs k x y j)) := R1.out.cell hjm
                have hfg : wr.frozen? ⟨g1, j, none⟩ = false := R1.out.frozen j
                have hxk' : (x : Int) < (k : Int) := by omega
                have hyk' : (y : Int) < (k : Int) := by omega
                clear hcc hxc hp
                cases hbit : bitB (nth xs x) y
                · have BI := Lib.hid hbit
                  clear hbit
                  go_wp2_with (go_at_call 52; refine (l01Bit_any _ _ _ (by omega) (by omega)).mono ?_; rw [BI.out]; rintro e w' ⟨rfl, rfl⟩)
                  go_roundw
                  case rel => exact ⟨y + 1, hly, by go_num, Lib.hid (R1.out.congr fun t _ => by rw [qi_skip BI.out t]), R2, T⟩
                  case measure => simp [intOf]; omega
                · have BI := Lib.hid hbit
                  have ST := Lib.hid (fun z t hz => Q.out.qi_set hn HX.out (z := z) hly J.out hbit hz t)
                  rw [PP.out] at ST
                  clear hbit
                  go_wp2_with (go_at_call 52; refine (l01Bit_any _ _ _ (by omega) (by omega)).mono ?_; rw [BI.out]; rintro e w' ⟨rfl, rfl⟩)
                  go_region_with (first | (go_at_call 66; refine (l01One_any _ _ (by omega) (by omega)).mono ?_; rintro e w' ⟨rfl, rfl⟩))
                  all_goals
                    go_wp2
                    go_roundw
                    case rel => exact ⟨y + 1, hly, by go_num, Lib.hid (row_setI (show World.rowIs (World.drew _) _ _ _ _ from R1.out) (fun t => ST.out _ t rfl)), Lib.hid (rowIs_grown (show World.rowIs (World.drew _) _ _ _ _ from R2.out) (grown_set _ _ _ _) (by simp; omega)), Lib.hid ((T.out.drew).setCell (p := ⟨g1, j, none⟩) hg1 _)⟩
                    case measure => simp [intOf]; omega
              · obtain rfl : y = k := by omega
                go_wp2
                clear x0 x1 x2
                go_loopw [11] (fun i wr => ∃ v : Nat, v ≤ ys.length ∧ i = .int .i64 v ∧ Hid (wr.rowIs g1 2 m (fun t => .int .i64 (qaF cs xs y (x + 1) t))) ∧ Hid (wr.rowIs g2 2 ys.length (fun t => .int .i64 (qvF cs ys x v t))) ∧ Hid (Below W.heap.size W wr)) (fun i _ => ys.length - (intOf i).toNat)
                case atStart => exact ⟨0, Nat.zero_le _, rfl, R1, Lib.hid (R2.out.congr fun t _ => by unfold qvF; rw [if_neg (by omega)]), T⟩
                case round =>
                  clear R1 R2 T
                  obtain ⟨v, hv, rfl, R1, R2, T⟩ := hrel
                  obtain ⟨lt0, x0, x1, x2⟩ := X.out.keep T.out
                  by_cases hlv : v < ys.length
                  · obtain ⟨cb, co, rfl, hcb, hcc⟩ := (H2.out.keep T.out (Nat.le_refl _)).2.resolve_left (by omega)
                    obtain ⟨yb, yo, rfl, hyb, hyc⟩ := (H'.out.keep T.out (Nat.le_refl _)).2.resolve_left (by omega)
                    have hcx := hcc x hlt
                    rw [J.out] at hcx
                    have hyy := hyc v hlv
                    have hcg : wr.cell? ⟨g2, v, none⟩ = some (.int .i64 (qvF cs ys x v v)) := R2.out.cell hlv
                    have hfg : wr.frozen? ⟨g2, v, none⟩ = false := R2.out.frozen v
                    have hxk' : (x : Int) < (y : Int) := by omega
                    have hvk' : (v : Int) < (ys.length : Int) := by omega
                    clear hcc hyc
                    cases hbit : bitB (nth ys v) x
                    · have BI := Lib.hid hbit
                      clear hbit
                      go_wp2_with (go_at_call 52; refine (l01Bit_any _ _ _ (by omega) (by omega)).mono ?_; rw [BI.out]; rintro e w' ⟨rfl, rfl⟩)
                      go_roundw
                      case rel => exact ⟨v + 1, hlv, by go_num, R1, Lib.hid (R2.out.congr fun t _ => by rw [qv_skip BI.out t]), T⟩
                      case measure => simp [intOf]; omega
                    · have BI := Lib.hid hbit
                      have ST := Lib.hid (fun z t hz => qv_set (cs := cs) (z := z) hbit hz t)
                      rw [J.out] at ST
                      clear hbit
                      go_wp2_with (go_at_call 52; refine (l01Bit_any _ _ _ (by omega) (by omega)).mono ?_; rw [BI.out]; rintro e w' ⟨rfl, rfl⟩)
                      go_region_with (first | (go_at_call 66; refine (l01One_any _ _ (by omega) (by omega)).mono ?_; rintro e w' ⟨rfl, rfl⟩))
                      all_goals
                        go_wp2
                        go_roundw
                        case rel => exact ⟨v + 1, hlv, by go_num, Lib.hid (rowIs_grown (show World.rowIs (World.drew _) _ _ _ _ from R1.out) (grown_set _ _ _ _) (by simp; omega)), Lib.hid (row_setI (show World.rowIs (World.drew _) _ _ _ _ from R2.out) (fun t => ST.out _ t rfl)), Lib.hid ((T.out.drew).setCell (p := ⟨g2, v, none⟩) hg2 _)⟩
                        case measure => simp [intOf]; omega
                  · obtain rfl : v = ys.length := by omega
                    go_wp2
                    clear x0 x1 x2
                    go_roundw
                    case rel => exact ⟨x + 1, hlt, by go_num, R1, Lib.hid (R2.out.congr fun t ht => by unfold qvF; rw [if_pos ht]), T⟩
                    case measure => simp [intOf]; omega
          · obtain rfl : x = k := by omega
            obtain ⟨lt2, z0, z1, z2, z3, z4, z5⟩ := (Z.out.keep T.out).all
            go_wp2
            refine bodyPost_ret (v := .agg #[.int .i64 m, .slice (some ⟨g1, 0, none⟩) m m, .slice (some ⟨g2, 0, none⟩) ys.length ys.length]) (by simp [results, Try.results69, go_sem, z0, z1, z2]) rfl ⟨_, rfl, ?_, (((HB.out.trans (T.out.mono HB.out.size)).setCell (by show _ ≤ _; simp) _).setCell (by show _ ≤ _; simp) _).setCell (by show _ ≤ _; simp) _⟩
            exact ((OwnM.twoR R1.out R2.out hne hg1 hg2 (by omega) (by omega)).out3 (by omega)).mono (by omega)

end Go.Proofs.Ytomldealpmohhaa

/- A row of lists of int64 that the call makes. Conditions: those in the theorems. -/
namespace Go.Proofs.Ytomldealpmohhaa
open Go.RowKit

/-- The row of the rounds. -/
def Rl (w : World) (B : Nat) (v : Value) (us : List Value) (cs : Nat → List Int) (k : Nat) : Prop := w.ownsRow B 22 1 v k us ∧ ∀ j, j < k → ∃ a c, us[j]? = some (.slice a (cs j).length c) ∧ Own w B (.slice a (cs j).length c) (cs j)
theorem Rl.keep {w w' : World} {B C k : Nat} {v : Value} {us : List Value} {cs : Nat → List Int} (h : Rl w B v us cs k) (hb : Below C w w') (hC : w.heap.size ≤ C) : Rl w' B v us cs k := by
  refine ⟨?_, fun j hj => ?_⟩
  · have hr := h.1
    refine World.ownsRow.kept (row := none) hr ⟨hb.os, hb.tape, hb.output, hb.size, fun i hi _ => hb.block i (by omega)⟩ ?_
    cases hv : v.ownBlock with
    | none => exact .inl rfl
    | some g => exact .inr (by simp)
  · obtain ⟨a, c, e, ho⟩ := h.2 j hj
    exact ⟨a, c, e, ho.keep hb hC⟩
theorem Rl.mono {w : World} {B B' k : Nat} {v : Value} {us : List Value} {cs : Nat → List Int} (h : Rl w B v us cs k) (hB : B' ≤ B) : Rl w B' v us cs k := by
  refine ⟨?_, fun j hj => ?_⟩
  · obtain ⟨h1, h2 | ⟨g, c, cur, e, hb, r⟩⟩ := h.1
    · exact ⟨h1, .inl h2⟩
    · exact ⟨h1, .inr ⟨g, c, cur, e, Nat.le_trans hB hb, r⟩⟩
  · obtain ⟨a, c, e, ho⟩ := h.2 j hj
    exact ⟨a, c, e, ho.mono hB⟩
theorem Rl.form {w : World} {B k : Nat} {v : Value} {us : List Value} {cs : Nat → List Int} (h : Rl w B v us cs k) : ∃ a c, v = .slice a k c ∧ (k = 0 ∨ ∃ g, a = some ⟨g, 0, none⟩ ∧ B ≤ g ∧ g < w.heap.size ∧ ∀ j, j < k → w.cell? ⟨g, j, none⟩ = us[j]?) := by
  obtain ⟨hl, ⟨e, e0⟩ | ⟨g, c, cur, e, hb, hh, r⟩⟩ := h.1
  · subst e0; exact ⟨_, _, e, .inl rfl⟩
  · subst e
    exact ⟨_, _, rfl, .inr ⟨g, rfl, hb, (Array.getElem?_eq_some_iff.1 hh).1, fun j hj => World.ownsRow.cellAt h.1 j (by omega)⟩⟩

theorem infoRow : (Try.prog.info? 22).map (fun i => (i.zero, i.size, i.bytes)) = some (some (.slice none 0 0), 1, 24) := by kernel_rfl
/-- append of one partition to the rounds. -/
theorem wp_appR {o : Oper} {a : Act} {w : World} {K : Act → World → Prop} {Q : Exit → Act → World → Prop} (s x : Operand)
    (ho : o.op = .call { callee := .builtin .append, args := #[s, x], argTypes := #[129, 129] })
    (B : Nat) (v : Value) (n : Nat) (xs : List Value) (hs : a.eval s = v) (hown : w.ownsRow B 22 1 v n xs)
    (ad : Addr) (c : Nat) (z : Value) (hz1' : z.oneCell' = true) (hx : a.eval x = .slice (some ad) 1 c) (hz : w.cell? ad = some z) (hn : n ≤ 1048576) (hB : B ≤ w.heap.size)
    (h : ∀ v' w', w'.ownsRow B 22 1 v' (n + 1) (xs ++ [z]) → w.grownBy w' v.ownBlock → K (a.put o.dst v') w') : o.wp Try.prog a w K Q := by
  obtain ⟨i0, hi, hz0, hz1, hz2⟩ := info_parts infoRow
  refine wp_append_own w s x 129 ho B 22 i0 (.slice none 0 0) 1 24 Try.underlying129 hi hz0 hz1 hz2 rfl (by decide) v n xs hs hown ad 1 c [z] hx rfl ?_ ?_ (by unfold maxLen; omega) (by omega) hB (fun v' w' h1 h2 _ => h v' w' h1 h2)
  · intro j u hu
    match j, hu with
    | 0, hu => simp at hu; subst hu; simpa [Addr.add] using hz
  · intro u hu
    simp at hu; subst hu; exact hz1'
theorem step_appR {ops : Array Oper} {o : Oper} {a : Act} {w : World} {K : Act → World → Prop} {Q : Exit → Act → World → Prop} {E : Prop} (hgd : o.guard = none) (s x : Operand)
    (ho : o.op = .call { callee := .builtin .append, args := #[s, x], argTypes := #[129, 129] })
    (B : Nat) (v : Value) (n : Nat) (xs : List Value) (hs : a.eval s = v) (hown : w.ownsRow B 22 1 v n xs)
    (ad : Addr) (c : Nat) (z : Value) (hz1' : z.oneCell' = true) (hx : a.eval x = .slice (some ad) 1 c) (hz : w.cell? ad = some z) (hn : n ≤ 1048576) (hB : B ≤ w.heap.size)
    (h : ∀ v' w', w'.ownsRow B 22 1 v' (n + 1) (xs ++ [z]) → w.grownBy w' v.ownBlock → K (a.put o.dst v') w') :
    if Region.wanted o (yielded ops a.tmps) = true then Oper.wp Try.prog o a w K Q else E := by
  have hw : Region.wanted o (yielded ops a.tmps) = true := by simp [Region.wanted, hgd]
  rw [if_pos hw]
  exact wp_appR s x ho B v n xs hs hown ad c z hz1' hx hz hn hB h
theorem list_appR {ops : Array Oper} {rest : List Oper} {o : Oper} {a : Act} {w : World} {Q : Exit → Act → World → Prop} (hgd : o.guard = none) (s x : Operand)
    (ho : o.op = .call { callee := .builtin .append, args := #[s, x], argTypes := #[129, 129] })
    (B : Nat) (v : Value) (n : Nat) (xs : List Value) (hs : a.eval s = v) (hown : w.ownsRow B 22 1 v n xs)
    (ad : Addr) (c : Nat) (z : Value) (hz1' : z.oneCell' = true) (hx : a.eval x = .slice (some ad) 1 c) (hz : w.cell? ad = some z) (hn : n ≤ 1048576) (hB : B ≤ w.heap.size)
    (h : ∀ v' w', w'.ownsRow B 22 1 v' (n + 1) (xs ++ [z]) → w.grownBy w' v.ownBlock → wpList Try.prog ops Q rest (a.put o.dst v') w') : wpList Try.prog ops Q (o :: rest) a w :=
  wpList_plain hgd fun _ hK => wp_appR s x ho B v n xs hs hown ad c z hz1' hx hz hn hB fun v' w' h1 h2 => hK _ _ (h v' w' h1 h2)
theorem Rl.app {w w' : World} {B k : Nat} {v v' : Value} {us : List Value} {cs : Nat → List Int} {a : Option Addr} {c : Nat} (h : Rl w B v us cs k) (ho : Own w B (.slice a (cs k).length c) (cs k)) (hr : w'.ownsRow B 22 1 v' (k + 1) (us ++ [.slice a (cs k).length c])) (hg : w.grownBy w' v.ownBlock) : Rl w' B v' (us ++ [.slice a (cs k).length c]) cs (k + 1) := by
  have hl : us.length = k := by have := h.1.1; omega
  refine ⟨hr, fun j hj => ?_⟩
  by_cases e : j < k
  · obtain ⟨a', c', e', ho'⟩ := h.2 j e
    exact ⟨a', c', by rw [List.getElem?_append_left (by omega)]; exact e', World.ownsRow.kept ho' hg (row_ne_row ho' h.1 (by decide))⟩
  · obtain rfl : j = k := by omega
    exact ⟨a, c, by rw [List.getElem?_append_right (by omega), hl, Nat.sub_self]; rfl, World.ownsRow.kept ho hg (row_ne_row ho h.1 (by decide))⟩

end Go.Proofs.Ytomldealpmohhaa
