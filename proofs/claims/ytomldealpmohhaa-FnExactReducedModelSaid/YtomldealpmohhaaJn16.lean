/- 4 texts in one: Tr, TrM, PreM, SiM. -/
import Derived.Test.YtomldealpmohhaaJn12
import Derived.Test.YtomldealpmohhaaJn02
import Derived.Test.YtomldealpmohhaaJn14
import Derived.Test.YtomldealpmohhaaJn07
import Derived.Test.YtomldealpmohhaaJn04
/- The truth set of a formula in a model, and what the model answers for it. Conditions: those in the theorems. -/
namespace Go.Proofs.Ytomldealpmohhaa
open Go.RowKit

def Fm.tr (xs ys : List Int) : Fm → Int
  | .va s => nth ys s.toNat
  | .fa => 0
  | .un k a => if k = 5 then boxTo xs (a.tr xs ys) xs.length else bits .andNot .i64 (full xs.length) (boxTo xs (bits .andNot .i64 (full xs.length) (a.tr xs ys)) xs.length)
  | .bi k a b => if k = 2 then bits .and .i64 (a.tr xs ys) (b.tr xs ys) else if k = 3 then bits .or .i64 (a.tr xs ys) (b.tr xs ys) else bits .or .i64 (bits .andNot .i64 (full xs.length) (a.tr xs ys)) (b.tr xs ys)

theorem AtF.drw {w : World} {b off len cap : Nat} {f : Fm} (h : AtF w b off len cap f) : AtF w.drew b off len cap f := h

/-- What l06Truth does at a formula. -/
def TrC (f : Fm) : Prop := ∀ (n : Int) (xs ys : List Int) (a : Option Addr) (cap : Nat) (a' : Option Addr) (cap' : Nat) (b off len cp : Nat) (w : World), len ≤ 1048576 → Mo w n a a' xs ys → AtF w b off len cp f →
    Calls Try.prog 46 #[.agg #[.int .i64 n, .slice a xs.length cap, .slice a' ys.length cap'], .slice (some ⟨b, off, none⟩) len cp] w fun e w' => e = .returned (.int .i64 (f.tr xs ys)) ∧ Below w.heap.size w w'

set_option maxHeartbeats 1000000 in
theorem tr_va (s : Int) (hf : (Fm.va s).ok) : TrC (.va s) := by
  intro n xs ys a cap a' cap' b off len cp w hl hm h
  obtain ⟨W, hW, hb0, hx, hWs⟩ := boxM (w := w) n a xs.length cap a' ys.length cap' 34
  have HB := Lib.hid hb0
  have X := Lib.hid hx
  have M := Lib.hid (hm.keep hb0)
  have HF := Lib.hid (h.keep hb0 (Nat.le_refl _))
  have HW := Lib.hid hW
  obtain ⟨hb, c1, c2⟩ := HF.out.head
  have h0 : 0 < len := by rw [h.len]; exact Fm.sz_pos _
  have h1 : 0 ≤ s := hf.1
  have h2 := hf.2
  obtain ⟨hn, h8, -, h6, -, hy⟩ := M.out
  have hn0 : 0 ≤ n := by omega
  have hn30 : n ≤ 30 := by omega
  obtain ⟨s', rfl⟩ := Int.eq_ofNat_of_zero_le h1
  have hlt : s' < ys.length := by omega
  obtain ⟨b', off', rfl, hb', hc'⟩ := hy.2.resolve_left (by omega)
  have hcell := hc' s' hlt
  obtain ⟨lt, x0, x1, x2⟩ := X.out
  replace c1 : W.cell? ⟨b, off, none⟩ = some (.int .i64 0) := c1
  replace c2 : W.cell? ⟨b, off + 1, none⟩ = some (.int .i64 (s' : Int)) := c2
  have E := Lib.hid (show nth ys s' = (Fm.va (s' : Int)).tr xs ys by rw [Fm.tr, Int.toNat_natCast])
  clear h hf hm hb0 hx hW hc' hn h8 h6
  go_enter Try.func46, Try.ntmps46
  go_wp2_with fail
  rw [← HW.out]
  refine (l01Full_any _ _ hn0 hn30).mono ?_
  rintro e w' ⟨rfl, rfl⟩
  go_wp2
  go_region
  all_goals
    go_wp2
    go_ret
    exact ⟨ret_int E.out, HB.out.drew⟩

theorem tr_fa : TrC .fa := by
  intro n xs ys a cap a' cap' b off len cp w hl hm h
  obtain ⟨W, hW, hb0, hx, hWs⟩ := boxM (w := w) n a xs.length cap a' ys.length cap' 34
  have HB := Lib.hid hb0
  have HF := Lib.hid (h.keep hb0 (Nat.le_refl _))
  have HW := Lib.hid hW
  obtain ⟨hb, c1, -⟩ := HF.out.head
  have h0 : 0 < len := by rw [h.len]; exact Fm.sz_pos _
  obtain ⟨hn, h8, -⟩ := hm
  have hn0 : 0 ≤ n := by omega
  have hn30 : n ≤ 30 := by omega
  obtain ⟨lt, x0, x1, x2⟩ := hx
  replace c1 : W.cell? ⟨b, off, none⟩ = some (.int .i64 1) := c1
  clear h hb0 hW hn h8
  go_enter Try.func46, Try.ntmps46
  go_wp2_with fail
  rw [← HW.out]
  refine (l01Full_any _ _ hn0 hn30).mono ?_
  rintro e w' ⟨rfl, rfl⟩
  go_wp2
  go_ret
  exact ⟨rfl, HB.out⟩

set_option maxHeartbeats 4000000 in
set_option maxRecDepth 100000 in
theorem tr_un (k : Int) (g : Fm) (hk : k = 5 ∨ k = 6) (ih : TrC g) : TrC (.un k g) := by
  intro n xs ys a cap a' cap' b off len cp w hl hm h
  obtain ⟨W, hW, hb0, hx, hWs⟩ := boxM (w := w) n a xs.length cap a' ys.length cap' 34
  have HB := Lib.hid hb0
  have X := Lib.hid hx
  have M := Lib.hid (hm.keep hb0)
  have HF := Lib.hid (h.keep hb0 (Nat.le_refl _))
  have HW := Lib.hid hW
  obtain ⟨hb, c1, -⟩ := HF.out.head
  have hsz : (Fm.un k g).sz = 1 + g.sz := rfl
  have hgp := g.sz_pos
  have hlen := h.len
  have h0 : 1 < len := by omega
  have h1 := h.2.1
  have h2 := h.2.2
  unfold maxLen at h2
  obtain ⟨hn, h8, -⟩ := hm
  have hn0 : 0 ≤ n := by omega
  have hn30 : n ≤ 30 := by omega
  have HN := Lib.hid hn
  obtain ⟨lt, x0, x1, x2⟩ := X.out
  replace c1 : W.cell? ⟨b, off, none⟩ = some (.int .i64 k) := c1
  have G := Lib.hid (HF.out.under)
  obtain ⟨y, hy⟩ : ∃ y, y = g.tr xs ys := ⟨_, rfl⟩
  have I := Lib.hid (show ∀ w1 : World, Below W.heap.size W w1 → Calls Try.prog 46 #[.agg #[.int .i64 n, .slice a xs.length cap, .slice a' ys.length cap'], .slice (some ⟨b, off + 2, none⟩) (len - 1) (cp - 1)] w1 fun e w' => e = .returned (.int .i64 y) ∧ Below w1.heap.size w1 w' from
    fun w1 hw => by rw [hy]; exact ih n xs ys a cap a' cap' b (off + 2) (len - 1) (cp - 1) w1 (by omega) (M.out.keep hw) (G.out.keep hw (Nat.le_refl _)))
  have BX := Lib.hid (show ∀ (w1 : World) (z : Int), Below W.heap.size W w1 → Calls Try.prog 91 #[.slice a xs.length cap, .int .i64 z] w1 (SomeDrew w1 fun e => e = .returned (.int .i64 (boxTo xs z xs.length))) from
    fun w1 z hw => l01Box_any xs z a _ cap w1 (by omega) (M.out.keep hw).2.2.2.2.1)
  have E5 := Lib.hid (show k = 5 → boxTo xs y xs.length = (Fm.un k g).tr xs ys by intro e; rw [Fm.tr, if_pos e, hy])
  have E6 := Lib.hid (show k = 6 → bits .andNot .i64 (full n) (boxTo xs (bits .andNot .i64 (full n) y) xs.length) = (Fm.un k g).tr xs ys by intro e; rw [Fm.tr, if_neg (by omega), hy, hn])
  clear h hb0 hx hW hn h8 hsz hgp hlen hy ih
  have hlz : ((1 : Int) ≤ (len : Int)) := by omega
  have hcp : ¬ cp = 1 := by omega
  rcases hk with rfl | rfl
  · go_enter Try.func46, Try.ntmps46
    go_wp2_with fail
    rw [← HW.out]
    refine (l01Full_any _ _ hn0 hn30).mono ?_
    rintro e w' ⟨rfl, rfl⟩
    go_wp2
    go_region_held3 (fun w' => w'.cell? ⟨w.heap.size, 0, none⟩ = some (.int .i64 n) ∧ w'.cell? ⟨w.heap.size, 1, none⟩ = some (.slice a xs.length cap) ∧ w'.cell? ⟨w.heap.size, 2, none⟩ = some (.slice a' ys.length cap')) (first | exact ⟨z0, z1, z2⟩ | exact ⟨y0, y1, y2⟩ | exact ⟨x0, x1, x2⟩ | go_keep) (first | (go_at_call 46; refine (I.out _ (Below.refl _ _).drew).mono ?_; rintro e w1 ⟨rfl, hb⟩; have T1 := Lib.hid (show Below W.heap.size W w1 from below_of_drew hb); clear hb; obtain ⟨ly, y0, y1, y2⟩ := X.out.keep T1.out) | (go_at_call 91; refine (BX.out _ _ T1.out).mono ?_; rintro e w2 ⟨rfl, q, rfl⟩; have T2 := Lib.hid (show Below W.heap.size W (w1.drewN q) from below_drewN T1.out q); obtain ⟨lz, z0, z1, z2⟩ := X.out.keep T2.out))
    all_goals
      go_wp2
      go_ret
      exact ⟨ret_int (E5.out (by first | rfl | trivial)), HB.out.trans (T2.out.mono HB.out.size)⟩
  · go_enter Try.func46, Try.ntmps46
    go_wp2_with fail
    rw [← HW.out]
    refine (l01Full_any _ _ hn0 hn30).mono ?_
    rintro e w' ⟨rfl, rfl⟩
    go_wp2
    go_region_held3 (fun w' => w'.cell? ⟨w.heap.size, 0, none⟩ = some (.int .i64 n) ∧ w'.cell? ⟨w.heap.size, 1, none⟩ = some (.slice a xs.length cap) ∧ w'.cell? ⟨w.heap.size, 2, none⟩ = some (.slice a' ys.length cap')) (first | exact ⟨z0, z1, z2⟩ | exact ⟨y0, y1, y2⟩ | exact ⟨x0, x1, x2⟩ | go_keep) (first | (go_at_call 46; refine (I.out _ (Below.refl _ _).drew).mono ?_; rintro e w1 ⟨rfl, hb⟩; have T1 := Lib.hid (show Below W.heap.size W w1 from below_of_drew hb); clear hb; obtain ⟨ly, y0, y1, y2⟩ := X.out.keep T1.out) | (go_at_call 91; refine (BX.out _ _ T1.out).mono ?_; rintro e w2 ⟨rfl, q, rfl⟩; have T2 := Lib.hid (show Below W.heap.size W (w1.drewN q) from below_drewN T1.out q); obtain ⟨lz, z0, z1, z2⟩ := X.out.keep T2.out))
    all_goals
      go_wp2
      go_ret
      exact ⟨ret_int (E6.out (by first | rfl | trivial)), HB.out.trans (T2.out.mono HB.out.size)⟩

def trB (n k : Int) (x y : Int) : Int := if k = 2 then bits .and .i64 x y else if k = 3 then bits .or .i64 x y else bits .or .i64 (bits .andNot .i64 (full n) x) y

end Go.Proofs.Ytomldealpmohhaa

/- Facts of masks: and, and not; the truth set of a formula in a model is a set of its worlds. Conditions: those in the theorems. -/
namespace Go.Proofs.Ytomldealpmohhaa
open Go.RowKit

/-- The truth set is a set of worlds. -/
theorem tr_in {xs ys : List Int} (hn : xs.length ≤ 30) (hr : Rel xs.length (nth xs)) (hy : ∀ i, InMk xs.length (nth ys i)) (f : Fm) : InMk xs.length (f.tr xs ys) := by
  have hF := InMk.full hn
  induction f with
  | va s => exact hy _
  | fa => exact InMk.zero _
  | un k a ih =>
    rw [Fm.tr]
    split
    · exact (boxTo_T hn hr (ih.bd hn) _ (Nat.le_refl _)).1
    · exact hF.not hn (boxTo_T hn hr ((hF.not hn ih).bd hn) _ (Nat.le_refl _)).1
  | bi k a b iha ihb =>
    rw [Fm.tr]
    split
    · exact iha.an hn ihb
    · split
      · exact iha.or hn ihb
      · exact (hF.not hn iha).or hn ihb
theorem full_iff {n : Nat} (hn : n ≤ 30) {x : Int} (hx : InMk n x) : (x == full n) = (bits .andNot .i64 (full n) x == 0) := by
  rw [Bool.eq_iff_iff, beq_iff_eq, beq_iff_eq, andNot_zero hn (InMk.full hn) hx]
  constructor
  · rintro rfl i h; exact h
  · intro h
    refine T_ext hx (InMk.full hn) fun i => ?_
    cases hi : T (full n) i
    · rw [T_full hn] at hi
      exact T_high hx (by simpa using hi)
    · exact h i hi

end Go.Proofs.Ytomldealpmohhaa

/- Facts of the preimage: its members; a box of what is not, not. Plain mathematics. -/
namespace Go.Proofs.Ytomldealpmohhaa
open Go.RowKit

theorem and_zero {n : Nat} (hn : n ≤ 30) {x y : Int} (hx : InMk n x) (hy : InMk n y) : (bits .and .i64 x y == 0) = true ↔ ∀ i, T x i = true → T y i = false := by
  rw [beq_iff_eq]
  constructor
  · intro h i hi
    have := T_an hn hx hy i
    rw [h, T_zero, hi, Bool.true_and] at this
    exact this.symm
  · intro h
    refine T_ext (hx.an hn hy) (InMk.zero n) fun i => ?_
    rw [T_an hn hx hy, T_zero]
    cases hi : T x i
    · rfl
    · rw [h i hi]; rfl

theorem piTo_T {n : Nat} (hn : n ≤ 30) {xs : List Int} (hr : Rel n (nth xs)) {m : Int} (hm : InMk n m) {p : Nat} (hp : p ≤ 30) (k : Nat) (hk : k ≤ p) :
    InMk p (piTo xs m k) ∧ ∀ i, T (piTo xs m k) i = true ↔ i < k ∧ ∃ j, T (nth xs i) j = true ∧ T m j = true := by
  induction k with
  | zero => exact ⟨InMk.zero p, fun i => by simp [piTo, T_zero]⟩
  | succ k ih =>
    obtain ⟨h1, h2⟩ := ih (by omega)
    have hz := and_zero hn (hr k) hm
    rw [piTo]
    cases hb : (bits .and .i64 (nth xs k) m == 0)
    · rw [if_neg (by simp)]
      have hex : ∃ j, T (nth xs k) j = true ∧ T m j = true := by
        refine Classical.byContradiction fun hh => ?_
        rw [hz.2 (fun i hi => by
          cases hmi : T m i
          · rfl
          · exact absurd ⟨i, hi, hmi⟩ hh)] at hb
        cases hb
      have ho := InMk.one hp (show k < p by omega)
      refine ⟨h1.or hp ho, fun i => ?_⟩
      rw [T_or hp h1 ho, Bool.or_eq_true, h2 i, T_one (by omega), decide_eq_true_eq]
      constructor
      · rintro (⟨a, b⟩ | h)
        · exact ⟨by omega, b⟩
        · subst h; exact ⟨by omega, hex⟩
      · rintro ⟨a, b⟩
        rcases Nat.lt_succ_iff_lt_or_eq.1 a with h | h
        · exact .inl ⟨h, b⟩
        · exact .inr h.symm
    · rw [if_pos rfl]
      refine ⟨h1, fun i => (h2 i).trans ⟨fun ⟨a, b⟩ => ⟨by omega, b⟩, fun ⟨a, b⟩ => ⟨?_, b⟩⟩⟩
      rcases Nat.lt_succ_iff_lt_or_eq.1 a with h | h
      · exact h
      · subst h
        obtain ⟨j, h3, h4⟩ := b
        rw [hz.1 hb j h3] at h4
        cases h4

/-- The diamond by the box. -/
theorem pi_box {xs : List Int} (hn : xs.length ≤ 30) (hr : Rel xs.length (nth xs)) {m : Int} (hm : InMk xs.length m) : piTo xs m xs.length = bits .andNot .i64 (full xs.length) (boxTo xs (bits .andNot .i64 (full xs.length) m) xs.length) := by
  have hF := InMk.full hn
  have hN := hF.not hn hm
  obtain ⟨p1, p2⟩ := piTo_T hn hr hm hn xs.length (Nat.le_refl _)
  obtain ⟨b1, b2⟩ := boxTo_T hn hr (hN.bd hn) xs.length (Nat.le_refl _)
  refine T_ext p1 (hF.not hn b1) fun i => ?_
  rw [T_not hn hF b1, T_full hn, Bool.eq_iff_iff, p2 i, Bool.and_eq_true, decide_eq_true_eq, Bool.not_eq_true', Bool.eq_false_iff, ne_eq, b2 i]
  constructor
  · rintro ⟨h, j, h1, h2⟩
    refine ⟨h, fun hh => ?_⟩
    have := hh.2 j h1
    rw [T_not hn hF hm, h2] at this
    simp at this
  · rintro ⟨h, hh⟩
    refine ⟨h, Classical.byContradiction fun hx => hh ⟨h, fun j hj => ?_⟩⟩
    rw [T_not hn hF hm, T_full hn]
    have : T m j = false := by
      cases hmj : T m j
      · rfl
      · exact absurd ⟨j, hj, hmj⟩ hx
    rw [this]
    simp
    exact T_lt (hr i) hj

end Go.Proofs.Ytomldealpmohhaa

/- Simulations and bisimulations: what the program keeps of a link, what the model asks of it. Plain mathematics. -/
namespace Go.Proofs.Ytomldealpmohhaa
open Go.RowKit

/-! What the program keeps. -/
def kvT (ys zs : List Int) (x : Nat) (s : Int) : Nat → Int
  | 0 => s
  | v + 1 => if bitB (nth ys v) x then bits .and .i64 (kvT ys zs x s v) (nth zs v) else kvT ys zs x s v
def knT (xs ps ls : List Int) (x : Nat) (s : Int) : Nat → Int
  | 0 => s
  | j + 1 => if bitB (nth xs x) j then bits .and .i64 (knT xs ps ls x s j) (piTo ps (nth ls j) ps.length) else knT xs ps ls x s j
def simV (xs ys ps zs ls : List Int) (x : Nat) : Int := knT xs ps ls x (kvT ys zs x (nth ls x) ys.length) ls.length
def simL (xs ys ps zs ls : List Int) : List Int := tab ls.length (simV xs ys ps zs ls)

/-! What the model asks. -/
def foB (ls : List Int) (seen others : Int) : Nat → Bool
  | 0 => true
  | j + 1 => foB ls seen others j && !(bitB seen j && (bits .and .i64 (nth ls j) others == 0))
def gdB (ys zs : List Int) (x y : Nat) (g : Bool) : Nat → Bool
  | 0 => g
  | v + 1 => gdB ys zs x y g v && (!bitB (nth ys v) x || bitB (nth zs v) y)
def beB (xs ys ps zs ls : List Int) (x y : Nat) : Bool := gdB ys zs x y (foB ls (nth xs x) (nth ps y) ls.length) ys.length
def mkT (f : Nat → Bool) : Nat → Int
  | 0 => 0
  | y + 1 => if f y then bits .or .i64 (mkT f y) (one y) else mkT f y
def belV (xs ys ps zs ls : List Int) (x : Nat) : Int := mkT (beB xs ys ps zs ls x) ps.length
def insB (us vs : List Int) : Nat → Bool
  | 0 => true
  | k + 1 => insB us vs k && (bits .andNot .i64 (nth us k) (nth vs k) == 0)

/-- Two models and a link between them. -/
structure Lk (xs ys ps zs ls : List Int) : Prop where
  x8 : xs.length ≤ 8
  p8 : ps.length ≤ 8
  xr : Rel xs.length (nth xs)
  pr : Rel ps.length (nth ps)
  yr : ∀ i, InMk xs.length (nth ys i)
  zr : ∀ i, InMk ps.length (nth zs i)
  yz : zs.length = ys.length
  ll : ls.length = xs.length
  lr : ∀ i, InMk ps.length (nth ls i)

theorem mkT_T {f : Nat → Bool} {n : Nat} (hn : n ≤ 30) (k : Nat) (hk : k ≤ n) : InMk n (mkT f k) ∧ ∀ i, T (mkT f k) i = (decide (i < k) && f i) := by
  induction k with
  | zero => exact ⟨InMk.zero n, fun i => by simp [mkT, T_zero]⟩
  | succ k ih =>
    obtain ⟨h1, h2⟩ := ih (by omega)
    have ho := InMk.one hn (show k < n by omega)
    rw [mkT]
    cases hb : f k
    · rw [if_neg (by simp)]
      refine ⟨h1, fun i => ?_⟩
      rw [h2 i]
      by_cases e : i = k
      · subst e; rw [hb]; simp
      · have : decide (i < k + 1) = decide (i < k) := by rw [decide_eq_decide]; omega
        rw [this]
    · rw [if_pos rfl]
      refine ⟨h1.or hn ho, fun i => ?_⟩
      rw [T_or hn h1 ho, h2 i, T_one (by omega)]
      by_cases e : i = k
      · subst e; rw [hb]; simp
      · have : decide (i < k + 1) = decide (i < k) := by rw [decide_eq_decide]; omega
        rw [this]
        simp [show ¬ k = i from fun h => e h.symm]

theorem kvT_T {ys zs : List Int} {n p : Nat} (hn : n ≤ 30) (hp : p ≤ 30) (hy : ∀ i, InMk p (nth ys i)) (hz : ∀ i, InMk n (nth zs i)) (x : Nat) {s : Int} (hs : InMk n s) (k : Nat) :
    InMk n (kvT ys zs x s k) ∧ ∀ i, T (kvT ys zs x s k) i = true ↔ T s i = true ∧ ∀ v, v < k → T (nth ys v) x = true → T (nth zs v) i = true := by
  induction k with
  | zero => exact ⟨hs, fun i => by simp [kvT]⟩
  | succ k ih =>
    obtain ⟨h1, h2⟩ := ih
    rw [kvT, bitB_T ((hy k).bd hp)]
    cases hb : T (nth ys k) x
    · rw [if_neg (by simp)]
      refine ⟨h1, fun i => (h2 i).trans ⟨fun ⟨a, b⟩ => ⟨a, fun v hv ht => ?_⟩, fun ⟨a, b⟩ => ⟨a, fun v hv => b v (by omega)⟩⟩⟩
      rcases Nat.lt_succ_iff_lt_or_eq.1 hv with h | h
      · exact b v h ht
      · subst h; rw [hb] at ht; cases ht
    · rw [if_pos rfl]
      refine ⟨h1.an hn (hz k), fun i => ?_⟩
      rw [T_an hn h1 (hz k), Bool.and_eq_true, h2 i]
      constructor
      · rintro ⟨⟨a, b⟩, c⟩
        refine ⟨a, fun v hv ht => ?_⟩
        rcases Nat.lt_succ_iff_lt_or_eq.1 hv with h | h
        · exact b v h ht
        · subst h; exact c
      · rintro ⟨a, b⟩
        exact ⟨⟨a, fun v hv => b v (by omega)⟩, b k (by omega) hb⟩

theorem knT_T {xs ps ls : List Int} {p : Nat} (hn : ps.length ≤ 30) (hp : p ≤ 30) (x : Nat) (hx : InMk p (nth xs x)) (hr : Rel ps.length (nth ps)) (hl : ∀ i, InMk ps.length (nth ls i)) {s : Int} (hs : InMk ps.length s) (k : Nat) :
    InMk ps.length (knT xs ps ls x s k) ∧ ∀ i, T (knT xs ps ls x s k) i = true ↔ T s i = true ∧ ∀ j, j < k → T (nth xs x) j = true → i < ps.length ∧ ∃ y, T (nth ps i) y = true ∧ T (nth ls j) y = true := by
  induction k with
  | zero => exact ⟨hs, fun i => by simp [knT]⟩
  | succ k ih =>
    obtain ⟨h1, h2⟩ := ih
    obtain ⟨p1, p2⟩ := piTo_T hn hr (hl k) hn ps.length (Nat.le_refl _)
    rw [knT, bitB_T (hx.bd hp)]
    cases hb : T (nth xs x) k
    · rw [if_neg (by simp)]
      refine ⟨h1, fun i => (h2 i).trans ⟨fun ⟨a, b⟩ => ⟨a, fun v hv ht => ?_⟩, fun ⟨a, b⟩ => ⟨a, fun v hv => b v (by omega)⟩⟩⟩
      rcases Nat.lt_succ_iff_lt_or_eq.1 hv with h | h
      · exact b v h ht
      · subst h; rw [hb] at ht; cases ht
    · rw [if_pos rfl]
      refine ⟨h1.an hn p1, fun i => ?_⟩
      rw [T_an hn h1 p1, Bool.and_eq_true, h2 i, p2 i]
      constructor
      · rintro ⟨⟨a, b⟩, c⟩
        refine ⟨a, fun v hv ht => ?_⟩
        rcases Nat.lt_succ_iff_lt_or_eq.1 hv with h | h
        · exact b v h ht
        · subst h; exact c
      · rintro ⟨a, b⟩
        exact ⟨⟨a, fun v hv => b v (by omega)⟩, b k (by omega) hb⟩

theorem foB_T {ls : List Int} {seen others : Int} {p q : Nat} (hq : q ≤ 30) (hp : p ≤ 30) (hl : ∀ i, InMk q (nth ls i)) (ho : InMk q others) (hs : InMk p seen) (k : Nat) :
    foB ls seen others k = true ↔ ∀ j, j < k → T seen j = true → ∃ y, T others y = true ∧ T (nth ls j) y = true := by
  induction k with
  | zero => simp [foB]
  | succ k ih =>
    rw [foB, Bool.and_eq_true, ih, bitB_T (hs.bd hp), Bool.not_eq_true', Bool.and_eq_false_imp]
    have hz := and_zero hq (hl k) ho
    constructor
    · rintro ⟨a, b⟩ j hj ht
      rcases Nat.lt_succ_iff_lt_or_eq.1 hj with h | h
      · exact a j h ht
      · subst h
        refine Classical.byContradiction fun hh => ?_
        have := b ht
        rw [hz.2 (fun i hi => by
          cases hm : T others i
          · rfl
          · exact absurd ⟨i, hm, hi⟩ hh)] at this
        cases this
    · intro h
      refine ⟨fun j hj => h j (by omega), fun ht => ?_⟩
      obtain ⟨y, h1, h2⟩ := h k (by omega) ht
      rw [Bool.eq_false_iff]
      intro hh
      rw [hz.1 hh y h2] at h1
      cases h1

theorem gdB_T {ys zs : List Int} {p q : Nat} (hp : p ≤ 30) (hq : q ≤ 30) (hy : ∀ i, InMk p (nth ys i)) (hz : ∀ i, InMk q (nth zs i)) (x y : Nat) (g : Bool) (k : Nat) :
    gdB ys zs x y g k = true ↔ g = true ∧ ∀ v, v < k → T (nth ys v) x = true → T (nth zs v) y = true := by
  induction k with
  | zero => simp [gdB]
  | succ k ih =>
    rw [gdB, Bool.and_eq_true, ih, bitB_T ((hy k).bd hp), bitB_T ((hz k).bd hq)]
    constructor
    · rintro ⟨⟨a, b⟩, c⟩
      refine ⟨a, fun v hv ht => ?_⟩
      rcases Nat.lt_succ_iff_lt_or_eq.1 hv with h | h
      · exact b v h ht
      · subst h; rw [ht] at c; simpa using c
    · rintro ⟨a, b⟩
      refine ⟨⟨a, fun v hv => b v (by omega)⟩, ?_⟩
      cases ht : T (nth ys k) x
      · rfl
      · rw [b k (by omega) ht]; rfl

theorem insB_iff {us vs : List Int} {n : Nat} (hn : n ≤ 30) (ha : ∀ i, InMk n (nth us i)) (hb : ∀ i, InMk n (nth vs i)) (k : Nat) :
    insB us vs k = true ↔ ∀ i, i < k → ∀ y, T (nth us i) y = true → T (nth vs i) y = true := by
  induction k with
  | zero => simp [insB]
  | succ k ih =>
    rw [insB, Bool.and_eq_true, ih, beq_iff_eq, andNot_zero hn (ha k) (hb k)]
    constructor
    · rintro ⟨a, b⟩ i hi
      rcases Nat.lt_succ_iff_lt_or_eq.1 hi with h | h
      · exact a i h
      · subst h; exact b
    · exact fun h => ⟨fun i hi => h i (by omega), h k (by omega)⟩

theorem tab_in {n q : Nat} {F : Nat → Int} (h : ∀ i, i < n → InMk q (F i)) (i : Nat) : InMk q (nth (tab n F) i) := by
  by_cases hi : i < n
  · rw [tab_nth n F i hi]; exact h i hi
  · rw [nth_high (by rw [tab_len]; omega)]; exact InMk.zero _
theorem nth_ext {xs ys : List Int} (hl : xs.length = ys.length) (h : ∀ i, i < xs.length → nth xs i = nth ys i) : xs = ys := by
  apply List.ext_getElem hl
  intro i h1 h2
  have := h i h1
  unfold nth at this
  rw [List.getD_eq_getElem?_getD, List.getD_eq_getElem?_getD, List.getElem?_eq_getElem h1, List.getElem?_eq_getElem h2] at this
  exact this

section
variable {xs ys ps zs ls : List Int}
theorem Lk.sim (h : Lk xs ys ps zs ls) (x : Nat) : InMk ps.length (simV xs ys ps zs ls x) ∧ ∀ i, T (simV xs ys ps zs ls x) i = true ↔ T (nth ls x) i = true ∧ T (belV xs ys ps zs ls x) i = true := by
  have hp := Nat.le_trans h.p8 (show 8 ≤ 30 by decide)
  have hx := Nat.le_trans h.x8 (show 8 ≤ 30 by decide)
  obtain ⟨a1, a2⟩ := kvT_T hp hx h.yr h.zr x (h.lr x) ys.length
  obtain ⟨b1, b2⟩ := knT_T hp hx x (h.xr x) h.pr h.lr a1 ls.length
  refine ⟨b1, fun i => ?_⟩
  rw [simV, b2 i, a2 i, belV, (mkT_T hp ps.length (Nat.le_refl _)).2 i, Bool.and_eq_true, decide_eq_true_eq, beB, gdB_T hx hp h.yr h.zr, foB_T hp hx h.lr (h.pr i) (h.xr x)]
  constructor
  · rintro ⟨⟨a, b⟩, c⟩
    exact ⟨a, T_lt (h.lr x) a, fun j hj ht => (c j hj ht).2, b⟩
  · rintro ⟨a, b, c, d⟩
    exact ⟨⟨a, d⟩, fun j hj ht => ⟨b, c j hj ht⟩⟩
theorem Lk.bel_in (h : Lk xs ys ps zs ls) (x : Nat) : InMk ps.length (belV xs ys ps zs ls x) := (mkT_T (Nat.le_trans h.p8 (by decide)) ps.length (Nat.le_refl _)).1

/-- The program's test and the model's are one. -/
theorem Lk.test (h : Lk xs ys ps zs ls) : decide (simL xs ys ps zs ls = ls) = insB ls (tab ls.length (belV xs ys ps zs ls)) ls.length := by
  have hp := Nat.le_trans h.p8 (show 8 ≤ 30 by decide)
  rw [Bool.eq_iff_iff, decide_eq_true_eq, insB_iff hp h.lr (tab_in fun i _ => h.bel_in i)]
  constructor
  · intro e i hi y hy
    rw [tab_nth _ _ _ hi]
    have : nth (simL xs ys ps zs ls) i = nth ls i := by rw [e]
    rw [simL, tab_nth _ _ _ hi] at this
    rw [← this] at hy
    exact (((h.sim i).2 y).1 hy).2
  · intro hh
    refine nth_ext (by rw [simL, tab_len]) fun i hi => ?_
    rw [simL, tab_len] at hi
    rw [simL, tab_nth _ _ _ hi]
    refine T_ext (h.sim i).1 (h.lr i) fun y => ?_
    rw [Bool.eq_iff_iff, (h.sim i).2 y]
    refine ⟨fun q => q.1, fun q => ⟨q, ?_⟩⟩
    have := hh i hi y q
    rwa [tab_nth _ _ _ hi] at this
/-- .. and what it keeps is what the model keeps. -/
theorem Lk.kept (h : Lk xs ys ps zs ls) (x : Nat) : simV xs ys ps zs ls x = bits .and .i64 (belV xs ys ps zs ls x) (nth ls x) := by
  have hp := Nat.le_trans h.p8 (show 8 ≤ 30 by decide)
  refine T_ext (h.sim x).1 ((h.bel_in x).an hp (h.lr x)) fun y => ?_
  rw [Bool.eq_iff_iff, (h.sim x).2 y, T_an hp (h.bel_in x) (h.lr x), Bool.and_eq_true, And.comm]
end

end Go.Proofs.Ytomldealpmohhaa
