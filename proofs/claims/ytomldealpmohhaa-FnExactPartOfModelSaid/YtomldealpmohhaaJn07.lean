/- 3 texts in one: TrM, PreM, Tr2. -/
import Derived.Test.YtomldealpmohhaaTr
import Derived.Test.YtomldealpmohhaaMsk
import Derived.Test.YtomldealpmohhaaJn04
import Derived.Test.YtomldealpmohhaaRm
import Derived.Test.YtomldealpmohhaaPre
/- Facts of masks: and, and not; the truth set of a formula in a model is a set of its worlds. Conditions: those in the theorems. -/
namespace Go.Proofs.Ytomldealpmohhaa
open Go.RowKit

/-- The truth set is a set of worlds. -/
theorem tr_in {xs ys : List Int} (hn : xs.length ≤ 30) (hr : Rel xs.length (nth xs)) (hy : ∀ i, InMk xs.length (nth ys i)) (f : Fm) : InMk xs.length (f.tr xs ys) := by
  have hF := InMk.full hn
  induction f with
  | va s => exact hy _
  | fa => exact InMk.zero _
  | un k a ih =>
    rw [Fm.tr]
    split
    · exact (boxTo_T hn hr (ih.bd hn) _ (Nat.le_refl _)).1
    · exact hF.not hn (boxTo_T hn hr ((hF.not hn ih).bd hn) _ (Nat.le_refl _)).1
  | bi k a b iha ihb =>
    rw [Fm.tr]
    split
    · exact iha.an hn ihb
    · split
      · exact iha.or hn ihb
      · exact (hF.not hn iha).or hn ihb
theorem full_iff {n : Nat} (hn : n ≤ 30) {x : Int} (hx : InMk n x) : (x == full n) = (bits .andNot .i64 (full n) x == 0) := by
  rw [Bool.eq_iff_iff, beq_iff_eq, beq_iff_eq, andNot_zero hn (InMk.full hn) hx]
  constructor
  · rintro rfl i h; exact h
  · intro h
    refine T_ext hx (InMk.full hn) fun i => ?_
    cases hi : T (full n) i
    · rw [T_full hn] at hi
      exact T_high hx (by simpa using hi)
    · exact h i hi

end Go.Proofs.Ytomldealpmohhaa

/- Facts of the preimage: its members; a box of what is not, not. Plain mathematics. -/
namespace Go.Proofs.Ytomldealpmohhaa
open Go.RowKit

theorem and_zero {n : Nat} (hn : n ≤ 30) {x y : Int} (hx : InMk n x) (hy : InMk n y) : (bits .and .i64 x y == 0) = true ↔ ∀ i, T x i = true → T y i = false := by
  rw [beq_iff_eq]
  constructor
  · intro h i hi
    have := T_an hn hx hy i
    rw [h, T_zero, hi, Bool.true_and] at this
    exact this.symm
  · intro h
    refine T_ext (hx.an hn hy) (InMk.zero n) fun i => ?_
    rw [T_an hn hx hy, T_zero]
    cases hi : T x i
    · rfl
    · rw [h i hi]; rfl

theorem piTo_T {n : Nat} (hn : n ≤ 30) {xs : List Int} (hr : Rel n (nth xs)) {m : Int} (hm : InMk n m) {p : Nat} (hp : p ≤ 30) (k : Nat) (hk : k ≤ p) :
    InMk p (piTo xs m k) ∧ ∀ i, T (piTo xs m k) i = true ↔ i < k ∧ ∃ j, T (nth xs i) j = true ∧ T m j = true := by
  induction k with
  | zero => exact ⟨InMk.zero p, fun i => by simp [piTo, T_zero]⟩
  | succ k ih =>
    obtain ⟨h1, h2⟩ := ih (by omega)
    have hz := and_zero hn (hr k) hm
    rw [piTo]
    cases hb : (bits .and .i64 (nth xs k) m == 0)
    · rw [if_neg (by simp)]
      have hex : ∃ j, T (nth xs k) j = true ∧ T m j = true := by
        refine Classical.byContradiction fun hh => ?_
        rw [hz.2 (fun i hi => by
          cases hmi : T m i
          · rfl
          · exact absurd ⟨i, hi, hmi⟩ hh)] at hb
        cases hb
      have ho := InMk.one hp (show k < p by omega)
      refine ⟨h1.or hp ho, fun i => ?_⟩
      rw [T_or hp h1 ho, Bool.or_eq_true, h2 i, T_one (by omega), decide_eq_true_eq]
      constructor
      · rintro (⟨a, b⟩ | h)
        · exact ⟨by omega, b⟩
        · subst h; exact ⟨by omega, hex⟩
      · rintro ⟨a, b⟩
        rcases Nat.lt_succ_iff_lt_or_eq.1 a with h | h
        · exact .inl ⟨h, b⟩
        · exact .inr h.symm
    · rw [if_pos rfl]
      refine ⟨h1, fun i => (h2 i).trans ⟨fun ⟨a, b⟩ => ⟨by omega, b⟩, fun ⟨a, b⟩ => ⟨?_, b⟩⟩⟩
      rcases Nat.lt_succ_iff_lt_or_eq.1 a with h | h
      · exact h
      · subst h
        obtain ⟨j, h3, h4⟩ := b
        rw [hz.1 hb j h3] at h4
        cases h4

/-- The diamond by the box. -/
theorem pi_box {xs : List Int} (hn : xs.length ≤ 30) (hr : Rel xs.length (nth xs)) {m : Int} (hm : InMk xs.length m) : piTo xs m xs.length = bits .andNot .i64 (full xs.length) (boxTo xs (bits .andNot .i64 (full xs.length) m) xs.length) := by
  have hF := InMk.full hn
  have hN := hF.not hn hm
  obtain ⟨p1, p2⟩ := piTo_T hn hr hm hn xs.length (Nat.le_refl _)
  obtain ⟨b1, b2⟩ := boxTo_T hn hr (hN.bd hn) xs.length (Nat.le_refl _)
  refine T_ext p1 (hF.not hn b1) fun i => ?_
  rw [T_not hn hF b1, T_full hn, Bool.eq_iff_iff, p2 i, Bool.and_eq_true, decide_eq_true_eq, Bool.not_eq_true', Bool.eq_false_iff, ne_eq, b2 i]
  constructor
  · rintro ⟨h, j, h1, h2⟩
    refine ⟨h, fun hh => ?_⟩
    have := hh.2 j h1
    rw [T_not hn hF hm, h2] at this
    simp at this
  · rintro ⟨h, hh⟩
    refine ⟨h, Classical.byContradiction fun hx => hh ⟨h, fun j hj => ?_⟩⟩
    rw [T_not hn hF hm, T_full hn]
    have : T m j = false := by
      cases hmj : T m j
      · rfl
      · exact absurd ⟨j, hj, hmj⟩ hx
    rw [this]
    simp
    exact T_lt (hr i) hj

end Go.Proofs.Ytomldealpmohhaa

/- The truth set of a formula of two parts (kind 2), by the model. Conditions: those in the theorem. -/
namespace Go.Proofs.Ytomldealpmohhaa
open Go.RowKit

set_option maxHeartbeats 4000000 in
set_option maxRecDepth 100000 in
theorem tr_bi2 (g d : Fm) (hg : g.ok) (ihg : TrC g) (ihd : TrC d) : TrC (.bi 2 g d) := by
  intro n xs ys a cap a' cap' b off len cp w hl hm h
  obtain ⟨W, hW, hb0, hx, hWs⟩ := boxM (w := w) n a xs.length cap a' ys.length cap' 34
  have HB := Lib.hid hb0
  have X := Lib.hid hx
  have M := Lib.hid (hm.keep hb0)
  have HF := Lib.hid (h.keep hb0 (Nat.le_refl _))
  have HW := Lib.hid hW
  obtain ⟨hb, c1, -⟩ := HF.out.head
  have hsz : (Fm.bi 2 g d).sz = 1 + g.sz + d.sz := rfl
  have hgp := g.sz_pos
  have hdp := d.sz_pos
  have hlen := h.len
  have h0 : 0 < len := by omega
  obtain ⟨hn, h8, -⟩ := hm
  have hn0 : 0 ≤ n := by omega
  have hn30 : n ≤ 30 := by omega
  obtain ⟨lt, x0, x1, x2⟩ := X.out
  replace c1 : W.cell? ⟨b, off, none⟩ = some (.int .i64 2) := c1
  obtain ⟨x, hxx⟩ : ∃ x, x = g.tr xs ys := ⟨_, rfl⟩
  obtain ⟨y, hyy⟩ : ∃ y, y = d.tr xs ys := ⟨_, rfl⟩
  obtain ⟨cl, hcl⟩ : ∃ c, c = cp - 1 := ⟨_, rfl⟩
  obtain ⟨cr, hcr⟩ : ∃ c, c = cp - (1 + g.sz) := ⟨_, rfl⟩
  obtain ⟨ol, hol⟩ : ∃ c, c = off + 2 := ⟨_, rfl⟩
  obtain ⟨or, hor⟩ : ∃ c, c = off + (1 + g.sz) * 2 := ⟨_, rfl⟩
  obtain ⟨sl, hsl⟩ : ∃ c, c = g.sz := ⟨_, rfl⟩
  obtain ⟨sr, hsr⟩ : ∃ c, c = d.sz := ⟨_, rfl⟩
  have L := Lib.hid (show ∀ w1 : World, Below W.heap.size W w1 → Calls Try.prog 92 #[.slice (some ⟨b, off, none⟩) len cp] w1 fun e w' => e = .returned (.slice (some ⟨b, ol, none⟩) sl cl) ∧ w1 = w' from
    fun w1 hw => by rw [hol, hcl, hsl]; exact l02Left_any 2 g d hg b off len cp w1 hl (HF.out.keep hw (Nat.le_refl _)))
  have R := Lib.hid (show ∀ w1 : World, Below W.heap.size W w1 → Calls Try.prog 93 #[.slice (some ⟨b, off, none⟩) len cp] w1 fun e w' => e = .returned (.slice (some ⟨b, or, none⟩) sr cr) ∧ w1 = w' from
    fun w1 hw => by rw [hor, hcr, hsr]; exact l02Right_any 2 g d hg b off len cp w1 hl (HF.out.keep hw (Nat.le_refl _)))
  have IL := Lib.hid (show ∀ w1 : World, Below W.heap.size W w1 → Calls Try.prog 46 #[.agg #[.int .i64 n, .slice a xs.length cap, .slice a' ys.length cap'], .slice (some ⟨b, ol, none⟩) sl cl] w1 fun e w' => e = .returned (.int .i64 x) ∧ Below w1.heap.size w1 w' from
    fun w1 hw => by rw [hxx, hol, hcl, hsl]; exact ihg n xs ys a cap a' cap' b (off + 2) g.sz (cp - 1) w1 (by omega) (M.out.keep hw) (HF.out.left.keep hw (Nat.le_refl _)))
  have IR := Lib.hid (show ∀ w1 : World, Below W.heap.size W w1 → Calls Try.prog 46 #[.agg #[.int .i64 n, .slice a xs.length cap, .slice a' ys.length cap'], .slice (some ⟨b, or, none⟩) sr cr] w1 fun e w' => e = .returned (.int .i64 y) ∧ Below w1.heap.size w1 w' from
    fun w1 hw => by rw [hyy, hor, hcr, hsr]; exact ihd n xs ys a cap a' cap' b (off + (1 + g.sz) * 2) d.sz (cp - (1 + g.sz)) w1 (by omega) (M.out.keep hw) (HF.out.right.keep hw (Nat.le_refl _)))
  have E := Lib.hid (show bits .and .i64 x y = (Fm.bi 2 g d).tr xs ys by rw [Fm.tr, if_pos rfl, hxx, hyy])
  clear h hb0 hx hW hn h8 hsz hgp hdp hlen hxx hyy ihg ihd hcl hcr hol hor hsl hsr hg
  go_enter Try.func46, Try.ntmps46
  go_wp2_with fail
  rw [← HW.out]
  refine (l01Full_any _ _ hn0 hn30).mono ?_
  rintro e w' ⟨rfl, rfl⟩
  go_wp2
  go_region_held3 (fun w' => w'.cell? ⟨w.heap.size, 0, none⟩ = some (.int .i64 n) ∧ w'.cell? ⟨w.heap.size, 1, none⟩ = some (.slice a xs.length cap) ∧ w'.cell? ⟨w.heap.size, 2, none⟩ = some (.slice a' ys.length cap')) (first | exact ⟨z0, z1, z2⟩ | exact ⟨y0, y1, y2⟩ | exact ⟨x0, x1, x2⟩ | go_keep) (first | (go_at_call 92; refine (L.out _ (Below.refl _ _).drew).mono ?_; rintro e w' ⟨rfl, rfl⟩) | (go_at_call_of 46 cl; refine (IL.out _ (Below.refl _ _).drew).mono ?_; rintro e w1 ⟨rfl, hb⟩; have T1 := Lib.hid (show Below W.heap.size W w1 from below_of_drew hb); clear hb; obtain ⟨ly, y0, y1, y2⟩ := X.out.keep T1.out) | (go_at_call 93; refine (R.out _ T1.out).mono ?_; rintro e w' ⟨rfl, rfl⟩) | (go_at_call_of 46 cr; refine (IR.out _ T1.out).mono ?_; rintro e w2 ⟨rfl, hb⟩; have T2 := Lib.hid (show Below W.heap.size W w2 from T1.out.trans (hb.mono T1.out.size)); clear hb; obtain ⟨lz, z0, z1, z2⟩ := X.out.keep T2.out))
  all_goals
    go_wp2
    go_ret
    exact ⟨ret_int E.out, HB.out.trans (T2.out.mono HB.out.size)⟩

end Go.Proofs.Ytomldealpmohhaa
