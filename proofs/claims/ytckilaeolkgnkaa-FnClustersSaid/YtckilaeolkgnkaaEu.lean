/- The least Euclidean relation that contains a relation, and what two ways of growing towards it keep. Plain mathematics. -/
import Derived.Test.YtckilaeolkgnkaaFlQ
namespace Go.Proofs.Ytckilaeolkgnkaa
open Go.RowKit

/-- i is related to j in each Euclidean relation that contains xs. -/
def EC (xs : List Int) (i j : Nat) : Prop := ∀ S : Nat → Nat → Prop, (∀ a b, T (nth xs a) b = true → S a b) → (∀ a b c, S a b → S a c → S b c) → S i j
def EuSpec (xs E : List Int) : Prop := E.length = xs.length ∧ Rel xs.length (nth E) ∧ ∀ i j, T (nth E i) j = true ↔ EC xs i j
theorem EC.base {xs : List Int} {i j : Nat} (h : T (nth xs i) j = true) : EC xs i j := fun _ h1 _ => h1 i j h
theorem EC.step {xs : List Int} {a b c : Nat} (h1 : EC xs a b) (h2 : EC xs a c) : EC xs b c := fun S s1 s2 => s2 a b c (h1 S s1 s2) (h2 S s1 s2)
theorem nth_lt {xs : List Int} {a b : Nat} (h : T (nth xs a) b = true) : a < xs.length := Classical.byContradiction fun hh => by
  rw [nth_high (by omega), T_zero] at h
  cases h
theorem EC.lt {xs : List Int} (hr : Rel xs.length (nth xs)) {i j : Nat} (h : EC xs i j) : i < xs.length ∧ j < xs.length :=
  h (fun a b => a < xs.length ∧ b < xs.length) (fun a b hb => ⟨nth_lt hb, T_lt (hr a) hb⟩) (fun _ _ _ h1 h2 => ⟨h1.2, h2.2⟩)

def mkm (p : Nat → Bool) : Nat → Int
  | 0 => 0
  | k + 1 => if p k then bits .or .i64 (mkm p k) (one k) else mkm p k
theorem mkm_T {n : Nat} (hn : n ≤ 30) (p : Nat → Bool) (k : Nat) (hk : k ≤ n) : InMk n (mkm p k) ∧ ∀ i, T (mkm p k) i = true ↔ i < k ∧ p i = true := by
  induction k with
  | zero => exact ⟨InMk.zero n, fun i => by simp [mkm, T_zero]⟩
  | succ k ih =>
    obtain ⟨h1, h2⟩ := ih (by omega)
    rw [mkm]
    cases hb : p k
    · rw [if_neg (by simp)]
      refine ⟨h1, fun i => (h2 i).trans ⟨fun ⟨a, b⟩ => ⟨by omega, b⟩, fun ⟨a, b⟩ => ⟨?_, b⟩⟩⟩
      rcases Nat.lt_succ_iff_lt_or_eq.1 a with h | h
      · exact h
      · subst h; rw [hb] at b; cases b
    · rw [if_pos rfl]
      have ho := InMk.one hn (show k < n by omega)
      refine ⟨h1.or hn ho, fun i => ?_⟩
      rw [T_or hn h1 ho, Bool.or_eq_true, h2 i, T_one (by omega), decide_eq_true_eq]
      constructor
      · rintro (⟨a, b⟩ | h)
        · exact ⟨by omega, b⟩
        · subst h; exact ⟨by omega, hb⟩
      · rintro ⟨a, b⟩
        rcases Nat.lt_succ_iff_lt_or_eq.1 a with h | h
        · exact .inl ⟨h, b⟩
        · exact .inr h.symm
theorem EuSpec.ex {xs : List Int} (hn : xs.length ≤ 30) (hr : Rel xs.length (nth xs)) : ∃ E, EuSpec xs E := by
  classical
  refine ⟨tab xs.length (fun i => mkm (fun j => decide (EC xs i j)) xs.length), tab_len _ _, tab_rel fun i _ => (mkm_T hn _ _ (Nat.le_refl _)).1, fun i j => ?_⟩
  by_cases hi : i < xs.length
  · rw [tab_nth _ _ _ hi, (mkm_T hn _ _ (Nat.le_refl _)).2 j, decide_eq_true_eq]
    exact ⟨fun h => h.2, fun h => ⟨(EC.lt hr h).2, h⟩⟩
  · rw [nth_high (by rw [tab_len]; omega), T_zero]
    exact ⟨(fun h => by cases h), fun h => absurd (EC.lt hr h).1 hi⟩

structure Eui (xs : List Int) (F : Nat → Int) : Prop where
  rel : ∀ i, i < xs.length → InMk xs.length (F i)
  has : ∀ i j, i < xs.length → T (nth xs i) j = true → T (F i) j = true
  within : ∀ i j, i < xs.length → T (F i) j = true → EC xs i j
theorem Eui.start {xs : List Int} (hr : Rel xs.length (nth xs)) : Eui xs (nth xs) := ⟨fun i _ => hr i, fun _ _ _ h => h, fun _ _ _ h => EC.base h⟩
theorem Eui.stop {xs E : List Int} {F : Nat → Int} (h : Eui xs F) (hr : Rel xs.length (nth xs)) (he : ∀ x y, x < xs.length → y < xs.length → T (F x) y = true → ∀ j, T (F x) j = true → T (F y) j = true) (hE : EuSpec xs E) : tab xs.length F = E := by
  apply List.ext_getElem?
  intro i
  by_cases hi : i < xs.length
  · have hi2 : i < E.length := by rw [hE.1]; exact hi
    have e : F i = nth E i := by
      refine T_ext (h.rel i hi) (hE.2.1 i) fun j => ?_
      rw [Bool.eq_iff_iff, hE.2.2 i j]
      refine ⟨h.within i j hi, fun hec => ?_⟩
      have := hec (fun a b => a < xs.length ∧ b < xs.length ∧ T (F a) b = true) (fun a b hb => by
          have ha : a < xs.length := nth_lt hb
          exact ⟨ha, T_lt (hr a) hb, h.has a b ha hb⟩) (fun a b c h1 h2 => ⟨h1.2.1, h2.2.1, he a b h1.1 h1.2.1 h1.2.2 c h2.2.2⟩)
      exact this.2.2
    have e2 : (tab xs.length F)[i]? = some (F i) := by simp [tab, hi]
    rw [e2, e, nth, List.getD, List.getElem?_eq_getElem hi2]
    rfl
  · rw [List.getElem?_eq_none (by rw [tab_len]; omega), List.getElem?_eq_none (by rw [hE.1]; omega)]

/-- How much is missing. -/
def tot (F : Nat → Int) : Nat → Nat
  | 0 => 0
  | k + 1 => tot F k + (256 - (F k).toNat)
theorem tot_le {F G : Nat → Int} {n : Nat} (h : ∀ i, i < n → 0 ≤ F i ∧ F i ≤ G i) : tot G n ≤ tot F n := by
  induction n with
  | zero => exact Nat.le_refl _
  | succ n ih =>
    have := ih fun i hi => h i (by omega)
    have := h n (by omega)
    simp only [tot]; omega
theorem tot_lt {F G : Nat → Int} {n : Nat} (h : ∀ i, i < n → 0 ≤ F i ∧ F i ≤ G i ∧ G i < 256) (hs : ∃ i, i < n ∧ F i < G i) : tot G n < tot F n := by
  induction n with
  | zero => obtain ⟨i, hi, -⟩ := hs; omega
  | succ n ih =>
    have hn := h n (by omega)
    have hl := tot_le (F := F) (G := G) (n := n) fun i hi => ⟨(h i (by omega)).1, (h i (by omega)).2.1⟩
    obtain ⟨i, hi, hlt⟩ := hs
    simp only [tot]
    by_cases e : i = n
    · subst e; omega
    · have := ih (fun i hi => h i (by omega)) ⟨i, by omega, hlt⟩
      omega
theorem tot_bd (F : Nat → Int) (n : Nat) : tot F n ≤ n * 256 := by
  induction n with
  | zero => exact Nat.le_refl _
  | succ n ih => simp only [tot]; omega

/-- The model's step. -/
def upd (F : Nat → Int) (x y t : Nat) : Int := if t = y then bits .or .i64 (F y) (F x) else F t
theorem Eui.upd {xs : List Int} {F : Nat → Int} (hn : xs.length ≤ 30) (h : Eui xs F) {x y : Nat} (hx : x < xs.length) (hy : y < xs.length) (hxy : T (F x) y = true) : Eui xs (upd F x y) := by
  refine ⟨fun i hi => ?_, fun i j hi hj => ?_, fun i j hi hj => ?_⟩
  · unfold Go.Proofs.Ytckilaeolkgnkaa.upd; split
    · exact (h.rel y hy).or hn (h.rel x hx)
    · exact h.rel i hi
  · unfold Go.Proofs.Ytckilaeolkgnkaa.upd; split
    · rename_i e; subst e
      rw [T_or hn (h.rel i hi) (h.rel x hx), h.has i j hi hj]; rfl
    · exact h.has i j hi hj
  · unfold Go.Proofs.Ytckilaeolkgnkaa.upd at hj; split at hj
    · rename_i e; subst e
      rw [T_or hn (h.rel i hi) (h.rel x hx), Bool.or_eq_true] at hj
      rcases hj with hj | hj
      · exact h.within i j hi hj
      · exact (h.within x i hx hxy).step (h.within x j hx hj)
    · exact h.within i j hi hj
theorem upd_lt {xs : List Int} {F : Nat → Int} (h8 : xs.length ≤ 8) (h : Eui xs F) {x y : Nat} (hx : x < xs.length) (hy : y < xs.length) (hxy : T (F x) y = true) (hne : ¬ bits .andNot .i64 (F x) (F y) = 0) : tot (upd F x y) xs.length < tot F xs.length := by
  have hn : xs.length ≤ 30 := by omega
  have h2 := h.upd hn hx hy hxy
  refine tot_lt (fun i hi => ⟨(h.rel i hi).1, ?_, ((h2.rel i hi).lt8 h8).2⟩) ⟨y, hy, ?_⟩
  · unfold upd; split
    · rename_i e; subst e; exact or_ge hn (h.rel i hi) (h.rel x hx)
    · exact Int.le_refl _
  · unfold upd; rw [if_pos rfl]; exact or_gt hn (h.rel y hy) (h.rel x hx) hne

/-- The program's step. -/
theorem Eui.next {xs cur : List Int} (hn : xs.length ≤ 30) (hl : cur.length = xs.length) (hr : Rel cur.length (nth cur)) (h : Eui xs (nth cur)) : Rel xs.length (nth (opL .or cur (sbL cur) xs.length)) ∧ Eui xs (nth (opL .or cur (sbL cur) xs.length)) ∧
    ∀ i, i < xs.length → nth (opL .or cur (sbL cur) xs.length) i = bits .or .i64 (nth cur i) (nth (sbL cur) i) ∧ InMk xs.length (nth (sbL cur) i) ∧ ∀ j, T (nth (sbL cur) i) j = true ↔ ∃ v, v < xs.length ∧ T (nth cur v) i = true ∧ T (nth cur v) j = true := by
  have hn' : cur.length ≤ 30 := by omega
  obtain ⟨b1, b2⟩ := bs_T hn' hr
  have hsb : ∀ i, i < cur.length → InMk cur.length (nth (sbL cur) i) ∧ ∀ j, T (nth (sbL cur) i) j = true ↔ ∃ v, v < cur.length ∧ T (nth (bsL cur) i) v = true ∧ T (nth cur v) j = true := cp_T (ys := cur) hn' rfl (fun i _ => b1 i) hr
  rw [hl] at hsb b1 hr
  have hs2 : ∀ i, i < xs.length → nth (opL .or cur (sbL cur) xs.length) i = bits .or .i64 (nth cur i) (nth (sbL cur) i) ∧ InMk xs.length (nth (sbL cur) i) ∧ ∀ j, T (nth (sbL cur) i) j = true ↔ ∃ v, v < xs.length ∧ T (nth cur v) i = true ∧ T (nth cur v) j = true := fun i hi => by
    refine ⟨opL_nth _ _ _ _ _ hi, (hsb i hi).1, fun j => ((hsb i hi).2 j).trans ?_⟩
    constructor
    · rintro ⟨v, h1, h2, h3⟩; exact ⟨v, h1, (b2 i v (by omega)).1 h2, h3⟩
    · rintro ⟨v, h1, h2, h3⟩; exact ⟨v, h1, (b2 i v (by omega)).2 h2, h3⟩
  have hrel : Rel xs.length (nth (opL .or cur (sbL cur) xs.length)) := fun i => by
    by_cases hi : i < xs.length
    · rw [(hs2 i hi).1]; exact (hr i).or hn (hs2 i hi).2.1
    · rw [nth_high (by rw [opL_len]; omega)]; exact InMk.zero _
  refine ⟨hrel, ⟨fun i _ => hrel i, fun i j hi hj => ?_, fun i j hi hj => ?_⟩, hs2⟩
  · rw [(hs2 i hi).1, T_or hn (hr i) (hs2 i hi).2.1, h.has i j hi hj]; rfl
  · rw [(hs2 i hi).1, T_or hn (hr i) (hs2 i hi).2.1, Bool.or_eq_true] at hj
    rcases hj with hj | hj
    · exact h.within i j hi hj
    · obtain ⟨v, hv, h1, h2⟩ := ((hs2 i hi).2.2 j).1 hj
      exact (h.within v i hv h1).step (h.within v j hv h2)
theorem eu_flag {cur : List Int} (hn : cur.length ≤ 30) (hr : Rel cur.length (nth cur)) : flB 4 cur = true ↔ ∀ x y, x < cur.length → y < cur.length → T (nth cur x) y = true → ∀ j, T (nth cur x) j = true → T (nth cur y) j = true := by
  have hB : ∀ (x i : Nat), bitB (nth cur x) i = T (nth cur x) i := fun x i => bitB_T ((hr x).bd hn) i
  rw [flB_iff]
  simp only [vX, vY, vZ, hB]
  constructor
  · intro h x y hx hy hxy
    have := ((h x hx).2 y hy hxy).1
    simp at this
    exact (andNot_zero hn (hr x) (hr y)).1 this
  · intro h x hx
    refine ⟨by simp, fun y hy hxy => ⟨?_, by simp⟩⟩
    have := (andNot_zero hn (hr x) (hr y)).2 (h x y hx hy hxy)
    simp [this]
theorem next_lt {xs cur : List Int} (h8 : xs.length ≤ 8) (hl : cur.length = xs.length) (hr : Rel cur.length (nth cur)) (h : Eui xs (nth cur)) (hf : flB 4 cur = false) : tot (nth (opL .or cur (sbL cur) xs.length)) xs.length < tot (nth cur) xs.length := by
  have hn : xs.length ≤ 30 := by omega
  obtain ⟨n1, n2, n3⟩ := h.next hn hl hr
  have hne : ¬ flB 4 cur = true := by rw [hf]; decide
  rw [eu_flag (by omega) hr, hl] at hne
  have hr' := hr
  rw [hl] at hr'
  refine tot_lt (fun i hi => ⟨(hr' i).1, by rw [(n3 i hi).1]; exact or_ge hn (hr' i) (n3 i hi).2.1, ((n1 i).lt8 h8).2⟩) (Classical.byContradiction fun hh => hne fun x y hx hy hxy j hxj => ?_)
  have hle : ¬ nth cur y < nth (opL .or cur (sbL cur) xs.length) y := fun q => hh ⟨y, hy, q⟩
  rw [(n3 y hy).1] at hle
  have hge := or_ge hn (hr' y) (n3 y hy).2.1
  have e : bits .or .i64 (nth cur y) (nth (sbL cur) y) = nth cur y := by omega
  have := T_or hn (hr' y) (n3 y hy).2.1 j
  rw [e, ((n3 y hy).2.2 j).2 ⟨x, hx, hxy, hxj⟩, Bool.or_true] at this
  exact this

end Go.Proofs.Ytckilaeolkgnkaa
