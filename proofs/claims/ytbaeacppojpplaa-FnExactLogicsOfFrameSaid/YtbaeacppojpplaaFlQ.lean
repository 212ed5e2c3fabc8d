/- The flags of a frame as the program computes them, by whole relations, are those that the model asks, element by element. Plain mathematics. -/
import Derived.Test.YtbaeacppojpplaaJn01
namespace Go.Proofs.Ytbaeacppojpplaa
open Go.RowKit

def wiB (xs ys : List Int) (n : Nat) : Bool := allTo (fun i => bits .andNot .i64 (nth xs i) (nth ys i) == 0) n
def opL (op : BinOp) (xs ys : List Int) : Nat → List Int
  | 0 => []
  | k + 1 => opL op xs ys k ++ [bits op .i64 (nth xs k) (nth ys k)]
theorem opL_len (op : BinOp) (xs ys : List Int) (k : Nat) : (opL op xs ys k).length = k := by induction k with | zero => rfl | succ k ih => simp [opL, ih]
theorem opL_nth (op : BinOp) (xs ys : List Int) (n k : Nat) (h : k < n) : nth (opL op xs ys n) k = bits op .i64 (nth xs k) (nth ys k) := by
  induction n with
  | zero => omega
  | succ n ih =>
    by_cases e : k = n
    · subst e; exact nth_snoc _ _ _ (opL_len op xs ys k)
    · rw [opL, nth_left _ _ _ (by rw [opL_len]; omega)]; exact ih (by omega)
def zL (n : Nat) : List Int := tab n (fun _ => 0)
def idL (n : Nat) : List Int := rfTo (zL n) n
def sbL (xs : List Int) : List Int := cpTo (bsL xs) xs xs.length
/-- The program's answer to the flag f. -/
def ibF (f : Nat) (xs : List Int) : Bool :=
  if f = 0 then wiB (idL xs.length) xs xs.length else if f = 1 then allTo (fun i => !((0 : Int) == nth xs i)) xs.length
  else if f = 2 then wiB (cpTo xs xs xs.length) xs xs.length else if f = 3 then wiB (bsL xs) xs xs.length else if f = 4 then wiB (sbL xs) xs xs.length
  else if f = 5 then wiB (sbL xs) (cpTo xs (bsL xs) xs.length) xs.length else if f = 6 then wiB (sbL xs) (opL .or xs (bsL xs) xs.length) xs.length
  else if f = 7 then wiB (opL .and (csL xs) (idL xs.length) xs.length) (zL xs.length) xs.length else if f = 8 then wiB (opL .and xs (bsL xs) xs.length) (idL xs.length) xs.length
  else if f = 9 then wiB xs (cpTo xs xs xs.length) xs.length else wiB (sbL xs) (idL xs.length) xs.length

theorem T_and {n : Nat} (hn : n ≤ 30) {x y : Int} (hx : InMk n x) (hy : InMk n y) (i : Nat) : T (bits .and .i64 x y) i = (T x i && T y i) := by
  have h1 := hx.bd hn
  have h2 := hy.bd hn
  obtain ⟨a, rfl⟩ := Int.eq_ofNat_of_zero_le hx.1
  obtain ⟨b, rfl⟩ := Int.eq_ofNat_of_zero_le hy.1
  rw [iand _ _ (by omega) (by omega)]
  simp [T]
theorem InMk.and {n : Nat} (hn : n ≤ 30) {x y : Int} (hx : InMk n x) (hy : InMk n y) : InMk n (bits .and .i64 x y) := by
  have h1 := hx.bd hn
  have h2 := hy.bd hn
  have a1 := hx.nat
  obtain ⟨a, rfl⟩ := Int.eq_ofNat_of_zero_le hx.1
  obtain ⟨b, rfl⟩ := Int.eq_ofNat_of_zero_le hy.1
  rw [iand _ _ (by omega) (by omega)]
  rw [Int.toNat_natCast] at a1
  exact InMk.of (Nat.lt_of_le_of_lt Nat.and_le_left a1)
theorem and_zero {n : Nat} (hn : n ≤ 30) {x y : Int} (hx : InMk n x) (hy : InMk n y) : (bits .and .i64 x y == 0) = false ↔ ∃ u, T x u = true ∧ T y u = true := by
  constructor
  · intro h
    refine Classical.byContradiction fun hh => ?_
    have e : bits .and .i64 x y = 0 := by
      refine T_ext (hx.and hn hy) (InMk.zero n) fun i => ?_
      rw [T_and hn hx hy, T_zero]
      cases h1 : T x i <;> cases h2 : T y i <;> first | rfl | exact absurd ⟨i, h1, h2⟩ hh
    rw [e] at h; cases h
  · rintro ⟨u, h1, h2⟩
    cases h : (bits .and .i64 x y == 0)
    · rfl
    · rw [beq_iff_eq] at h
      have := T_and hn hx hy u
      rw [h, T_zero, h1, h2] at this; cases this
theorem pop_one : ∀ m : Nat, pop m ≤ 1 ↔ ∀ i j, m.testBit i = true → m.testBit j = true → i = j := by
  have hz : ∀ m : Nat, pop m = 0 → m = 0 := by
    intro m
    induction m using Nat.strongRecOn with
    | ind m ih =>
      intro h
      by_cases h0 : m = 0
      · exact h0
      · have hs := pop_step m
        have := ih (m / 2) (by omega) (by omega)
        omega
  intro m
  induction m using Nat.strongRecOn with
  | ind m ih =>
    by_cases h0 : m = 0
    · subst h0; simp [pop_zero]
    · have hs := pop_step m
      have hi := ih (m / 2) (by omega)
      have hb : ∀ i, m.testBit (i + 1) = (m / 2).testBit i := fun i => Nat.testBit_succ m i
      have hb0 : m.testBit 0 = decide (m % 2 = 1) := Nat.testBit_zero m
      by_cases hr : m % 2 = 0
      · have e : pop m = pop (m / 2) := by omega
        rw [e, hi]
        constructor
        · intro h i j h1 h2
          cases i with
          | zero => rw [hb0, decide_eq_true_eq] at h1; omega
          | succ i =>
            cases j with
            | zero => rw [hb0, decide_eq_true_eq] at h2; omega
            | succ j => rw [hb] at h1 h2; rw [h i j h1 h2]
        · intro h i j h1 h2
          have := h (i + 1) (j + 1) (by rw [hb]; exact h1) (by rw [hb]; exact h2)
          omega
      · constructor
        · intro h i j h1 h2
          have q0 : m / 2 = 0 := hz _ (by omega)
          cases i with
          | succ i => rw [hb, q0] at h1; simp at h1
          | zero =>
            cases j with
            | succ j => rw [hb, q0] at h2; simp at h2
            | zero => rfl
        · intro h
          by_cases q0 : m / 2 = 0
          · rw [q0, pop_zero] at hs; omega
          · obtain ⟨j, hj⟩ := Nat.exists_testBit_of_ne_zero q0
            have := h 0 (j + 1) (by rw [hb0, decide_eq_true_eq]; omega) (by rw [hb]; exact hj)
            omega

theorem wiB_iff {n : Nat} (hn : n ≤ 30) {xs ys : List Int} (hx : ∀ i, i < n → InMk n (nth xs i)) (hy : ∀ i, i < n → InMk n (nth ys i)) : wiB xs ys n = true ↔ ∀ i, i < n → ∀ j, T (nth xs i) j = true → T (nth ys i) j = true := by
  unfold wiB
  rw [allTo_iff]
  constructor
  · intro h i hi
    have := h i hi
    rw [beq_iff_eq] at this
    exact (andNot_zero hn (hx i hi) (hy i hi)).1 this
  · intro h i hi
    rw [beq_iff_eq]
    exact (andNot_zero hn (hx i hi) (hy i hi)).2 (h i hi)

theorem flB_iff {f : Nat} {xs : List Int} : flB f xs = true ↔ ∀ x, x < xs.length → vX f xs x = false ∧ ∀ y, y < xs.length → bitB (nth xs x) y = true → vY f xs x y = false ∧ ∀ z, z < xs.length → bitB (nth xs x) z = true → vZ f xs y z = false := by
  unfold flB
  rw [allTo_iff]
  constructor
  · intro h x hx
    have h1 := h x hx
    rw [okX, Bool.and_eq_true, allTo_iff] at h1
    refine ⟨by simpa using h1.1, fun y hy hb => ?_⟩
    have h2 := h1.2 y hy
    rw [okY, hb] at h2
    simp at h2
    refine ⟨h2.1, fun z hz hbz => ?_⟩
    have h3 := allTo_iff.1 h2.2 z hz
    rw [okZ, hbz] at h3
    simpa using h3
  · intro h x hx
    obtain ⟨h1, h2⟩ := h x hx
    refine okX_ok h1 (allTo_iff.2 fun y hy => ?_)
    cases hb : bitB (nth xs x) y
    · exact okY_no hb
    · obtain ⟨h3, h4⟩ := h2 y hy hb
      refine okY_ok h3 (allTo_iff.2 fun z hz => ?_)
      cases hbz : bitB (nth xs x) z
      · exact okZ_no hbz
      · exact okZ_ok (h4 z hz hbz)

theorem bs_T {xs : List Int} (hn : xs.length ≤ 30) (hr : Rel xs.length (nth xs)) : Rel xs.length (nth (bsL xs)) ∧ ∀ i j, i < xs.length → (T (nth (bsL xs) i) j = true ↔ T (nth xs j) i = true) := by
  have iv := fun t => ivTo_T hn hr t xs.length (Nat.le_refl _)
  refine ⟨tab_rel fun i _ => (iv i).1, fun i j hi => ?_⟩
  rw [bsL, tab_nth _ _ _ hi, (iv i).2 j]
  constructor
  · exact fun h => h.2
  · intro h
    refine ⟨Classical.byContradiction fun hh => ?_, h⟩
    rw [nth_high (by omega), T_zero] at h; cases h
theorem cp_T {xs ys : List Int} {n : Nat} (hn : n ≤ 30) (hl : ys.length = n) (hx : ∀ i, i < n → InMk n (nth xs i)) (hy : Rel n (nth ys)) : ∀ i, i < n → InMk n (nth (cpTo xs ys n) i) ∧ ∀ j, T (nth (cpTo xs ys n) i) j = true ↔ ∃ v, v < n ∧ T (nth xs i) v = true ∧ T (nth ys v) j = true := fun i hi => by
  rw [cpTo_nth _ _ _ _ hi, hl]
  exact imgTo_T hn hy ((hx i hi).bd hn) n
theorem z_T (n i : Nat) : nth (zL n) i = 0 := by
  by_cases h : i < n
  · rw [zL, tab_nth _ _ _ h]
  · rw [nth_high (by rw [zL, tab_len]; omega)]
theorem id_T {n : Nat} (hn : n ≤ 30) : ∀ i, i < n → InMk n (nth (idL n) i) ∧ ∀ j, T (nth (idL n) i) j = true ↔ i = j := fun i hi => by
  rw [idL, rfTo_nth _ _ _ hi, z_T]
  refine ⟨(InMk.zero n).or hn (InMk.one hn hi), fun j => ?_⟩
  rw [T_or hn (InMk.zero n) (InMk.one hn hi), T_zero, T_one (by omega), Bool.false_or, decide_eq_true_eq]

theorem ib_fl {xs : List Int} (h8 : xs.length ≤ 8) (hr : Rel xs.length (nth xs)) (f : Nat) (hf : f ≤ 10) : ibF f xs = flB f xs := by
  have hn : xs.length ≤ 30 := by omega
  have hx : ∀ i, i < xs.length → InMk xs.length (nth xs i) := fun i _ => hr i
  obtain ⟨b1, b2⟩ := bs_T hn hr
  have hbl : (bsL xs).length = xs.length := tab_len _ _
  have hbx : ∀ i, i < xs.length → InMk xs.length (nth (bsL xs) i) := fun i _ => b1 i
  have hxx := cp_T hn rfl hx hr
  have hsb : ∀ i, i < xs.length → InMk xs.length (nth (sbL xs) i) ∧ ∀ j, T (nth (sbL xs) i) j = true ↔ ∃ v, v < xs.length ∧ T (nth (bsL xs) i) v = true ∧ T (nth xs v) j = true := cp_T (ys := xs) hn rfl hbx hr
  have hxb := cp_T hn hbl hx b1
  have hid := id_T hn
  have hB : ∀ (x i : Nat), bitB (nth xs x) i = T (nth xs x) i := fun x i => bitB_T ((hr x).bd hn) i
  have hlt : ∀ {x j}, T (nth xs x) j = true → j < xs.length := fun h => T_lt (hr _) h
  have hlt' : ∀ {x j}, T (nth xs x) j = true → x < xs.length := fun {x j} h => Classical.byContradiction fun hh => by rw [nth_high (by omega), T_zero] at h; cases h
  rw [Bool.eq_iff_iff, flB_iff]
  simp only [hB]
  have hcases : f = 0 ∨ f = 1 ∨ f = 2 ∨ f = 3 ∨ f = 4 ∨ f = 5 ∨ f = 6 ∨ f = 7 ∨ f = 8 ∨ f = 9 ∨ f = 10 := by omega
  rcases hcases with rfl | rfl | rfl | rfl | rfl | rfl | rfl | rfl | rfl | rfl | rfl
  · show wiB (idL xs.length) xs xs.length = true ↔ _
    rw [wiB_iff hn (fun i hi => (hid i hi).1) hx]
    simp only [vX, vY, vZ, hB]
    constructor
    · intro h x hx2
      exact ⟨by simp [h x hx2 x (((hid x hx2).2 x).2 rfl)], by simp⟩
    · intro h i hi j hj
      have := ((hid i hi).2 j).1 hj
      subst this
      simpa using (h i hi).1
  · show allTo _ _ = true ↔ _
    rw [allTo_iff]
    simp only [vX, vY, vZ]
    constructor
    · intro h x hx2
      have := h x hx2
      refine ⟨?_, by simp⟩
      simp at this ⊢
      omega
    · intro h i hi
      have := (h i hi).1
      simp at this ⊢
      omega
  · show wiB (cpTo xs xs xs.length) xs xs.length = true ↔ _
    rw [wiB, allTo_iff]
    simp only [vX, vY, vZ]
    constructor
    · intro h x hx2
      have := h x hx2
      rw [cpTo_nth _ _ _ _ hx2] at this
      refine ⟨?_, by simp⟩
      simpa using this
    · intro h i hi
      have := (h i hi).1
      rw [cpTo_nth _ _ _ _ hi]
      simpa using this
  · show wiB (bsL xs) xs xs.length = true ↔ _
    rw [wiB_iff hn hbx hx]
    simp only [vX, vY, vZ, hB]
    constructor
    · intro h x hx2
      refine ⟨by simp, fun y hy hxy => ⟨?_, by simp⟩⟩
      simp [h y hy x ((b2 y x hy).2 hxy)]
    · intro h i hi j hj
      have hji := (b2 i j hi).1 hj
      have := ((h j (hlt' hji)).2 i hi hji).1
      simpa using this
  · show wiB (sbL xs) xs xs.length = true ↔ _
    rw [wiB_iff hn (fun i hi => (hsb i hi).1) hx]
    simp only [vX, vY, vZ]
    constructor
    · intro h x hx2
      refine ⟨by simp, fun y hy hxy => ⟨?_, by simp⟩⟩
      have e : bits .andNot .i64 (nth xs x) (nth xs y) = 0 := (andNot_zero hn (hr x) (hr y)).2 fun j hj => h y hy j (((hsb y hy).2 j).2 ⟨x, hx2, (b2 y x hy).2 hxy, hj⟩)
      simp [e]
    · intro h i hi j hj
      obtain ⟨v, hv, h1, h2⟩ := ((hsb i hi).2 j).1 hj
      have h3 := (b2 i v hi).1 h1
      have := ((h v hv).2 i hi h3).1
      simp at this
      exact (andNot_zero hn (hr v) (hr i)).1 this j h2
  · show wiB (sbL xs) (cpTo xs (bsL xs) xs.length) xs.length = true ↔ _
    rw [wiB_iff hn (fun i hi => (hsb i hi).1) (fun i hi => (hxb i hi).1)]
    simp only [vX, vY, vZ]
    constructor
    · intro h x hx2
      refine ⟨by simp, fun y hy hxy => ⟨by simp, fun z hz hxz => ?_⟩⟩
      obtain ⟨u, hu, h1, h2⟩ := ((hxb y hy).2 z).1 (h y hy z (((hsb y hy).2 z).2 ⟨x, hx2, (b2 y x hy).2 hxy, hxz⟩))
      have h3 := (b2 u z hu).1 h2
      simpa using (and_zero hn (hr y) (hr z)).2 ⟨u, h1, h3⟩
    · intro h i hi j hj
      obtain ⟨v, hv, h1, h2⟩ := ((hsb i hi).2 j).1 hj
      have h3 := (b2 i v hi).1 h1
      have h4 := ((h v hv).2 i hi h3).2 j (hlt h2) h2
      obtain ⟨u, h5, h6⟩ := (and_zero hn (hr i) (hr j)).1 (by simpa using h4)
      exact ((hxb i hi).2 j).2 ⟨u, hlt h5, h5, (b2 u j (hlt h5)).2 h6⟩
  · show wiB (sbL xs) (opL .or xs (bsL xs) xs.length) xs.length = true ↔ _
    have hor : ∀ i, i < xs.length → InMk xs.length (nth (opL .or xs (bsL xs) xs.length) i) := fun i hi => by rw [opL_nth _ _ _ _ _ hi]; exact (hr i).or hn (b1 i)
    rw [wiB_iff hn (fun i hi => (hsb i hi).1) hor]
    simp only [vX, vY, vZ, hB]
    constructor
    · intro h x hx2
      refine ⟨by simp, fun y hy hxy => ⟨by simp, fun z hz hxz => ?_⟩⟩
      have := h y hy z (((hsb y hy).2 z).2 ⟨x, hx2, (b2 y x hy).2 hxy, hxz⟩)
      rw [opL_nth _ _ _ _ _ hy, T_or hn (hr y) (b1 y), Bool.or_eq_true, b2 y z hy] at this
      rcases this with h1 | h1 <;> simp [h1]
    · intro h i hi j hj
      obtain ⟨v, hv, h1, h2⟩ := ((hsb i hi).2 j).1 hj
      have h3 := (b2 i v hi).1 h1
      have h4 := ((h v hv).2 i hi h3).2 j (hlt h2) h2
      rw [opL_nth _ _ _ _ _ hi, T_or hn (hr i) (b1 i), Bool.or_eq_true, b2 i j hi]
      simp at h4
      cases h5 : T (nth xs i) j
      · exact .inr (h4 h5)
      · exact .inl rfl
  · show wiB (opL .and (csL xs) (idL xs.length) xs.length) (zL xs.length) xs.length = true ↔ _
    obtain ⟨c1, -⟩ := cs_T hn hr
    have han : ∀ i, i < xs.length → InMk xs.length (nth (opL .and (csL xs) (idL xs.length) xs.length) i) := fun i hi => by rw [opL_nth _ _ _ _ _ hi]; exact (c1 i).and hn (hid i hi).1
    rw [wiB_iff hn han (fun i _ => by rw [z_T]; exact InMk.zero _)]
    have hC : ∀ (x i : Nat), bitB (nth (csL xs) x) i = T (nth (csL xs) x) i := fun x i => bitB_T ((c1 x).bd hn) i
    simp only [vX, vY, vZ, hC]
    constructor
    · intro h x hx2
      refine ⟨?_, by simp⟩
      cases h1 : T (nth (csL xs) x) x
      · simp [h1]
      · have := h x hx2 x (by rw [opL_nth _ _ _ _ _ hx2, T_and hn (c1 x) (hid x hx2).1, h1, ((hid x hx2).2 x).2 rfl]; rfl)
        rw [z_T, T_zero] at this; cases this
    · intro h i hi j hj
      rw [opL_nth _ _ _ _ _ hi, T_and hn (c1 i) (hid i hi).1, Bool.and_eq_true] at hj
      have := ((hid i hi).2 j).1 hj.2
      subst this
      have h2 := (h i hi).1
      rw [hj.1] at h2
      simp at h2
  · show wiB (opL .and xs (bsL xs) xs.length) (idL xs.length) xs.length = true ↔ _
    have han : ∀ i, i < xs.length → InMk xs.length (nth (opL .and xs (bsL xs) xs.length) i) := fun i hi => by rw [opL_nth _ _ _ _ _ hi]; exact (hr i).and hn (b1 i)
    rw [wiB_iff hn han (fun i hi => (hid i hi).1)]
    simp only [vX, vY, vZ, hB]
    constructor
    · intro h x hx2
      refine ⟨by simp, fun y hy hxy => ⟨?_, by simp⟩⟩
      cases h1 : T (nth xs y) x
      · simp
      · have := h x hx2 y (by rw [opL_nth _ _ _ _ _ hx2, T_and hn (hr x) (b1 x), hxy, (b2 x y hx2).2 h1]; rfl)
        have := ((hid x hx2).2 y).1 this
        simp [this]
    · intro h i hi j hj
      rw [opL_nth _ _ _ _ _ hi, T_and hn (hr i) (b1 i), Bool.and_eq_true, b2 i j hi] at hj
      have := ((h i hi).2 j (hlt hj.1) hj.1).1
      rw [hj.2] at this
      simp at this
      exact ((hid i hi).2 j).2 this
  · show wiB xs (cpTo xs xs xs.length) xs.length = true ↔ _
    rw [wiB_iff hn hx (fun i hi => (hxx i hi).1)]
    simp only [vX, vY, vZ]
    constructor
    · intro h x hx2
      refine ⟨by simp, fun y hy hxy => ⟨?_, by simp⟩⟩
      obtain ⟨v, hv, h1, h2⟩ := ((hxx x hx2).2 y).1 (h x hx2 y hxy)
      simpa using (and_zero hn (hr x) (b1 y)).2 ⟨v, h1, (b2 y v hy).2 h2⟩
    · intro h i hi j hj
      have := ((h i hi).2 j (hlt hj) hj).1
      obtain ⟨u, h1, h2⟩ := (and_zero hn (hr i) (b1 j)).1 (by simpa using this)
      exact ((hxx i hi).2 j).2 ⟨u, hlt h1, h1, (b2 j u (hlt hj)).1 h2⟩
  · show wiB (sbL xs) (idL xs.length) xs.length = true ↔ _
    rw [wiB_iff hn (fun i hi => (hsb i hi).1) (fun i hi => (hid i hi).1)]
    simp only [vX, vY, vZ]
    constructor
    · intro h x hx2
      refine ⟨?_, by simp⟩
      have : pop (nth xs x).toNat ≤ 1 := (pop_one _).2 fun i j h1 h2 => by
        have hi : i < xs.length := hlt (x := x) h1
        exact ((hid i hi).2 j).1 (h i hi j (((hsb i hi).2 j).2 ⟨x, hx2, (b2 i x hi).2 h1, h2⟩))
      simp
      omega
    · intro h i hi j hj
      obtain ⟨v, hv, h1, h2⟩ := ((hsb i hi).2 j).1 hj
      have h3 := (b2 i v hi).1 h1
      have h4 := (h v hv).1
      simp at h4
      exact ((hid i hi).2 j).2 ((pop_one _).1 (by omega) i j h3 h2)

end Go.Proofs.Ytbaeacppojpplaa
