/- What closing a frame does, told by relations: the flag holds then, nothing is lost, and what has the flag stays as it is. Plain mathematics. -/
import Derived.Test.YtpedinmflhgcoaaClo
namespace Go.Proofs.Ytpedinmflhgcoaa
open Go.RowKit

def Hasf (f : Int) (xs : List Int) : Prop :=
  if f = 0 then ∀ x, x < xs.length → T (nth xs x) x = true
  else if f = 2 then ∀ x y z, T (nth xs x) y = true → T (nth xs y) z = true → T (nth xs x) z = true
  else if f = 3 then ∀ x y, T (nth xs x) y = true → T (nth xs y) x = true
  else ∀ x y z, T (nth xs x) y = true → T (nth xs x) z = true → T (nth xs y) z = true
/-- What the closed relation holds. -/
def Clf (f : Int) (xs : List Int) (i j : Nat) : Prop :=
  if f = 0 then T (nth xs i) j = true ∨ j = i
  else if f = 2 then P (Rw xs) xs.length i j
  else if f = 3 then T (nth xs i) j = true ∨ T (nth xs j) i = true
  else EC xs i j

theorem clR_T {xs E : List Int} (h8 : xs.length ≤ 8) (hr : Rel xs.length (nth xs)) (hE : EuSpec xs E) {f : Int} (hf : knF f = true) :
    Rel xs.length (nth (clR xs E f)) ∧ ∀ i j, i < xs.length → (T (nth (clR xs E f) i) j = true ↔ Clf f xs i j) := by
  have hn : xs.length ≤ 30 := by omega
  have hlen := clR_len hE f
  have fin : (∀ i, i < xs.length → InMk xs.length (nth (clR xs E f) i)) → Rel xs.length (nth (clR xs E f)) := fun h i => by
    by_cases hi : i < xs.length
    · exact h i hi
    · rw [nth_high (by omega)]; exact InMk.zero _
  rcases kn_cases hf with rfl | rfl | rfl | rfl
  · have e : ∀ i, i < xs.length → nth (clR xs E 0) i = bits .or .i64 (nth xs i) (one i) := fun i hi => rfTo_nth _ _ _ hi
    refine ⟨fin fun i hi => by rw [e i hi]; exact (hr i).or hn (InMk.one hn hi), fun i j hi => ?_⟩
    rw [e i hi, T_or hn (hr i) (InMk.one hn hi), Bool.or_eq_true, T_one (by omega), decide_eq_true_eq]
    exact ⟨fun h => h.imp id (fun q => by omega), fun h => h.imp id (fun q => by omega)⟩
  · obtain ⟨c1, c2⟩ := cs_T hn hr
    exact ⟨c1, fun i j _ => c2 i j⟩
  · obtain ⟨b1, b2⟩ := bs_T hn hr
    have e : ∀ i, i < xs.length → nth (clR xs E 3) i = bits .or .i64 (nth xs i) (nth (bsL xs) i) := fun i hi => opL_nth _ _ _ _ _ hi
    refine ⟨fin fun i hi => by rw [e i hi]; exact (hr i).or hn (b1 i), fun i j hi => ?_⟩
    rw [e i hi, T_or hn (hr i) (b1 i), Bool.or_eq_true, b2 i j hi]
    exact Iff.rfl
  · exact ⟨hE.2.1, fun i j _ => hE.2.2 i j⟩
theorem cl_sub {xs : List Int} {f : Int} (hf : knF f = true) {i j : Nat} (h : T (nth xs i) j = true) : Clf f xs i j := by
  rcases kn_cases hf with rfl | rfl | rfl | rfl
  · exact .inl h
  · exact P_mono (k := 0) (Nat.zero_le _) h
  · exact .inl h
  · exact EC.base h
theorem cl_min {xs : List Int} (hr : Rel xs.length (nth xs)) {f : Int} (hf : knF f = true) (hh : Hasf f xs) {i j : Nat} (hi : i < xs.length) (h : Clf f xs i j) : T (nth xs i) j = true := by
  rcases kn_cases hf with rfl | rfl | rfl | rfl
  · rcases h with h | rfl
    · exact h
    · exact hh _ hi
  · have : ∀ k i j, P (Rw xs) k i j → T (nth xs i) j = true := fun k => by
      induction k with
      | zero => exact fun i j h => h
      | succ k ih =>
        rintro i j (h | ⟨h1, h2⟩)
        · exact ih i j h
        · exact hh i k j (ih i k h1) (ih k j h2)
    exact this _ _ _ h
  · rcases h with h | h
    · exact h
    · exact hh _ _ h
  · exact h (fun a b => T (nth xs a) b = true) (fun _ _ h => h) (fun a b c h1 h2 => hh a b c h1 h2)
theorem cl_has {xs ys : List Int} (hr : Rel xs.length (nth xs)) (hl : ys.length = xs.length) {f : Int} (hf : knF f = true) (h : ∀ i j, i < xs.length → (T (nth ys i) j = true ↔ Clf f xs i j)) (hry : Rel xs.length (nth ys)) : Hasf f ys := by
  have lt : ∀ {a b}, T (nth ys a) b = true → a < xs.length ∧ b < xs.length := fun h => ⟨by have := nth_lt h; omega, T_lt (hry _) h⟩
  rcases kn_cases hf with rfl | rfl | rfl | rfl
  · intro x hx
    exact (h x x (by omega)).2 (.inr rfl)
  · intro x y z h1 h2
    obtain ⟨a, b⟩ := lt h1
    exact (h x z a).2 (P_trans xs.length b ((h x y a).1 h1) ((h y z b).1 h2))
  · intro x y h1
    obtain ⟨a, b⟩ := lt h1
    exact (h y x b).2 (((h x y a).1 h1).symm)
  · intro x y z h1 h2
    obtain ⟨a, b⟩ := lt h1
    exact (h y z b).2 (EC.step ((h x y a).1 h1) ((h x z a).1 h2))
theorem cl_same {xs E : List Int} (h8 : xs.length ≤ 8) (hr : Rel xs.length (nth xs)) (hE : EuSpec xs E) {f : Int} (hf : knF f = true) (hh : Hasf f xs) : clR xs E f = xs := by
  obtain ⟨c1, c2⟩ := clR_T h8 hr hE hf
  have hlen := clR_len hE f
  apply List.ext_getElem hlen
  intro i h1 h2
  have e : nth (clR xs E f) i = nth xs i := T_ext (c1 i) (hr i) fun j => by
    rw [Bool.eq_iff_iff, c2 i j h2]
    exact ⟨cl_min hr hf hh h2, cl_sub hf⟩
  simpa [nth, List.getD, h1, h2] using e

/-- The flag, told by the relation. -/
theorem fl_has {xs : List Int} (h8 : xs.length ≤ 8) (hr : Rel xs.length (nth xs)) {f : Int} (hf : knF f = true) : flB f.toNat xs = true ↔ Hasf f xs := by
  have hn : xs.length ≤ 30 := by omega
  have hB : ∀ (x i : Nat), bitB (nth xs x) i = T (nth xs x) i := fun x i => bitB_T ((hr x).bd hn) i
  have lt : ∀ {a b}, T (nth xs a) b = true → a < xs.length ∧ b < xs.length := fun h => ⟨nth_lt h, T_lt (hr _) h⟩
  rw [flB_iff]
  simp only [hB]
  rcases kn_cases hf with rfl | rfl | rfl | rfl
  · show (∀ x, x < xs.length → vX 0 xs x = false ∧ _) ↔ ∀ x, x < xs.length → _
    simp only [vX, vY, vZ, hB]
    constructor
    · intro h x hx
      simpa using (h x hx).1
    · intro h x hx
      exact ⟨by simp [h x hx], by simp⟩
  · show (∀ x, x < xs.length → vX 2 xs x = false ∧ _) ↔ _
    simp only [vX, vY, vZ, hB]
    have key : ∀ x, x < xs.length → ((bits .andNot .i64 (imgTo xs (nth xs x) xs.length) (nth xs x) != 0) = false ↔ ∀ y z, T (nth xs x) y = true → T (nth xs y) z = true → T (nth xs x) z = true) := fun x hx => by
      obtain ⟨g1, g2⟩ := imgTo_T hn hr ((hr x).bd hn) xs.length
      rw [show ((bits .andNot .i64 (imgTo xs (nth xs x) xs.length) (nth xs x) != 0) = false) ↔ bits .andNot .i64 (imgTo xs (nth xs x) xs.length) (nth xs x) = 0 by simp, andNot_zero hn g1 (hr x)]
      constructor
      · intro h y z h1 h2
        exact h z ((g2 z).2 ⟨y, (lt h1).2, h1, h2⟩)
      · intro h z hz
        obtain ⟨y, -, h1, h2⟩ := (g2 z).1 hz
        exact h y z h1 h2
    constructor
    · intro h x y z h1 h2
      exact (key x (lt h1).1).1 (by simpa using (h x (lt h1).1).1) y z h1 h2
    · intro h x hx
      exact ⟨by have := (key x hx).2 (fun y z => h x y z); simpa using this, by simp⟩
  · show (∀ x, x < xs.length → vX 3 xs x = false ∧ _) ↔ _
    simp only [vX, vY, vZ, hB]
    constructor
    · intro h x y h1
      obtain ⟨a, b⟩ := lt h1
      simpa using ((h x a).2 y b h1).1
    · intro h x hx
      refine ⟨by simp, fun y hy h1 => ⟨by simp [h x y h1], by simp⟩⟩
  · show (∀ x, x < xs.length → vX 4 xs x = false ∧ _) ↔ _
    simp only [vX, vY, vZ, hB]
    constructor
    · intro h x y z h1 h2
      obtain ⟨a, b⟩ := lt h1
      have := ((h x a).2 y b h1).1
      exact (andNot_zero hn (hr x) (hr y)).1 (by simpa using this) z h2
    · intro h x hx
      refine ⟨by simp, fun y hy h1 => ⟨?_, by simp⟩⟩
      have := (andNot_zero hn (hr x) (hr y)).2 (fun z h2 => h x y z h1 h2)
      simpa using this

end Go.Proofs.Ytpedinmflhgcoaa
