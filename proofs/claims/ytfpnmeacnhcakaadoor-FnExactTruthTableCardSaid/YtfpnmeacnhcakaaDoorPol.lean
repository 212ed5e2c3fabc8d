/- Polarities of the nodes of a formula: the program's count of flips above a node and the model's list agree; guarded variables. No conditions but those in the theorems. -/
import Derived.Test.YtfpnmeacnhcakaaDoorPart
import Derived.Test.YtfpnmeacnhcakaaDoorReads
import Derived.Test.YtfpnmeacnhcakaaDoorFm
namespace Go.Proofs.YtfpnmeacnhcakaaDoor

def Fm.pls : Fm → Int → List Int
  | .va _, s => [s]
  | .fa, s => [s]
  | .un _ a, s => s :: a.pls s
  | .bi k a b, s => s :: (a.pls (if k = 4 then -s else s) ++ b.pls s)
theorem Fm.pls_len (f : Fm) : ∀ s, (f.pls s).length = f.sz := by
  induction f with
  | va s => intro s; rfl
  | fa => intro s; rfl
  | bi k a b iha ihb => intro s; simp only [pls, sz, List.length_cons, List.length_append, iha, ihb]; omega
  | un k a ih => intro s; simp only [pls, sz, List.length_cons, ih]; omega
theorem Fm.pls_one (f : Fm) : ∀ s, s = 1 ∨ s = -1 → ∀ x ∈ f.pls s, x = 1 ∨ x = -1 := by
  induction f with
  | va v => intro s hs x hx; simp [pls] at hx; omega
  | fa => intro s hs x hx; simp [pls] at hx; omega
  | un k a ih => intro s hs x hx; simp only [pls, List.mem_cons] at hx; rcases hx with rfl | hx; exact hs; exact ih s hs x hx
  | bi k a b iha ihb =>
    intro s hs x hx
    simp only [pls, List.mem_cons, List.mem_append] at hx
    rcases hx with rfl | hx | hx
    · exact hs
    · exact iha _ (by split <;> omega) x hx
    · exact ihb s hs x hx
theorem nth_cons0 (x : Int) (xs : List Int) : nth (x :: xs) 0 = x := rfl
theorem nth_cons1 (x : Int) (xs : List Int) (k : Nat) : nth (x :: xs) (k + 1) = nth xs k := rfl
theorem nth_left (xs ys : List Int) (k : Nat) (h : k < xs.length) : nth (xs ++ ys) k = nth xs k := by simp [nth, List.getD_eq_getElem?_getD, List.getElem?_append, h]
theorem nth_right (xs ys : List Int) (k : Nat) (h : xs.length ≤ k) : nth (xs ++ ys) k = nth ys (k - xs.length) := by simp [nth, List.getD_eq_getElem?_getD, List.getElem?_append, Nat.not_lt.2 h]

/-- Does the node k turn the polarity of the node i? -/
def flipB (xs : List Nd) (i k : Nat) : Bool := kd xs k == 4 && decide ((i : Int) < pe xs (xs.length - (k + 1)) 1 (k + 1))
def pol (xs : List Nd) (i : Nat) : Nat → Int
  | 0 => 1
  | k + 1 => if flipB xs i k then - pol xs i k else pol xs i k
theorem pol_one (xs : List Nd) (i : Nat) : ∀ k, pol xs i k = 1 ∨ pol xs i k = -1
  | 0 => .inl rfl
  | k + 1 => by have := pol_one xs i k; rw [pol]; split <;> omega
theorem flip_no {xs : List Nd} {i k : Nat} (h : kd xs k ≠ 4) : flipB xs i k = false := by
  have : (kd xs k == 4) = false := by simpa using h
  rw [flipB, this]; rfl
theorem flip_bi {xs : List Nd} {i p : Nat} {k : Int} {a b : Fm} {r : List Nd} (ha : a.ok) (h : xs.drop p = (Fm.bi k a b).enc ++ r) : flipB xs i p = (k == 4 && decide (i < p + 1 + a.sz)) := by
  have h1 : xs.drop (p + 1) = a.enc ++ (b.enc ++ r) := drop_next (x := (k, 0)) (by rw [h]; simp [Fm.enc])
  have hk : kd xs p = k := by rw [kd_at (x := (k, 0)) (r := a.enc ++ b.enc ++ r) (by rw [h]; simp [Fm.enc])]
  rw [flipB, hk, pe_end a ha h1]
  congr 1
  exact decide_eq_decide.2 (by omega)

theorem pol_past (f : Fm) (hf : f.ok) : ∀ (xs : List Nd) (p : Nat) (r : List Nd) (i : Nat), xs.drop p = f.enc ++ r → p + f.sz ≤ i → pol xs i (p + f.sz) = pol xs i p := by
  induction f with
  | va s =>
    intro xs p r i h hi
    show pol xs i (p + 1) = _
    rw [pol, flip_no, if_neg (by simp)]
    rw [kd_at (x := (0, s)) (r := r) h]; show (0 : Int) ≠ 4; decide
  | fa =>
    intro xs p r i h hi
    show pol xs i (p + 1) = _
    rw [pol, flip_no, if_neg (by simp)]
    rw [kd_at (x := (1, 0)) (r := r) h]; show (1 : Int) ≠ 4; decide
  | un k a ih =>
    intro xs p r i h hi
    have h1 : xs.drop (p + 1) = a.enc ++ r := drop_next (x := (k, 0)) (by rw [h]; simp [Fm.enc])
    have := ih hf.2 xs (p + 1) r i h1 (by simp only [Fm.sz] at hi; omega)
    rw [show p + (Fm.un k a).sz = p + 1 + a.sz by simp only [Fm.sz]; omega, this, pol, flip_no, if_neg (by simp)]
    rw [kd_at (x := (k, 0)) (r := a.enc ++ r) (by rw [h]; simp [Fm.enc])]
    have := hf.1
    show k ≠ 4
    omega
  | bi k a b iha ihb =>
    intro xs p r i h hi
    simp only [Fm.sz] at hi
    have h1 : xs.drop (p + 1) = a.enc ++ (b.enc ++ r) := drop_next (x := (k, 0)) (by rw [h]; simp [Fm.enc])
    have h2 : xs.drop (p + 1 + a.sz) = b.enc ++ r := by have := drop_add h1; rwa [Fm.enc_len] at this
    have e1 := iha hf.2.1 xs (p + 1) _ i h1 (by omega)
    have e2 := ihb hf.2.2 xs (p + 1 + a.sz) r i h2 (by omega)
    rw [show p + (Fm.bi k a b).sz = p + 1 + a.sz + b.sz by simp only [Fm.sz]; omega, e2, e1, pol, flip_bi hf.2.1 h]
    rw [show decide (i < p + 1 + a.sz) = false by simp; omega, Bool.and_false]
    rfl

theorem pol_in (f : Fm) (hf : f.ok) : ∀ (xs : List Nd) (p : Nat) (r : List Nd) (i : Nat), xs.drop p = f.enc ++ r → p ≤ i → i < p + f.sz → pol xs i i = nth (f.pls (pol xs i p)) (i - p) := by
  induction f with
  | va s =>
    intro xs p r i h hp hi
    simp only [Fm.sz] at hi
    obtain rfl : i = p := by omega
    rw [Nat.sub_self]; rfl
  | fa =>
    intro xs p r i h hp hi
    simp only [Fm.sz] at hi
    obtain rfl : i = p := by omega
    rw [Nat.sub_self]; rfl
  | un k a ih =>
    intro xs p r i h hp hi
    simp only [Fm.sz] at hi
    by_cases e : i = p
    · subst e; rw [Nat.sub_self]; rfl
    · have h1 : xs.drop (p + 1) = a.enc ++ r := drop_next (x := (k, 0)) (by rw [h]; simp [Fm.enc])
      have e1 := ih hf.2 xs (p + 1) r i h1 (by omega) (by omega)
      have e2 : pol xs i (p + 1) = pol xs i p := by
        rw [pol, flip_no, if_neg (by simp)]
        rw [kd_at (x := (k, 0)) (r := a.enc ++ r) (by rw [h]; simp [Fm.enc])]
        have := hf.1
        show k ≠ 4
        omega
      rw [e1, e2, show i - p = (i - (p + 1)) + 1 by omega]; rfl
  | bi k a b iha ihb =>
    intro xs p r i h hp hi
    simp only [Fm.sz] at hi
    have h1 : xs.drop (p + 1) = a.enc ++ (b.enc ++ r) := drop_next (x := (k, 0)) (by rw [h]; simp [Fm.enc])
    have h2 : xs.drop (p + 1 + a.sz) = b.enc ++ r := by have := drop_add h1; rwa [Fm.enc_len] at this
    by_cases e : i = p
    · subst e; rw [Nat.sub_self]; rfl
    · rw [show i - p = (i - (p + 1)) + 1 by omega]
      show _ = nth (a.pls _ ++ b.pls _) _
      by_cases e3 : i < p + 1 + a.sz
      · rw [iha hf.2.1 xs (p + 1) _ i h1 (by omega) e3, nth_left _ _ _ (by rw [Fm.pls_len]; omega), pol, flip_bi hf.2.1 h, show decide (i < p + 1 + a.sz) = true by simpa using e3, Bool.and_true]
        congr 2
        by_cases hk : k = 4
        · subst hk; rfl
        · rw [if_neg (by simpa using hk), if_neg hk]
      · rw [ihb hf.2.2 xs (p + 1 + a.sz) r i h2 (by omega) (by omega), nth_right _ _ _ (by rw [Fm.pls_len]; omega), Fm.pls_len, pol_past a hf.2.1 xs (p + 1) _ i h1 (by omega), pol, flip_bi hf.2.1 h,
          show decide (i < p + 1 + a.sz) = false by simpa using e3, Bool.and_false, if_neg (by simp), Nat.sub_sub]

/-- The polarity of the node i of a formula. -/
theorem pol_all {xs : List Nd} {f : Fm} (hf : f.ok) (h : xs = f.enc) {i : Nat} (hi : i < f.sz) : pol xs i i = nth (f.pls 1) i :=
  pol_in f hf xs 0 [] i (by rw [h]; simp) (Nat.zero_le _) (by omega)

/-- Guarded: the walk from i on, over the parts below no modal node. -/
def grd (xs : List Nd) (v : Int) : Nat → Nat → Bool
  | 0, _ => true
  | n + 1, i => if xs.length ≤ i then true else if kd xs i = 0 ∧ sy xs i = v then false else
      if prt (kd xs i) = 1 then grd xs v n (pe xs (xs.length - i) 1 i).toNat else grd xs v n (i + 1)
theorem grd_fuel (xs : List Nd) (v : Int) (hp : ∀ i, i < xs.length → (i : Int) < pe xs (xs.length - i) 1 i) : ∀ (n m i : Nat), xs.length ≤ i + n → xs.length ≤ i + m → grd xs v n i = grd xs v m i := by
  have stop : ∀ n i, xs.length ≤ i → grd xs v n i = true := fun n i h => by cases n with | zero => rfl | succ n => rw [grd, if_pos h]
  intro n
  induction n with
  | zero => intro m i hn hm; rw [stop m i (by omega)]; rfl
  | succ n ih =>
    intro m i hn hm
    by_cases h : xs.length ≤ i
    · rw [stop _ i h, stop _ i h]
    · cases m with
      | zero => omega
      | succ m =>
        have := hp i (by omega)
        rw [grd, grd, if_neg h, if_neg h]
        split
        · rfl
        · split
          · exact ih m _ (by omega) (by omega)
          · exact ih m _ (by omega) (by omega)

end Go.Proofs.YtfpnmeacnhcakaaDoor
