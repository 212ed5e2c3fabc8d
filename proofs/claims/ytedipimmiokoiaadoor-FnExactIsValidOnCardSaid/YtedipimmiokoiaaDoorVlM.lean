/- The values of the models of a number: filled upward by the program, downward by the model. Plain mathematics. -/
import Derived.Test.YtedipimmiokoiaaDoorJn07
import Derived.Test.YtedipimmiokoiaaDoorJn05
import Derived.Test.YtedipimmiokoiaaDoorKinds
import Derived.Test.YtedipimmiokoiaaDoorJn08
import Derived.Test.YtedipimmiokoiaaDoorVarS
import Derived.Test.YtedipimmiokoiaaDoorJn09
namespace Go.Proofs.YtedipimmiokoiaaDoor
open Go.RowKit

def upF (F : Nat → Int) (vs : List Int) : Nat → Nat → Int
  | 0, _ => 0
  | i + 1, t => if t = (nth vs i).toNat then F i else upF F vs i t
def dnF (F : Nat → Int) (vs : List Int) (c : Nat) : Nat → Nat → Int
  | 0, _ => 0
  | m + 1, t => if t = (nth vs (c - 1 - m)).toNat then F (c - 1 - m) else dnF F vs c m t
theorem up_miss {F : Nat → Int} {vs : List Int} {t : Nat} : ∀ {k : Nat}, (∀ j, j < k → t ≠ (nth vs j).toNat) → upF F vs k t = 0
  | 0, _ => rfl
  | k + 1, h => by rw [upF, if_neg (h k (by omega)), up_miss (fun j hj => h j (by omega))]
theorem dn_miss {F : Nat → Int} {vs : List Int} {c t : Nat} : ∀ {m : Nat}, m ≤ c → (∀ j, j < c → c - m ≤ j → t ≠ (nth vs j).toNat) → dnF F vs c m t = 0
  | 0, _, _ => rfl
  | m + 1, hm, h => by rw [dnF, if_neg (h _ (by omega) (by omega)), dn_miss (by omega) (fun j hj h2 => h j hj (by omega))]
/-- The numbers differ. -/
def Dst (vs : List Int) (c : Nat) : Prop := ∀ i j, i < c → j < c → (nth vs i).toNat = (nth vs j).toNat → i = j
theorem up_hit {F : Nat → Int} {vs : List Int} {c t j : Nat} (hd : Dst vs c) (ht : t = (nth vs j).toNat) : ∀ {k : Nat}, k ≤ c → j < k → upF F vs k t = F j
  | 0, _, h => absurd h (by omega)
  | k + 1, hk, h => by
    rw [upF]
    by_cases e : t = (nth vs k).toNat
    · have := hd j k (by omega) (by omega) (by omega)
      rw [if_pos e, this]
    · rw [if_neg e]
      exact up_hit hd ht (by omega) (by
        by_cases e2 : j = k
        · subst e2; exact absurd ht e
        · omega)
theorem dn_hit {F : Nat → Int} {vs : List Int} {c t j : Nat} (hd : Dst vs c) (ht : t = (nth vs j).toNat) (hj : j < c) : ∀ {m : Nat}, m ≤ c → c - m ≤ j → dnF F vs c m t = F j
  | 0, _, h => absurd h (by omega)
  | m + 1, hm, h => by
    rw [dnF]
    by_cases e : t = (nth vs (c - 1 - m)).toNat
    · have := hd j (c - 1 - m) hj (by omega) (by omega)
      rw [if_pos e, this]
    · rw [if_neg e]
      exact dn_hit hd ht hj (by omega) (by
        by_cases e2 : j = c - 1 - m
        · subst e2; exact absurd ht e
        · omega)
theorem up_dn {F : Nat → Int} {vs : List Int} {c : Nat} (hd : Dst vs c) (t : Nat) : dnF F vs c c t = upF F vs c t := by
  by_cases h : ∃ j, j < c ∧ t = (nth vs j).toNat
  · obtain ⟨j, h1, h2⟩ := h
    rw [up_hit hd h2 (Nat.le_refl c) h1, dn_hit hd h2 h1 (Nat.le_refl c) (by omega)]
  · have h' : ∀ j, j < c → t ≠ (nth vs j).toNat := fun j h1 h2 => h ⟨j, h1, h2⟩
    rw [up_miss h', dn_miss (Nat.le_refl c) (fun j h1 _ => h' j h1)]
theorem up_set {F : Nat → Int} {vs : List Int} {k q : Nat} {z : Int} (hq : nth vs k = (q : Int)) (hz : z = F k) (t : Nat) : (if t = q then z else upF F vs k t) = upF F vs (k + 1) t := by
  rw [upF, hq, Int.toNat_natCast, hz]
theorem dn_set {F : Nat → Int} {vs : List Int} {c m q : Nat} {z : Int} (hq : nth vs (c - 1 - m) = (q : Int)) (hz : z = F (c - 1 - m)) (t : Nat) : (if t = q then z else dnF F vs c m t) = dnF F vs c (m + 1) t := by
  rw [dnF, hq, Int.toNat_natCast, hz]

theorem mkF_in {n c k j : Nat} : InMk n (mkF n c k j) := InMk.of (Nat.mod_lt _ (Nat.two_pow_pos n))
theorem upF_in {n : Nat} {F : Nat → Int} (hF : ∀ j, InMk n (F j)) (vs : List Int) (t : Nat) : ∀ k, InMk n (upF F vs k t)
  | 0 => InMk.zero n
  | k + 1 => by
    rw [upF]
    split
    · exact hF k
    · exact upF_in hF vs t k

/-- A list of variables. -/
structure Vs (vs : List Int) : Prop where
  l6 : vs.length ≤ 6
  lt : ∀ i, i < vs.length → ∃ q : Nat, nth vs i = q ∧ q < 6
  ds : Dst vs vs.length

/-- The values of the model with the number k. -/
def vlL (n : Nat) (vs : List Int) (k : Nat) : List Int := tab 6 (upF (mkF n vs.length k) vs vs.length)
theorem vlL_len (n : Nat) (vs : List Int) (k : Nat) : (vlL n vs k).length = 6 := tab_len _ _
theorem vlL_in (n : Nat) (vs : List Int) (k i : Nat) : InMk n (nth (vlL n vs k) i) := by
  by_cases h : i < 6
  · rw [vlL, tab_nth _ _ _ h]; exact upF_in (fun j => mkF_in) _ _ _
  · rw [nth_high (by rw [vlL_len]; omega)]; exact InMk.zero _
theorem vlL_mks (n : Nat) (hn : n ≤ 30) (vs : List Int) (k : Nat) : mksTo n (vlL n vs k) (vlL n vs k).length = true := (mksTo_iff hn _ _).2 fun i _ => vlL_in n vs k i
/-- The number, shifted down as far as the model has read it. -/
def shN (n k m : Nat) : Nat := k / 2 ^ (m * n)
theorem shN_next (n k m : Nat) : shN n k m / 2 ^ n = shN n k (m + 1) := by
  unfold shN
  rw [Nat.div_div_eq_div_mul, ← Nat.pow_add, Nat.succ_mul]
theorem shN_mk {n c k m : Nat} (h : m < c) : shN n k m % 2 ^ n = mkQ n c k (c - 1 - m) := by
  unfold shN mkQ
  rw [show c - 1 - (c - 1 - m) = m by omega]
theorem nth_app1 (xs : List Int) (z : Int) (i : Nat) : nth (xs ++ [z]) i = if i < xs.length then nth xs i else if i = xs.length then z else 0 := by
  show ((xs ++ [z])[i]?).getD 0 = _
  by_cases h : i < xs.length
  · rw [if_pos h, List.getElem?_append_left h]; rfl
  · rw [if_neg h, List.getElem?_append_right (by omega)]
    by_cases e : i = xs.length
    · subst e; simp
    · rw [if_neg e, List.getElem?_eq_none (by simp; omega)]; rfl
theorem memTo_inc (m : Nat) : ∀ k i j, i < j → j < (memTo m k).length → nth (memTo m k) i < nth (memTo m k) j := by
  intro k
  induction k with
  | zero => intro i j _ hj; simp [memTo] at hj
  | succ k ih =>
    intro i j hij hj
    rw [memTo] at hj ⊢
    split
    · rename_i hb
      rw [if_pos hb, List.length_append] at hj
      simp at hj
      rw [nth_app1, nth_app1]
      by_cases e : j < (memTo m k).length
      · rw [if_pos (by omega), if_pos e]; exact ih i j hij e
      · rw [if_pos (by omega), if_neg e, if_pos (by omega)]
        obtain ⟨p, hp, hl⟩ := memTo_ok m k i (by omega)
        omega
    · rename_i hb
      rw [if_neg hb] at hj
      exact ih i j hij hj
theorem mem_vs {m : Nat} (h : m < 64) : Vs (memTo m 30) := by
  have e : memTo m 30 = memTo m 6 := memTo_high (i := 6) h 30 (by omega)
  refine ⟨by rw [e]; have := memTo_len m 6; omega, fun i hi => ?_, fun i j hi hj hq => ?_⟩
  · rw [e] at hi ⊢
    obtain ⟨p, hp, hl⟩ := memTo_ok m 6 i hi
    exact ⟨p, hp, hl⟩
  · obtain ⟨p, hp1, -⟩ := memTo_ok m 30 i hi
    obtain ⟨r, hr1, -⟩ := memTo_ok m 30 j hj
    rcases Nat.lt_trichotomy i j with q | q | q
    · have := memTo_inc m 30 i j q hj; omega
    · exact q
    · have := memTo_inc m 30 j i q hi; omega

end Go.Proofs.YtedipimmiokoiaaDoor
