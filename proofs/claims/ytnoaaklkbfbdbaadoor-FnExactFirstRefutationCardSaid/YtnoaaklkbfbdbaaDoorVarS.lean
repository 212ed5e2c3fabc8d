/- The variables of a list of nodes, as the model lists them, and the model's test whether a list has a number. Conditions: those in the theorems. -/
import Derived.Test.YtnoaaklkbfbdbaaDoorJn09
import Derived.Test.YtnoaaklkbfbdbaaDoorJn04
import Derived.Test.YtnoaaklkbfbdbaaDoorFm
namespace Go.Proofs.YtnoaaklkbfbdbaaDoor
open Go.RowKit

def vrTo (xs : List Nd) : Nat → List Int
  | 0 => []
  | k + 1 => if kd xs k = 0 then vrTo xs k ++ [sy xs k] else vrTo xs k
def mkTo (xs : List Nd) : Nat → Nat
  | 0 => 0
  | k + 1 => if kd xs k = 0 then mkTo xs k ||| 2 ^ (sy xs k).toNat else mkTo xs k
theorem vrTo_len (xs : List Nd) (k : Nat) : (vrTo xs k).length ≤ k := by
  induction k with
  | zero => exact Nat.le_refl _
  | succ k ih =>
    rw [vrTo]
    split
    · simp; omega
    · omega
theorem sy_bd {xs : List Nd} {len k : Nat} (h : treeTo xs len = true) (hk : k < len) : ∃ q : Nat, sy xs k = q ∧ q ≤ 5 := by
  have := ok_at h hk
  simp only [okN, inB, Bool.and_eq_true, decide_eq_true_eq] at this
  obtain ⟨q, hq⟩ := Int.eq_ofNat_of_zero_le this.1.2.1
  exact ⟨q, hq, by omega⟩
theorem mkTo_lt {xs : List Nd} {len : Nat} (h : treeTo xs len = true) : ∀ k, k ≤ len → mkTo xs k < 64 := by
  intro k
  induction k with
  | zero => intro _; show 0 < 64; omega
  | succ k ih =>
    intro hk
    have := ih (by omega)
    rw [mkTo]
    split
    · obtain ⟨q, hq, hq5⟩ := sy_bd h (show k < len by omega)
      rw [hq, Int.toNat_natCast]
      have h1 : 2 ^ q < 2 ^ 6 := Nat.pow_lt_pow_right (by decide) (by omega)
      exact Nat.or_lt_two_pow (n := 6) this h1
    · exact this
theorem bit_test (m i : Nat) : bitN m i = m.testBit i := by
  rw [bitN, Nat.testBit_eq_decide_div_mod_eq]
theorem mkTo_bit {xs : List Nd} {len : Nat} (h : treeTo xs len = true) (i : Nat) : ∀ k, k ≤ len → (bitN (mkTo xs k) i = true ↔ (i : Int) ∈ vrTo xs k) := by
  intro k
  induction k with
  | zero => intro _; simp [mkTo, vrTo, bitN]
  | succ k ih =>
    intro hk
    have := ih (by omega)
    rw [mkTo, vrTo]
    split
    · obtain ⟨q, hq, hq5⟩ := sy_bd h (show k < len by omega)
      rw [hq, Int.toNat_natCast, bit_test, Nat.testBit_or, Bool.or_eq_true, ← bit_test, this, List.mem_append, Nat.testBit_two_pow]
      simp only [List.mem_singleton, decide_eq_true_eq]
      constructor
      · rintro (h1 | h1)
        · exact .inl h1
        · right; omega
      · rintro (h1 | h1)
        · exact .inl h1
        · right; omega
    · exact this
theorem mem_bit (m : Nat) (x : Int) : ∀ k, x ∈ memTo m k ↔ ∃ i, i < k ∧ bitN m i = true ∧ x = (i : Int) := by
  intro k
  induction k with
  | zero => simp [memTo]
  | succ k ih =>
    rw [memTo]
    split
    · rename_i hb
      rw [List.mem_append, ih]
      constructor
      · rintro (⟨i, h1, h2, h3⟩ | h)
        · exact ⟨i, by omega, h2, h3⟩
        · exact ⟨k, by omega, hb, by simpa using h⟩
      · rintro ⟨i, h1, h2, h3⟩
        by_cases e : i = k
        · subst e; right; simp [h3]
        · left; exact ⟨i, by omega, h2, h3⟩
    · rename_i hb
      rw [ih]
      constructor
      · rintro ⟨i, h1, h2, h3⟩; exact ⟨i, by omega, h2, h3⟩
      · rintro ⟨i, h1, h2, h3⟩
        by_cases e : i = k
        · subst e; exact absurd h2 hb
        · exact ⟨i, by omega, h2, h3⟩

set_option maxHeartbeats 1000000 in
theorem l02Variables_any (xs : List Nd) (a : Option Addr) (len cap : Nat) (w : World) (hl : len ≤ 40) (ht : treeTo xs len = true) (h : AtN w a len xs) :
    Calls Tryd.prog 36 #[.slice a len cap] w fun e w' => ∃ v, e = .returned v ∧ Own w' w.heap.size v (memTo (mkTo xs len) 30) ∧ Below w.heap.size w w' := by
  have H := Lib.hid h
  have T := Lib.hid ht
  clear h ht
  go_enter Tryd.func36, Tryd.ntmps36
  go_wp2
  go_loop [3, 4] (fun m i => ∃ k p : Nat, k ≤ len ∧ i = .int .i64 k ∧ m = .int .i64 p ∧ p = mkTo xs k) (fun _ i => len - (intOf i).toNat)
  case atStart => exact ⟨0, 0, Nat.zero_le _, rfl, rfl, rfl⟩
  case round =>
    obtain ⟨k, p, hk, rfl, rfl, hp⟩ := hrel
    have P := Lib.hid hp
    have hp64 : p < 64 := by rw [hp]; exact mkTo_lt T.out k hk
    clear hp
    by_cases hlt : k < len
    · obtain ⟨b, off, rfl, hb, hc⟩ := H.out.2.resolve_left (by omega)
      obtain ⟨hc1, hc2⟩ := hc k hlt
      clear hc
      cases hz : (kd xs k == 0)
      · have HS : Hid (p = mkTo xs (k + 1)) := by show p = _; rw [mkTo, if_neg (by simpa using hz), P.out]
        go_wp2
        go_round
        case rel => exact ⟨k + 1, p, hlt, by go_num, rfl, HS.out⟩
        case measure => simp [intOf]; omega
      · obtain ⟨q, hq, hq5⟩ := sy_bd T.out hlt
        rw [hq] at hc2
        have hpow : 2 ^ q < 2 ^ 6 := Nat.pow_lt_pow_right (by decide) (by omega)
        obtain ⟨r, hr⟩ : ∃ r, r = 2 ^ q := ⟨_, rfl⟩
        have h1 : one (q : Int) = (r : Int) := by rw [one_eq _ (by omega) (by omega), Int.toNat_natCast, hr]; simp
        rw [← hr] at hpow
        have hor : bits .or .i64 (p : Int) (r : Int) = ((p ||| r : Nat) : Int) := ior p r (by omega) (by omega)
        have HS : Hid (p ||| r = mkTo xs (k + 1)) := by show p ||| r = _; rw [mkTo, if_pos (by simpa using hz), P.out, hq, Int.toNat_natCast, hr]
        have H1 := Lib.hid h1
        obtain ⟨s, hs⟩ : ∃ s, s = p ||| r := ⟨_, rfl⟩
        rw [← hs] at hor HS
        clear h1 hq hr hs hpow
        go_wp2_with (go_at_call 37; refine (l01One_any _ _ (by omega) (by omega)).mono ?_; rw [H1.out]; rintro e w' ⟨rfl, rfl⟩)
        go_round
        case rel => exact ⟨k + 1, s, hlt, by go_num, by rw [← hor], HS.out⟩
        case measure => simp [intOf]; omega
    · obtain rfl : k = len := by omega
      go_wp2_with fail
      refine (l01List_any p (by omega) _).mono ?_
      rw [P.out]
      rintro e w1 ⟨v, rfl, ho, hb⟩
      have O := Lib.hid ho
      clear ho
      go_wp2
      go_ret
      exact ⟨_, rfl, O.out, hb⟩

theorem vr_mem (xs : List Nd) (x : Int) : ∀ k, x ∈ vrTo xs k ↔ ∃ j, j < k ∧ kd xs j = 0 ∧ sy xs j = x := by
  intro k
  induction k with
  | zero => simp [vrTo]
  | succ k ih =>
    rw [vrTo]
    split
    · rename_i h
      rw [List.mem_append, ih]
      simp only [List.mem_singleton]
      constructor
      · rintro (⟨j, h1, h2, h3⟩ | h1)
        · exact ⟨j, by omega, h2, h3⟩
        · exact ⟨k, by omega, h, h1.symm⟩
      · rintro ⟨j, h1, h2, h3⟩
        by_cases e : j = k
        · subst e; exact .inr h3.symm
        · exact .inl ⟨j, by omega, h2, h3⟩
    · rename_i h
      rw [ih]
      constructor
      · rintro ⟨j, h1, h2, h3⟩; exact ⟨j, by omega, h2, h3⟩
      · rintro ⟨j, h1, h2, h3⟩
        by_cases e : j = k
        · subst e; exact absurd h2 h
        · exact ⟨j, by omega, h2, h3⟩
theorem nd_mem (xs : List Nd) (x : Int) : ((0 : Int), x) ∈ xs ↔ ∃ j, j < xs.length ∧ kd xs j = 0 ∧ sy xs j = x := by
  constructor
  · intro h
    obtain ⟨j, hj, e⟩ := List.getElem_of_mem h
    refine ⟨j, hj, ?_, ?_⟩
    · simp [kd, List.getD_eq_getElem?_getD, hj, e]
    · simp [sy, List.getD_eq_getElem?_getD, hj, e]
  · rintro ⟨j, hj, h1, h2⟩
    have e : xs[j] = ((0 : Int), x) := by
      refine Prod.ext ?_ ?_
      · have : kd xs j = xs[j].1 := by simp [kd, List.getD_eq_getElem?_getD, hj]
        rw [← this, h1]
      · have : sy xs j = xs[j].2 := by simp [sy, List.getD_eq_getElem?_getD, hj]
        rw [← this, h2]
    rw [← e]
    exact List.getElem_mem hj
theorem vars_has {xs : List Nd} (ht : treeTo xs xs.length = true) {q : Nat} (hq : q ≤ 5) : ((q : Int) ∈ memTo (mkTo xs xs.length) 30) ↔ ((0 : Int), (q : Int)) ∈ xs := by
  rw [mem_bit, nd_mem, ← vr_mem, ← mkTo_bit ht q xs.length (Nat.le_refl _)]
  constructor
  · rintro ⟨i, -, h1, h2⟩
    have : i = q := by omega
    subst this
    exact h1
  · intro h
    exact ⟨q, by omega, h, rfl⟩

end Go.Proofs.YtnoaaklkbfbdbaaDoor
