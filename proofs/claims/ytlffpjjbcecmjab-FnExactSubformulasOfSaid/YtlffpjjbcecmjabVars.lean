/- Contracts of VariablesOf of the model and of the program, at every list of nodes. Conditions: those in the theorems. -/
import Derived.Test.YtlffpjjbcecmjabPart
import Derived.Test.YtlffpjjbcecmjabKinds
import Derived.Test.YtlffpjjbcecmjabOwnI
import Derived.Test.YtlffpjjbcecmjabUniq
import Derived.Test.YtlffpjjbcecmjabMem
import Derived.Test.YtlffpjjbcecmjabLay
import Derived.Shelf.SortM.Plain
import Derived.Shelf.SortM.SortNone
import Derived.Shelf.SlicesE.Compact
namespace Go.Proofs.Ytlffpjjbcecmjab
open Go.RowKit Go.Sort Go.Lib

def vrTo (xs : List Nd) : Nat → List Int
  | 0 => []
  | k + 1 => if kd xs k = 0 then vrTo xs k ++ [sy xs k] else vrTo xs k
def mkTo (xs : List Nd) : Nat → Nat
  | 0 => 0
  | k + 1 => if kd xs k = 0 then mkTo xs k ||| 2 ^ (sy xs k).toNat else mkTo xs k
theorem vrTo_len (xs : List Nd) (k : Nat) : (vrTo xs k).length ≤ k := by
  induction k with
  | zero => exact Nat.le_refl _
  | succ k ih =>
    rw [vrTo]
    split
    · simp; omega
    · omega
theorem sy_bd {xs : List Nd} {len k : Nat} (h : treeTo xs len = true) (hk : k < len) : ∃ q : Nat, sy xs k = q ∧ q ≤ 5 := by
  have := ok_at h hk
  simp only [okN, inB, Bool.and_eq_true, decide_eq_true_eq] at this
  obtain ⟨q, hq⟩ := Int.eq_ofNat_of_zero_le this.1.2.1
  exact ⟨q, hq, by omega⟩
theorem mkTo_lt {xs : List Nd} {len : Nat} (h : treeTo xs len = true) : ∀ k, k ≤ len → mkTo xs k < 64 := by
  intro k
  induction k with
  | zero => intro _; show 0 < 64; omega
  | succ k ih =>
    intro hk
    have := ih (by omega)
    rw [mkTo]
    split
    · obtain ⟨q, hq, hq5⟩ := sy_bd h (show k < len by omega)
      rw [hq, Int.toNat_natCast]
      have h1 : 2 ^ q < 2 ^ 6 := Nat.pow_lt_pow_right (by decide) (by omega)
      exact Nat.or_lt_two_pow (n := 6) this h1
    · exact this
theorem bit_test (m i : Nat) : bitN m i = m.testBit i := by
  rw [bitN, Nat.testBit_eq_decide_div_mod_eq]
theorem mkTo_bit {xs : List Nd} {len : Nat} (h : treeTo xs len = true) (i : Nat) : ∀ k, k ≤ len → (bitN (mkTo xs k) i = true ↔ (i : Int) ∈ vrTo xs k) := by
  intro k
  induction k with
  | zero => intro _; simp [mkTo, vrTo, bitN]
  | succ k ih =>
    intro hk
    have := ih (by omega)
    rw [mkTo, vrTo]
    split
    · obtain ⟨q, hq, hq5⟩ := sy_bd h (show k < len by omega)
      rw [hq, Int.toNat_natCast, bit_test, Nat.testBit_or, Bool.or_eq_true, ← bit_test, this, List.mem_append, Nat.testBit_two_pow]
      simp only [List.mem_singleton, decide_eq_true_eq]
      constructor
      · rintro (h1 | h1)
        · exact .inl h1
        · right; omega
      · rintro (h1 | h1)
        · exact .inl h1
        · right; omega
    · exact this
theorem mem_bit (m : Nat) (x : Int) : ∀ k, x ∈ memTo m k ↔ ∃ i, i < k ∧ bitN m i = true ∧ x = (i : Int) := by
  intro k
  induction k with
  | zero => simp [memTo]
  | succ k ih =>
    rw [memTo]
    split
    · rename_i hb
      rw [List.mem_append, ih]
      constructor
      · rintro (⟨i, h1, h2, h3⟩ | h)
        · exact ⟨i, by omega, h2, h3⟩
        · exact ⟨k, by omega, hb, by simpa using h⟩
      · rintro ⟨i, h1, h2, h3⟩
        by_cases e : i = k
        · subst e; right; simp [h3]
        · left; exact ⟨i, by omega, h2, h3⟩
    · rename_i hb
      rw [ih]
      constructor
      · rintro ⟨i, h1, h2, h3⟩; exact ⟨i, by omega, h2, h3⟩
      · rintro ⟨i, h1, h2, h3⟩
        by_cases e : i = k
        · subst e; exact absurd h2 hb
        · exact ⟨i, by omega, h2, h3⟩
theorem mem_up (m : Nat) : ∀ k, (memTo m k).Pairwise (· < ·) := by
  intro k
  induction k with
  | zero => simp [memTo]
  | succ k ih =>
    rw [memTo]
    split
    · refine up_snoc _ ih fun y hy => ?_
      obtain ⟨i, h1, -, rfl⟩ := (mem_bit m y k).1 hy
      omega
    · exact ih
theorem sort_up (zs : List Int) : ∀ i, i + 1 < zs.length → ¬ ((zs.mergeSort fun x y => decide (x ≤ y)).toArray[i + 1]! < (zs.mergeSort fun x y => decide (x ≤ y)).toArray[i]!) := by
  intro i hi
  have hp := List.pairwise_mergeSort (le := fun x y : Int => decide (x ≤ y)) (fun a b c h1 h2 => by simp at h1 h2 ⊢; omega) (fun a b => by simp; omega) zs
  have hl : (zs.mergeSort fun x y => decide (x ≤ y)).length = zs.length := List.length_mergeSort zs
  rw [List.pairwise_iff_getElem] at hp
  have := hp i (i + 1) (by omega) (by omega) (by omega)
  simp at this
  rw [getElem!_pos _ _ (by simp; omega), getElem!_pos _ _ (by simp; omega)]
  simp
  exact this
/-- The variables, sorted and each once, are the members of the mask. -/
theorem vars_compact {xs : List Nd} {len : Nat} (h : treeTo xs len = true) :
    compactUpTo ((vrTo xs len).mergeSort fun x y => decide (x ≤ y)).toArray (vrTo xs len).length = memTo (mkTo xs len) 30 := by
  obtain ⟨s, hs⟩ : ∃ s, s = (vrTo xs len).mergeSort fun x y => decide (x ≤ y) := ⟨_, rfl⟩
  have hl : s.length = (vrTo xs len).length := by rw [hs]; exact List.length_mergeSort _
  have hsort := sort_up (vrTo xs len)
  rw [← hs] at hsort ⊢
  obtain ⟨h1, h2, -⟩ := compact_up (· < ·) (fun x y z (a : x < y) (b : y < z) => by omega) (fun x y (a : ¬ y < x) (b : x ≠ y) => by show x < y; omega) s.toArray (vrTo xs len).length hsort (vrTo xs len).length (Nat.le_refl _)
  refine up_uniq (· < ·) (fun x y z (a : x < y) (b : y < z) => by show x < z; omega) (fun x (a : x < x) => by omega) _ _ h1 (mem_up _ _) fun x => ?_
  rw [h2 x, mem_bit]
  have hm : x ∈ s ↔ x ∈ vrTo xs len := by rw [hs]; exact List.mem_mergeSort
  have hmem : (∃ j, j < (vrTo xs len).length ∧ s.toArray[j]! = x) ↔ x ∈ s := by
    constructor
    · rintro ⟨j, hj, e⟩
      rw [getElem!_pos _ _ (by simp; omega)] at e
      rw [← e]
      simp
    · intro hx
      obtain ⟨j, hj, e⟩ := List.getElem_of_mem hx
      exact ⟨j, by omega, by rw [getElem!_pos _ _ (by simpa using hj)]; simpa using e⟩
  rw [hmem, hm]
  constructor
  · intro hx
    have hq : ∃ q : Nat, x = q ∧ q ≤ 5 := by
      have : ∀ k, k ≤ len → x ∈ vrTo xs k → ∃ q : Nat, x = q ∧ q ≤ 5 := by
        intro k
        induction k with
        | zero => intro _ hx; simp [vrTo] at hx
        | succ k ih =>
          intro hk hx
          rw [vrTo] at hx
          split at hx
          · rcases List.mem_append.1 hx with h3 | h3
            · exact ih (by omega) h3
            · obtain ⟨q, hq, hq5⟩ := sy_bd h (show k < len by omega)
              simp at h3
              exact ⟨q, by rw [h3, hq], hq5⟩
          · exact ih (by omega) hx
      exact this len (Nat.le_refl _) hx
    obtain ⟨q, rfl, hq⟩ := hq
    exact ⟨q, by omega, (mkTo_bit h q len (Nat.le_refl _)).2 hx, rfl⟩
  · rintro ⟨i, h3, h4, rfl⟩
    exact (mkTo_bit h i len (Nat.le_refl _)).1 h4

def vaR (xs : List Nd) : List Int := if isB xs xs.length then memTo (mkTo xs xs.length) 30 else []
def vaC (xs : List Nd) : Int := if isB xs xs.length then 0 else 1
theorem VariablesOf_len (xs : List Nd) : (vaR xs).length ≤ 1048576 := by
  unfold vaR
  split
  · have := memTo_len (mkTo xs xs.length) 30; omega
  · exact Nat.zero_le _
theorem va_bad {xs : List Nd} (h : isB xs xs.length = false) : vaR xs = [] ∧ vaC xs = 1 := by unfold vaR vaC; rw [h]; exact ⟨rfl, rfl⟩
theorem va_good {xs : List Nd} (h : isB xs xs.length = true) : vaR xs = memTo (mkTo xs xs.length) 30 ∧ vaC xs = 0 := by unfold vaR vaC; rw [h]; exact ⟨rfl, rfl⟩

set_option maxHeartbeats 1000000 in
theorem l02Variables_any (xs : List Nd) (a : Option Addr) (len cap : Nat) (w : World) (hl : len ≤ 40) (ht : treeTo xs len = true) (h : AtN w a len xs) :
    Calls Try.prog 29 #[.slice a len cap] w fun e w' => ∃ v, e = .returned v ∧ Own w' w.heap.size v (memTo (mkTo xs len) 30) ∧ Below w.heap.size w w' := by
  have H := Lib.hid h
  have T := Lib.hid ht
  clear h ht
  go_enter Try.func29, Try.ntmps29
  go_wp2
  go_loop [3, 4] (fun m i => ∃ k p : Nat, k ≤ len ∧ i = .int .i64 k ∧ m = .int .i64 p ∧ p = mkTo xs k) (fun _ i => len - (intOf i).toNat)
  case atStart => exact ⟨0, 0, Nat.zero_le _, rfl, rfl, rfl⟩
  case round =>
    obtain ⟨k, p, hk, rfl, rfl, hp⟩ := hrel
    have P := Lib.hid hp
    have hp64 : p < 64 := by rw [hp]; exact mkTo_lt T.out k hk
    clear hp
    by_cases hlt : k < len
    · obtain ⟨b, off, rfl, hb, hc⟩ := H.out.2.resolve_left (by omega)
      obtain ⟨hc1, hc2⟩ := hc k hlt
      clear hc
      cases hz : (kd xs k == 0)
      · have HS : Hid (p = mkTo xs (k + 1)) := by show p = _; rw [mkTo, if_neg (by simpa using hz), P.out]
        go_wp2
        go_round
        case rel => exact ⟨k + 1, p, hlt, by go_num, rfl, HS.out⟩
        case measure => simp [intOf]; omega
      · obtain ⟨q, hq, hq5⟩ := sy_bd T.out hlt
        rw [hq] at hc2
        have hpow : 2 ^ q < 2 ^ 6 := Nat.pow_lt_pow_right (by decide) (by omega)
        obtain ⟨r, hr⟩ : ∃ r, r = 2 ^ q := ⟨_, rfl⟩
        have h1 : one (q : Int) = (r : Int) := by rw [one_eq _ (by omega) (by omega), Int.toNat_natCast, hr]; simp
        rw [← hr] at hpow
        have hor : bits .or .i64 (p : Int) (r : Int) = ((p ||| r : Nat) : Int) := ior p r (by omega) (by omega)
        have HS : Hid (p ||| r = mkTo xs (k + 1)) := by show p ||| r = _; rw [mkTo, if_pos (by simpa using hz), P.out, hq, Int.toNat_natCast, hr]
        have H1 := Lib.hid h1
        obtain ⟨s, hs⟩ : ∃ s, s = p ||| r := ⟨_, rfl⟩
        rw [← hs] at hor HS
        clear h1 hq hr hs hpow
        go_wp2_with (go_at_call 46; refine (l01One_any _ _ (by omega) (by omega)).mono ?_; rw [H1.out]; rintro e w' ⟨rfl, rfl⟩)
        go_round
        case rel => exact ⟨k + 1, s, hlt, by go_num, by rw [← hor], HS.out⟩
        case measure => simp [intOf]; omega
    · obtain rfl : k = len := by omega
      go_wp2_with fail
      refine (l01List_any p (by omega) _).mono ?_
      rw [P.out]
      rintro e w1 ⟨v, rfl, ho, hb⟩
      have O := Lib.hid ho
      clear ho
      go_wp2
      go_ret
      exact ⟨_, rfl, O.out, hb⟩

set_option maxHeartbeats 400000 in
theorem specVariablesOf_v (x0 : List Nd) (v : Value) (lo hi : Nat) (w : World) (hl : x0.length ≤ 1048576) (h : InN w lo hi v x0) :
    Calls Try.prog 9 #[v] w fun e w' => ∃ v', e = .returned (.tuple #[v', .int .i64 (vaC x0)]) ∧ Own w' w.heap.size v' (vaR x0) ∧ Below w.heap.size w w' := by
  obtain ⟨a, cap, rfl, hat⟩ := h.at
  have H := Lib.hid hat
  clear h hat
  cases hb : isB x0 x0.length
  · obtain ⟨e1, e2⟩ := va_bad hb
    rw [e1, e2]
    have HB := Lib.hid hb
    clear hb e1 e2
    go_enter Try.func9, Try.ntmps9
    go_wp2_with (go_at_call 28; refine (l02Is_any _ _ _ _ _ hl H.out).mono ?_; rw [HB.out]; rintro e w' ⟨rfl, rfl⟩)
    go_ret2
    exact ⟨_, rfl, ownI_nil _ _, Below.refl _ _⟩
  · obtain ⟨e1, e2⟩ := va_good hb
    rw [e1, e2]
    obtain ⟨ht, h40⟩ := is_tree hb
    have HB := Lib.hid hb
    have HT := Lib.hid ht
    clear hb e1 e2 ht
    go_enter Try.func9, Try.ntmps9
    go_wp2_with fail
    refine (l02Is_any _ _ _ _ _ hl H.out).mono ?_
    rw [HB.out]
    rintro e w' ⟨rfl, rfl⟩
    go_wp2_with fail
    refine (l02Variables_any x0 _ _ _ _ h40 HT.out H.out).mono ?_
    rintro e w1 ⟨v1, rfl, ho, hb⟩
    have O := Lib.hid ho
    clear ho
    go_wp2
    go_ret2
    exact ⟨_, rfl, O.out, hb⟩

end Go.Proofs.Ytlffpjjbcecmjab
