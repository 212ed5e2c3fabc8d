/- 3 texts in one: Mem, Memb, SubsMath. -/
import Derived.Test.YtomldealpmohhaaPop
import Derived.Test.YtomldealpmohhaaJn03
/- Contracts of the functions of chapter 1 behind CountMembers and MembersOf, and the walk of CountMembers' law. Conditions: those in the theorems. -/
namespace Go.Proofs.Ytomldealpmohhaa
open Go.RowKit

theorem cod_zero {n m : Int} (h : cod n m = 0) : 0 ≤ n ∧ n ≤ 30 ∧ 0 ≤ m ∧ m < 2 ^ n.toNat ∧ m < 1073741824 := by
  unfold cod at h
  cases h1 : inB n 0 30 <;> simp [h1] at h
  cases h2 : mskB n m
  · simp [h2] at h
  · have hb : 0 ≤ n ∧ n ≤ 30 := by simpa [inB] using h1
    rw [mskB, inB, full_eq n hb.1 hb.2] at h2
    have hp := pow_bd n hb.1 hb.2
    simp at h2
    exact ⟨hb.1, hb.2, h2.1, by omega, by omega⟩

def cntV (n m : Int) : Int := if cod n m = 0 then ((pop m.toNat : Nat) : Int) else 0
theorem cnt_ok {n m : Int} {k : Nat} (h : cod n m = 0) (hk : m = k) : Ending.returned (.tuple #[.int .i64 (pop k), .int .i64 0]) = .returned (.tuple #[.int .i64 (cntV n m), .int .i64 (cod n m)]) := by
  subst hk; rw [cntV, if_pos h, h]; rfl
theorem cnt_bad {n m c : Int} (h : ¬ cod n m = 0) (hc : c = cod n m) : Ending.returned (.tuple #[.int .i64 0, .int .i64 c]) = .returned (.tuple #[.int .i64 (cntV n m), .int .i64 (cod n m)]) := by rw [cntV, if_neg h, hc]

/-! Members -/
def bitN (m i : Nat) : Bool := decide (m / 2 ^ i % 2 = 1)
theorem bitB_nat (m i : Nat) (hm : m < 1073741824) : bitB m i = bitN m i := by
  have hd : m / 2 ^ i ≤ m := Nat.div_le_self _ _
  have e1 : ((m : Int) / 2 ^ ((i : Nat) : Int).toNat) = ((m / 2 ^ i : Nat) : Int) := by
    rw [Int.toNat_natCast]; simp
  unfold bitB bitN
  rw [e1, show bits .and .i64 ((m / 2 ^ i : Nat) : Int) 1 = bits .and .i64 ((m / 2 ^ i : Nat) : Int) ((1 : Nat) : Int) from rfl, iand _ _ (by omega) (by decide), Nat.and_one_is_mod]
  generalize m / 2 ^ i = q
  rw [Bool.eq_iff_iff]
  simp only [beq_iff_eq, decide_eq_true_eq]
  omega
def memTo (m : Nat) : Nat → List Int
  | 0 => []
  | k + 1 => if bitN m k then memTo m k ++ [((k : Nat) : Int)] else memTo m k
theorem memTo_len (m k : Nat) : (memTo m k).length ≤ k := by
  induction k with
  | zero => simp [memTo]
  | succ k ih =>
    rw [memTo]
    split
    · simp; omega
    · omega
theorem bitN_high {m i k : Nat} (h : m < 2 ^ i) (hk : i ≤ k) : bitN m k = false := by
  have : 2 ^ i ≤ 2 ^ k := Nat.pow_le_pow_right (by decide) hk
  unfold bitN
  rw [Nat.div_eq_of_lt (by omega)]
  rfl
theorem memTo_high {m i : Nat} (h : m < 2 ^ i) (k : Nat) (hk : i ≤ k) : memTo m k = memTo m i := by
  induction k with
  | zero => have : i = 0 := by omega
            subst this; rfl
  | succ k ih =>
    by_cases e : i = k + 1
    · rw [e]
    · rw [memTo, bitN_high h (by omega), ih (by omega)]; rfl

set_option maxHeartbeats 400000 in
theorem l01List_any (m : Nat) (hm : m < 1073741824) (w : World) :
    Calls Try.prog 58 #[.int .i64 m] w fun e w' => ∃ v, e = .returned v ∧ Own w' w.heap.size v (memTo m 30) ∧ Below w.heap.size w w' := by
  go_enter Try.func58, Try.ntmps58
  go_wp2
  go_loopw [0, 3, 4] (fun c v i wr => ∃ k q : Nat, k ≤ 30 ∧ q = m / 2 ^ k ∧ c = .int .i64 q ∧ i = .int .i64 k ∧ wr.ownsRow w.heap.size 2 1 v (memTo m k).length ((memTo m k).map (Value.int .i64)) ∧ Below w.heap.size w wr) (fun c _ _ _ => (intOf c).toNat)
  case atStart => exact ⟨0, m, by omega, by simp, rfl, rfl, World.ownsRow_lit w #[] 0 (Nat.le_refl _) (by unfold maxLen; omega) rfl, (Below.refl _ _).alloc (Nat.le_refl _) _⟩
  case round =>
    obtain ⟨k, q, hk, hq, rfl, rfl, hown, hbel⟩ := hrel
    have HQ := Lib.hid hq
    have HO := Lib.hid hown
    have hqm : q < 1073741824 := by have : m / 2 ^ k ≤ m := Nat.div_le_self _ _; omega
    have hlen := memTo_len m k
    have hnext : q / 2 = m / 2 ^ (k + 1) := by rw [hq, Nat.div_div_eq_div_mul, Nat.pow_succ]
    have HN := Lib.hid hnext
    have hzero : q = 0 → memTo m 30 = memTo m k := fun h => by
      refine memTo_high ?_ 30 hk
      rw [h] at hq
      have := (Nat.div_eq_zero_iff (a := m) (b := 2 ^ k)).1 hq.symm
      have hp : 0 < 2 ^ k := Nat.two_pow_pos k
      omega
    have HZ := Lib.hid hzero
    have hkk : 0 < q → k < 30 := fun h => by
      by_cases e : k = 30
      · subst e
        have : m / 2 ^ 30 = 0 := Nat.div_eq_of_lt (by omega)
        omega
      · omega
    have HKK := Lib.hid hkk
    have hbit : bitN m k = decide (q % 2 = 1) := by rw [hq]; rfl
    have HBI := Lib.hid hbit
    clear hq hown hnext hzero hkk hbit
    by_cases h0 : 0 < q
    · have hk30 := HKK.out h0
      by_cases hb : q % 2 = 1
      · have hb1 : ((q : Int) % 2 == 1) = true := by simp; omega
        have HB := Lib.hid hb
        clear hb
        go_wp2_with (at_builtin; refine list_app1 rfl _ _ rfl w.heap.size _ _ _ rfl (HO.out.alloc _) ⟨wr.heap.size, 0, none⟩ 1 _ rfl (World.cell?_alloc_at _ _ _ _ rfl) (by omega) (by have := hbel.size; simp; omega) ?_; intro v' w1 hown1 hgr1)
        go_roundw
        case rel => exact ⟨k + 1, q / 2, hk30, HN.out, by go_num, by go_num, (by rw [memTo, HBI.out, HB.out]; simpa using hown1), below_app hbel ((Below.refl _ _).alloc hbel.size _) hbel.size HO.out hgr1⟩
        case measure => simp [intOf]; omega
      · have hb1 : ((q : Int) % 2 == 1) = false := by simp; omega
        have HB := Lib.hid hb
        clear hb
        go_wp2
        go_roundw
        case rel => exact ⟨k + 1, q / 2, hk30, HN.out, by go_num, by go_num, (by rw [memTo, HBI.out, decide_eq_false HB.out]; exact HO.out), hbel⟩
        case measure => simp [intOf]; omega
    · obtain rfl : q = 0 := by omega
      go_wp2
      go_ret
      exact ⟨_, rfl, (by rw [HZ.out trivial]; exact HO.out), hbel⟩

end Go.Proofs.Ytomldealpmohhaa

/- Contracts of MembersOf. Conditions: those in the theorems. -/
namespace Go.Proofs.Ytomldealpmohhaa
open Go.RowKit

theorem cod_pow {n m : Int} {k : Nat} (h : cod n m = 0) (hk : m = k) : k < 2 ^ n.toNat := by
  have hz := (cod_zero h).2.2.2.1
  subst hk
  exact_mod_cast hz
def membL (n m : Int) : List Int := outL (cod n m) (memTo m.toNat n.toNat)
theorem membL_len (n m : Int) : (membL n m).length ≤ 1048576 := by
  unfold membL outL
  split
  · rename_i h
    have h1 := cod_zero h
    have h2 := memTo_len m.toNat n.toNat
    omega
  · simp

set_option maxHeartbeats 1000000 in
theorem implMembersOf_any (n m : Int) (w : World) :
    Calls Try.prog 62 #[.int .i64 n, .int .i64 m] w fun e w' => ∃ v, e = .returned (.tuple #[v, .int .i64 (cod n m)]) ∧ Own w' w.heap.size v (outL (cod n m) (memTo m.toNat n.toNat)) ∧ Below w.heap.size w w' := by
  by_cases h0 : cod n m = 0
  · obtain ⟨i0, hi, hz0, hz1, hz2⟩ := info_parts info64
    have hz := cod_zero h0
    obtain ⟨k, rfl⟩ := Int.eq_ofNat_of_zero_le hz.2.2.1
    obtain ⟨j, rfl⟩ := Int.eq_ofNat_of_zero_le hz.1
    have hk : k < 1073741824 := by have := hz.2.2.2.2; omega
    have hj : j ≤ 30 := by have := hz.2.1; omega
    have hpl := pop_le k
    have H0 := Lib.hid h0
    clear h0 hz
    go_enter Try.func62, Try.ntmps62
    go_wp2_with (first | (go_at_call 99; refine (checkMask_any _ _ _).mono ?_; rw [H0.out]; rintro e w' ⟨rfl, rfl⟩) | (go_at_call 74; refine (countBits_any _ hk _).mono ?_; rintro e w' ⟨rfl, rfl⟩) | (at_make; refine wpList_make_own _ rfl _ _ 22 rfl w.heap.size 2 i0 (.int .i64 0) 1 Try.underlying22 hi hz0 hz1 _ _ _ (pop k) rfl rfl rfl ?b2 ?b3 (Nat.le_refl _) ?_))
    case b2 => rw [hz2]; omega
    case b3 => unfold maxLen; omega
    intro w0 hown0 hgrow0
    have HO0 := Lib.hid hown0
    clear hown0 hi hz0 hz1 hz2
    go_wp2
    go_loopw [7, 19] (fun v i wr => ∃ t : Nat, t ≤ j ∧ i = .int .i64 t ∧ wr.ownsRow w.heap.size 2 1 v (memTo k t).length ((memTo k t).map (Value.int .i64)) ∧ Below w.heap.size w wr) (fun _ i _ => j - (intOf i).toNat)
    case atStart => exact ⟨0, Nat.zero_le _, rfl, HO0.out, (Below.refl _ _).grown hgrow0 (Nat.le_refl _) (fun k h => by cases h)⟩
    case round =>
      obtain ⟨t, ht, rfl, hown, hbel⟩ := hrel
      clear hgrow0
      have HO := Lib.hid hown
      have hlen := memTo_len k t
      clear hown
      by_cases hlt : t < j
      · have hbb := bitB_nat k t hk
        cases hbit : bitN k t
        · have HB := Lib.hid hbit
          rw [hbit] at hbb
          clear hbit
          go_wp2_with (go_at_call 54; refine (hasMember_any _ _ _ (by omega) (by omega)).mono ?_; rintro e w' ⟨rfl, rfl⟩)
          go_roundw
          case rel => exact ⟨t + 1, hlt, by go_num, (by rw [memTo, HB.out]; exact HO.out), hbel⟩
          case measure => simp [intOf]; omega
        · have HB := Lib.hid hbit
          rw [hbit] at hbb
          clear hbit
          go_wp2_with (first | (go_at_call 54; refine (hasMember_any _ _ _ (by omega) (by omega)).mono ?_; rintro e w' ⟨rfl, rfl⟩) | (at_builtin; refine list_app1 rfl _ _ rfl w.heap.size _ _ _ rfl (HO.out.alloc _) ⟨wr.heap.size, 0, none⟩ 1 _ rfl (World.cell?_alloc_at _ _ _ _ rfl) (by omega) (by have := hbel.size; simp; omega) ?_; intro v' w1 hown1 hgr1))
          go_roundw
          case rel => exact ⟨t + 1, hlt, by go_num, (by rw [memTo, HB.out]; simpa using hown1), below_app hbel ((Below.refl _ _).alloc hbel.size _) hbel.size HO.out hgr1⟩
          case measure => simp [intOf]; omega
      · obtain rfl : t = j := by omega
        go_wp2
        go_ret2
        exact ⟨_, out_ok H0.out, Own.ok H0.out HO.out, hbel⟩
  · have H0 := Lib.hid h0
    clear h0
    obtain ⟨c, hc⟩ : ∃ c, c = cod n m := ⟨_, rfl⟩
    have hcn : (c == 0) = false := by rw [hc]; simpa using H0.out
    have hcn2 : (c != 0) = true := by rw [hc]; simpa using H0.out
    have HC := Lib.hid hc
    clear hc
    go_enter Try.func62, Try.ntmps62
    go_wp2_with (first | (go_at_call 99; refine (checkMask_any _ _ _).mono ?_; rw [← HC.out]; rintro e w' ⟨rfl, rfl⟩))
    go_ret2
    exact ⟨_, by rw [← HC.out]; rfl, Own.nil H0.out, Below.refl _ _⟩

end Go.Proofs.Ytomldealpmohhaa

/- The submasks of a mask in ascending order: the i-th one, its neighbours, and how they double. Plain mathematics. -/
namespace Go.Proofs.Ytomldealpmohhaa
open Go.RowKit

/-- The i-th submask of m (its lowest w digits). -/
def pd : Nat → Nat → Nat → Nat
  | 0, _, _ => 0
  | w + 1, i, m => if m % 2 = 0 then 2 * pd w i (m / 2) else 2 * pd w (i / 2) (m / 2) + i % 2
theorem pd_le (w i m : Nat) : pd w i m ≤ m := by
  induction w generalizing i m with
  | zero => simp [pd]
  | succ w ih =>
    rw [pd]
    split
    · have := ih i (m / 2); omega
    · have := ih (i / 2) (m / 2); omega
theorem pd_zero (w m : Nat) : pd w 0 m = 0 := by
  induction w generalizing m with
  | zero => rfl
  | succ w ih => rw [pd]; simp [ih]

theorem and2 (a b x y : Nat) (hx : x < 2) (hy : y < 2) : (2 * a + x) &&& (2 * b + y) = 2 * (a &&& b) + (x &&& y) := by
  have hxy : x &&& y < 2 ^ 1 := Nat.and_lt_two_pow _ hy
  have e : ∀ u v, 2 * u + v = 2 ^ 1 * u + v := fun u v => by omega
  rw [e a x, e b y, e (a &&& b) (x &&& y)]
  apply Nat.eq_of_testBit_eq
  intro i
  rw [Nat.testBit_and, Nat.testBit_two_pow_mul_add _ hx, Nat.testBit_two_pow_mul_add _ hy, Nat.testBit_two_pow_mul_add _ hxy]
  by_cases h : i < 1 <;> simp [h]
theorem or2 (a b x y : Nat) (hx : x < 2) (hy : y < 2) : (2 * a + x) ||| (2 * b + y) = 2 * (a ||| b) + (x ||| y) := by
  have hxy : x ||| y < 2 ^ 1 := Nat.or_lt_two_pow hx hy
  have e : ∀ u v, 2 * u + v = 2 ^ 1 * u + v := fun u v => by omega
  rw [e a x, e b y, e (a ||| b) (x ||| y)]
  apply Nat.eq_of_testBit_eq
  intro i
  rw [Nat.testBit_or, Nat.testBit_two_pow_mul_add _ hx, Nat.testBit_two_pow_mul_add _ hy, Nat.testBit_two_pow_mul_add _ hxy]
  by_cases h : i < 1 <;> simp [h]

theorem pd_and (w i m : Nat) : pd w i m &&& m = pd w i m := by
  induction w generalizing i m with
  | zero => simp [pd]
  | succ w ih =>
    rw [pd]
    split
    · rename_i h
      have e : m = 2 * (m / 2) + 0 := by omega
      have := and2 (pd w i (m / 2)) (m / 2) 0 0 (by decide) (by decide)
      rw [← e, ih] at this
      simpa using this
    · rename_i h
      have e : m = 2 * (m / 2) + 1 := by omega
      have := and2 (pd w (i / 2) (m / 2)) (m / 2) (i % 2) 1 (by omega) (by decide)
      rw [← e, ih, Nat.and_one_is_mod] at this
      rw [this]
      omega

theorem pd_same (w i m : Nat) (hm : m < 2 ^ w) : (2 ^ w - 1 - (m - pd w i m)) &&& m = pd w i m := by
  induction w generalizing i m with
  | zero => simp [pd]
  | succ w ih =>
    have e2 : (2 : Nat) ^ (w + 1) = 2 ^ w * 2 := Nat.pow_succ ..
    rw [e2] at hm
    by_cases h : m % 2 = 0
    · have hp : pd (w + 1) i m = 2 * pd w i (m / 2) := by rw [pd, if_pos h]
      have hl := pd_le w i (m / 2)
      have e : m = 2 * (m / 2) + 0 := by omega
      have e3 : 2 ^ (w + 1) - 1 - (m - pd (w + 1) i m) = 2 * (2 ^ w - 1 - (m / 2 - pd w i (m / 2))) + 1 := by rw [hp, e2]; omega
      have a := and2 (2 ^ w - 1 - (m / 2 - pd w i (m / 2))) (m / 2) 1 0 (by decide) (by decide)
      rw [← e, ← e3, ih i (m / 2) (by omega)] at a
      rw [a, hp]; rfl
    · have hp : pd (w + 1) i m = 2 * pd w (i / 2) (m / 2) + i % 2 := by rw [pd, if_neg h]
      have hl := pd_le w (i / 2) (m / 2)
      have e : m = 2 * (m / 2) + 1 := by omega
      have e3 : 2 ^ (w + 1) - 1 - (m - pd (w + 1) i m) = 2 * (2 ^ w - 1 - (m / 2 - pd w (i / 2) (m / 2))) + i % 2 := by rw [hp, e2]; omega
      have a := and2 (2 ^ w - 1 - (m / 2 - pd w (i / 2) (m / 2))) (m / 2) (i % 2) 1 (by omega) (by decide)
      rw [← e, ← e3, ih (i / 2) (m / 2) (by omega), Nat.and_one_is_mod] at a
      rw [a, hp]; omega
theorem pd_next (w i m : Nat) (hm : m < 2 ^ w) : (2 ^ w - (m - pd w i m)) &&& m = pd w (i + 1) m := by
  induction w generalizing i m with
  | zero => have : m = 0 := by simpa using hm
            subst this; simp [pd]
  | succ w ih =>
    have e2 : (2 : Nat) ^ (w + 1) = 2 ^ w * 2 := Nat.pow_succ ..
    rw [e2] at hm
    by_cases h : m % 2 = 0
    · have hp : ∀ j, pd (w + 1) j m = 2 * pd w j (m / 2) := fun j => by rw [pd, if_pos h]
      have hl := pd_le w i (m / 2)
      have e : m = 2 * (m / 2) + 0 := by omega
      have e3 : 2 ^ (w + 1) - (m - pd (w + 1) i m) = 2 * (2 ^ w - (m / 2 - pd w i (m / 2))) + 0 := by rw [hp, e2]; omega
      have a := and2 (2 ^ w - (m / 2 - pd w i (m / 2))) (m / 2) 0 0 (by decide) (by decide)
      rw [← e, ← e3, ih i (m / 2) (by omega)] at a
      rw [a, hp]; rfl
    · have hp : ∀ j, pd (w + 1) j m = 2 * pd w (j / 2) (m / 2) + j % 2 := fun j => by rw [pd, if_neg h]
      have hl := pd_le w (i / 2) (m / 2)
      have e : m = 2 * (m / 2) + 1 := by omega
      by_cases hi : i % 2 = 0
      · have e3 : 2 ^ (w + 1) - (m - pd (w + 1) i m) = 2 * (2 ^ w - 1 - (m / 2 - pd w (i / 2) (m / 2))) + 1 := by rw [hp, e2]; omega
        have a := and2 (2 ^ w - 1 - (m / 2 - pd w (i / 2) (m / 2))) (m / 2) 1 1 (by decide) (by decide)
        rw [← e, ← e3, pd_same w (i / 2) (m / 2) (by omega)] at a
        rw [a, hp, show (i + 1) / 2 = i / 2 by omega, show (i + 1) % 2 = 1 by omega]; rfl
      · have e3 : 2 ^ (w + 1) - (m - pd (w + 1) i m) = 2 * (2 ^ w - (m / 2 - pd w (i / 2) (m / 2))) + 0 := by rw [hp, e2]; omega
        have a := and2 (2 ^ w - (m / 2 - pd w (i / 2) (m / 2))) (m / 2) 0 1 (by decide) (by decide)
        rw [← e, ← e3, ih (i / 2) (m / 2) (by omega)] at a
        rw [a, hp, show (i + 1) / 2 = i / 2 + 1 by omega, show (i + 1) % 2 = 0 by omega]; rfl
theorem pd_last (w i m : Nat) (hm : m < 2 ^ w) (hi : i < 2 ^ pop m) : pd w i m = m ↔ i + 1 = 2 ^ pop m := by
  induction w generalizing i m with
  | zero => have : m = 0 := by simpa using hm
            subst this; rw [pop_zero] at hi ⊢; simp [pd]; omega
  | succ w ih =>
    have e2 : (2 : Nat) ^ (w + 1) = 2 ^ w * 2 := Nat.pow_succ ..
    rw [e2] at hm
    have hps := pop_step m
    by_cases h : m % 2 = 0
    · have hp : pd (w + 1) i m = 2 * pd w i (m / 2) := by rw [pd, if_pos h]
      have e : pop m = pop (m / 2) := by omega
      rw [e] at hi ⊢
      have := ih i (m / 2) (by omega) hi
      rw [hp, ← this]
      omega
    · have hp : pd (w + 1) i m = 2 * pd w (i / 2) (m / 2) + i % 2 := by rw [pd, if_neg h]
      have e : pop m = pop (m / 2) + 1 := by omega
      rw [e, Nat.pow_succ] at hi ⊢
      have := ih (i / 2) (m / 2) (by omega) (by omega)
      have hl := pd_le w (i / 2) (m / 2)
      rw [hp]
      constructor
      · intro he
        have h1 : pd w (i / 2) (m / 2) = m / 2 := by omega
        have h2 := this.1 h1
        omega
      · intro he
        have h1 := this.2 (by omega)
        omega

/-- The j-th member of m. -/
def mb : Nat → Nat → Nat → Nat
  | 0, _, _ => 0
  | w + 1, 0, m => if m % 2 = 0 then mb w 0 (m / 2) + 1 else 0
  | w + 1, j + 1, m => if m % 2 = 0 then mb w (j + 1) (m / 2) + 1 else mb w j (m / 2) + 1
theorem mb_even {w j m : Nat} (h : m % 2 = 0) : mb (w + 1) j m = mb w j (m / 2) + 1 := by cases j <;> rw [mb, if_pos h]
theorem mb_odd0 {w m : Nat} (h : ¬ m % 2 = 0) : mb (w + 1) 0 m = 0 := by rw [mb, if_neg h]
theorem mb_oddS {w j m : Nat} (h : ¬ m % 2 = 0) : mb (w + 1) (j + 1) m = mb w j (m / 2) + 1 := by rw [mb, if_neg h]
theorem pd_double (w j k m : Nat) (hm : m < 2 ^ w) (hj : j < pop m) (hk : k < 2 ^ j) : pd w (2 ^ j + k) m = pd w k m ||| 2 ^ mb w j m := by
  induction w generalizing j k m with
  | zero => have : m = 0 := by simpa using hm
            subst this; rw [pop_zero] at hj; omega
  | succ w ih =>
    have e2 : (2 : Nat) ^ (w + 1) = 2 ^ w * 2 := Nat.pow_succ ..
    rw [e2] at hm
    have hps := pop_step m
    by_cases h : m % 2 = 0
    · have hp : ∀ i, pd (w + 1) i m = 2 * pd w i (m / 2) := fun i => by rw [pd, if_pos h]
      have hb : mb (w + 1) j m = mb w j (m / 2) + 1 := mb_even h
      rw [hp, hp, hb, ih j k (m / 2) (by omega) (by omega) hk, Nat.pow_succ]
      have := or2 (pd w k (m / 2)) (2 ^ mb w j (m / 2)) 0 0 (by decide) (by decide)
      simp only [Nat.add_zero, Nat.or_zero] at this
      rw [Nat.mul_comm (2 ^ mb w j (m / 2)) 2, this]
    · have hp : ∀ i, pd (w + 1) i m = 2 * pd w (i / 2) (m / 2) + i % 2 := fun i => by rw [pd, if_neg h]
      cases j with
      | zero =>
        have hk0 : k = 0 := by simpa using hk
        subst hk0
        have hb : mb (w + 1) 0 m = 0 := mb_odd0 h
        rw [hp, hp, hb]
        simp [pd_zero]
      | succ j =>
        have hb : mb (w + 1) (j + 1) m = mb w j (m / 2) + 1 := mb_oddS h
        rw [Nat.pow_succ] at hk
        rw [hp, hp, hb, Nat.pow_succ, show (2 ^ j * 2 + k) / 2 = 2 ^ j + k / 2 by omega, show (2 ^ j * 2 + k) % 2 = k % 2 by omega, ih j (k / 2) (m / 2) (by omega) (by omega) (by omega), Nat.pow_succ]
        have := or2 (pd w (k / 2) (m / 2)) (2 ^ mb w j (m / 2)) (k % 2) 0 (by omega) (by decide)
        simp only [Nat.add_zero, Nat.or_zero] at this
        rw [Nat.mul_comm (2 ^ mb w j (m / 2)) 2, this]

theorem bitN_half (m w : Nat) : bitN m (w + 1) = bitN (m / 2) w := by
  unfold bitN; rw [Nat.div_div_eq_div_mul, Nat.pow_succ, Nat.mul_comm 2]
theorem memTo_half (m w : Nat) : memTo m (w + 1) = (if m % 2 = 0 then [] else [0]) ++ (memTo (m / 2) w).map (· + 1) := by
  induction w with
  | zero =>
    have : bitN m 0 = decide (m % 2 = 1) := by simp [bitN]
    show (if bitN m 0 then memTo m 0 ++ [((0 : Nat) : Int)] else memTo m 0) = _
    rw [this]
    by_cases h : m % 2 = 0
    · simp [memTo, h]
    · simp [memTo, show m % 2 = 1 by omega]
  | succ w ih =>
    rw [memTo, bitN_half, ih, memTo]
    cases bitN (m / 2) w <;> simp
theorem memTo_pop (w m : Nat) (hm : m < 2 ^ w) : (memTo m w).length = pop m := by
  induction w generalizing m with
  | zero => have : m = 0 := by simpa using hm
            subst this; rw [pop_zero]; rfl
  | succ w ih =>
    rw [memTo_half, List.length_append, List.length_map, ih (m / 2) (by rw [Nat.pow_succ] at hm; omega), pop_step m]
    by_cases h : m % 2 = 0
    · simp [h]
    · simp [show m % 2 = 1 by omega]
theorem memTo_nth (w j m : Nat) (hm : m < 2 ^ w) (hj : j < pop m) : nth (memTo m w) j = ((mb w j m : Nat) : Int) := by
  induction w generalizing j m with
  | zero => have : m = 0 := by simpa using hm
            subst this; rw [pop_zero] at hj; omega
  | succ w ih =>
    have hps := pop_step m
    have hm2 : m / 2 < 2 ^ w := by rw [Nat.pow_succ] at hm; omega
    have hl := memTo_pop w (m / 2) hm2
    have hmap : ∀ j, j < pop (m / 2) → nth ((memTo (m / 2) w).map (· + 1)) j = nth (memTo (m / 2) w) j + 1 := fun j h => by
      unfold nth; simp [List.getD, show j < (memTo (m / 2) w).length by omega]
    rw [memTo_half]
    by_cases h : m % 2 = 0
    · rw [mb_even h, if_pos h, List.nil_append, hmap j (by omega), ih j (m / 2) hm2 (by omega)]; rfl
    · rw [if_neg h]
      cases j with
      | zero => rw [mb_odd0 h]; rfl
      | succ j =>
        have hb : mb (w + 1) (j + 1) m = mb w j (m / 2) + 1 := mb_oddS h
        have e : nth ([0] ++ (memTo (m / 2) w).map (· + 1)) (j + 1) = nth ((memTo (m / 2) w).map (· + 1)) j := rfl
        rw [hb, e, hmap j (by omega), ih j (m / 2) hm2 (by omega)]; rfl
theorem mb_lt (w j m : Nat) (hm : m < 2 ^ w) (hj : j < pop m) : mb w j m < w := by
  induction w generalizing j m with
  | zero => have : m = 0 := by simpa using hm
            subst this; rw [pop_zero] at hj; omega
  | succ w ih =>
    have hps := pop_step m
    have hm2 : m / 2 < 2 ^ w := by rw [Nat.pow_succ] at hm; omega
    by_cases h : m % 2 = 0
    · rw [mb_even h]; have := ih j (m / 2) hm2 (by omega); omega
    · cases j with
      | zero => rw [mb_odd0 h]; omega
      | succ j =>
        have hb : mb (w + 1) (j + 1) m = mb w j (m / 2) + 1 := mb_oddS h
        rw [hb]; have := ih j (m / 2) hm2 (by omega); omega

end Go.Proofs.Ytomldealpmohhaa
