/- Contracts of the functions of chapter 1 behind CountMembers and MembersOf, and the walk of CountMembers' law. Conditions: those in the theorems. -/
import Derived.Test.YtngllobakfnhiaaDoorPop
import Derived.Test.YtngllobakfnhiaaDoorRefl
namespace Go.Proofs.YtngllobakfnhiaaDoor
open Go.RowKit

theorem cod_zero {n m : Int} (h : cod n m = 0) : 0 ≤ n ∧ n ≤ 30 ∧ 0 ≤ m ∧ m < 2 ^ n.toNat ∧ m < 1073741824 := by
  unfold cod at h
  cases h1 : inB n 0 30 <;> simp [h1] at h
  cases h2 : mskB n m
  · simp [h2] at h
  · have hb : 0 ≤ n ∧ n ≤ 30 := by simpa [inB] using h1
    rw [mskB, inB, full_eq n hb.1 hb.2] at h2
    have hp := pow_bd n hb.1 hb.2
    simp at h2
    exact ⟨hb.1, hb.2, h2.1, by omega, by omega⟩

def cntV (n m : Int) : Int := if cod n m = 0 then ((pop m.toNat : Nat) : Int) else 0
theorem cnt_ok {n m : Int} {k : Nat} (h : cod n m = 0) (hk : m = k) : Ending.returned (.tuple #[.int .i64 (pop k), .int .i64 0]) = .returned (.tuple #[.int .i64 (cntV n m), .int .i64 (cod n m)]) := by
  subst hk; rw [cntV, if_pos h, h]; rfl
theorem cnt_bad {n m c : Int} (h : ¬ cod n m = 0) (hc : c = cod n m) : Ending.returned (.tuple #[.int .i64 0, .int .i64 c]) = .returned (.tuple #[.int .i64 (cntV n m), .int .i64 (cod n m)]) := by rw [cntV, if_neg h, hc]

/-! Members -/
def bitN (m i : Nat) : Bool := decide (m / 2 ^ i % 2 = 1)
theorem bitB_nat (m i : Nat) (hm : m < 1073741824) : bitB m i = bitN m i := by
  have hd : m / 2 ^ i ≤ m := Nat.div_le_self _ _
  have e1 : ((m : Int) / 2 ^ ((i : Nat) : Int).toNat) = ((m / 2 ^ i : Nat) : Int) := by
    rw [Int.toNat_natCast]; simp
  unfold bitB bitN
  rw [e1, show bits .and .i64 ((m / 2 ^ i : Nat) : Int) 1 = bits .and .i64 ((m / 2 ^ i : Nat) : Int) ((1 : Nat) : Int) from rfl, iand _ _ (by omega) (by decide), Nat.and_one_is_mod]
  generalize m / 2 ^ i = q
  rw [Bool.eq_iff_iff]
  simp only [beq_iff_eq, decide_eq_true_eq]
  omega
def memTo (m : Nat) : Nat → List Int
  | 0 => []
  | k + 1 => if bitN m k then memTo m k ++ [((k : Nat) : Int)] else memTo m k
theorem memTo_len (m k : Nat) : (memTo m k).length ≤ k := by
  induction k with
  | zero => simp [memTo]
  | succ k ih =>
    rw [memTo]
    split
    · simp; omega
    · omega
theorem bitN_high {m i k : Nat} (h : m < 2 ^ i) (hk : i ≤ k) : bitN m k = false := by
  have : 2 ^ i ≤ 2 ^ k := Nat.pow_le_pow_right (by decide) hk
  unfold bitN
  rw [Nat.div_eq_of_lt (by omega)]
  rfl
theorem memTo_high {m i : Nat} (h : m < 2 ^ i) (k : Nat) (hk : i ≤ k) : memTo m k = memTo m i := by
  induction k with
  | zero => have : i = 0 := by omega
            subst this; rfl
  | succ k ih =>
    by_cases e : i = k + 1
    · rw [e]
    · rw [memTo, bitN_high h (by omega), ih (by omega)]; rfl

set_option maxHeartbeats 400000 in
theorem l01List_any (m : Nat) (hm : m < 1073741824) (w : World) :
    Calls Tryd.prog 19 #[.int .i64 m] w fun e w' => ∃ v, e = .returned v ∧ Own w' w.heap.size v (memTo m 30) ∧ Below w.heap.size w w' := by
  go_enter Tryd.func19, Tryd.ntmps19
  go_wp2
  go_loopw [0, 3, 4] (fun c v i wr => ∃ k q : Nat, k ≤ 30 ∧ q = m / 2 ^ k ∧ c = .int .i64 q ∧ i = .int .i64 k ∧ wr.ownsRow w.heap.size 2 1 v (memTo m k).length ((memTo m k).map (Value.int .i64)) ∧ Below w.heap.size w wr) (fun c _ _ _ => (intOf c).toNat)
  case atStart => exact ⟨0, m, by omega, by simp, rfl, rfl, World.ownsRow_lit w #[] 0 (Nat.le_refl _) (by unfold maxLen; omega) rfl, (Below.refl _ _).alloc (Nat.le_refl _) _⟩
  case round =>
    obtain ⟨k, q, hk, hq, rfl, rfl, hown, hbel⟩ := hrel
    have HQ := Lib.hid hq
    have HO := Lib.hid hown
    have hqm : q < 1073741824 := by have : m / 2 ^ k ≤ m := Nat.div_le_self _ _; omega
    have hlen := memTo_len m k
    have hnext : q / 2 = m / 2 ^ (k + 1) := by rw [hq, Nat.div_div_eq_div_mul, Nat.pow_succ]
    have HN := Lib.hid hnext
    have hzero : q = 0 → memTo m 30 = memTo m k := fun h => by
      refine memTo_high ?_ 30 hk
      rw [h] at hq
      have := (Nat.div_eq_zero_iff (a := m) (b := 2 ^ k)).1 hq.symm
      have hp : 0 < 2 ^ k := Nat.two_pow_pos k
      omega
    have HZ := Lib.hid hzero
    have hkk : 0 < q → k < 30 := fun h => by
      by_cases e : k = 30
      · subst e
        have : m / 2 ^ 30 = 0 := Nat.div_eq_of_lt (by omega)
        omega
      · omega
    have HKK := Lib.hid hkk
    have hbit : bitN m k = decide (q % 2 = 1) := by rw [hq]; rfl
    have HBI := Lib.hid hbit
    clear hq hown hnext hzero hkk hbit
    by_cases h0 : 0 < q
    · have hk30 := HKK.out h0
      by_cases hb : q % 2 = 1
      · have hb1 : ((q : Int) % 2 == 1) = true := by simp; omega
        have HB := Lib.hid hb
        clear hb
        go_wp2_with (at_builtin; refine list_app1 rfl _ _ rfl w.heap.size _ _ _ rfl (HO.out.alloc _) ⟨wr.heap.size, 0, none⟩ 1 _ rfl (World.cell?_alloc_at _ _ _ _ rfl) (by omega) (by have := hbel.size; simp; omega) ?_; intro v' w1 hown1 hgr1)
        go_roundw
        case rel => exact ⟨k + 1, q / 2, hk30, HN.out, by go_num, by go_num, (by rw [memTo, HBI.out, HB.out]; simpa using hown1), below_app hbel ((Below.refl _ _).alloc hbel.size _) hbel.size HO.out hgr1⟩
        case measure => simp [intOf]; omega
      · have hb1 : ((q : Int) % 2 == 1) = false := by simp; omega
        have HB := Lib.hid hb
        clear hb
        go_wp2
        go_roundw
        case rel => exact ⟨k + 1, q / 2, hk30, HN.out, by go_num, by go_num, (by rw [memTo, HBI.out, decide_eq_false HB.out]; exact HO.out), hbel⟩
        case measure => simp [intOf]; omega
    · obtain rfl : q = 0 := by omega
      go_wp2
      go_ret
      exact ⟨_, rfl, (by rw [HZ.out trivial]; exact HO.out), hbel⟩

end Go.Proofs.YtngllobakfnhiaaDoor
