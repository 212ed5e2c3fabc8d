/- Contracts of ChooseMasks. Conditions: those in the theorems. -/
import Derived.Test.YtckkkleegohkfaaMem
namespace Go.Proofs.Ytckkkleegohkfaa
open Go.RowKit

def chTo (k : Nat) : Nat → List Int
  | 0 => []
  | t + 1 => if pop t = k then chTo k t ++ [((t : Nat) : Int)] else chTo k t
theorem chTo_len (k t : Nat) : (chTo k t).length ≤ t := by
  induction t with
  | zero => simp [chTo]
  | succ t ih =>
    rw [chTo]
    split
    · simp; omega
    · omega
def chC (n k : Int) : Int := if inB n 0 12 && inB k 0 n then 0 else 2
def chL (n k : Int) : List Int := chTo k.toNat (2 ^ n.toNat)
theorem chC_ok {n k : Int} (h1 : inB n 0 12 = true) (h2 : inB k 0 n = true) : chC n k = 0 := by simp [chC, h1, h2]
theorem chC_no1 {n k : Int} (h1 : inB n 0 12 = false) : chC n k = 2 := by simp [chC, h1]
theorem chC_no2 {n k : Int} (h1 : inB k 0 n = false) : chC n k = 2 := by simp [chC, h1]
theorem chL_len (n k : Int) : (outL (chC n k) (chL n k)).length ≤ 1048576 := by
  unfold outL
  split
  · rename_i h
    have h2 : inB n 0 12 = true := by
      cases h2 : inB n 0 12
      · rw [chC_no1 h2] at h; cases h
      · rfl
    have hb : 0 ≤ n ∧ n ≤ 12 := by simpa [inB] using h2
    have h3 := chTo_len k.toNat (2 ^ n.toNat)
    have h4 : 2 ^ n.toNat ≤ 2 ^ 12 := Nat.pow_le_pow_right (by decide) (by omega)
    unfold chL
    omega
  · simp
theorem ch_none {n k : Int} {w : World} (h : chC n k = 2) :
    ∃ v, Ending.returned (.tuple #[.slice none 0 0, .int .i64 2]) = .returned (.tuple #[v, .int .i64 (chC n k)]) ∧ Own w w.heap.size v (outL (chC n k) (chL n k)) ∧ Below w.heap.size w w :=
  ⟨_, by rw [h], Own.nil (by rw [h]; decide), Below.refl _ _⟩

set_option maxHeartbeats 1000000 in
theorem implChooseMasks_any (n k : Int) (w : World) :
    Calls Try.prog 43 #[.int .i64 n, .int .i64 k] w fun e w' => ∃ v, e = .returned (.tuple #[v, .int .i64 (chC n k)]) ∧ Own w' w.heap.size v (outL (chC n k) (chL n k)) ∧ Below w.heap.size w w' := by
  by_cases h1 : n < 0
  · go_enter Try.func43, Try.ntmps43
    go_wp2
    go_ret2
    exact ch_none (chC_no1 (by simp [inB]; omega))
  by_cases h2 : 12 < n
  · go_enter Try.func43, Try.ntmps43
    go_wp2
    go_ret2
    exact ch_none (chC_no1 (by simp [inB]; omega))
  by_cases h3 : k < 0
  · go_enter Try.func43, Try.ntmps43
    go_wp2
    go_ret2
    exact ch_none (chC_no2 (by simp [inB]; omega))
  by_cases h4 : n < k
  · go_enter Try.func43, Try.ntmps43
    go_wp2
    go_ret2
    exact ch_none (chC_no2 (by simp [inB]; omega))
  have hc : chC n k = 0 := chC_ok (by simp [inB]; omega) (by simp [inB]; omega)
  obtain ⟨j, rfl⟩ := Int.eq_ofNat_of_zero_le (show 0 ≤ n by omega)
  obtain ⟨q, rfl⟩ := Int.eq_ofNat_of_zero_le (show 0 ≤ k by omega)
  have hj : j ≤ 12 := by omega
  have hq : q ≤ j := by omega
  obtain ⟨N, hN⟩ : ∃ N : Nat, N = 2 ^ j := ⟨_, rfl⟩
  have hN2 : N ≤ 4096 := by
    have : 2 ^ j ≤ 2 ^ 12 := Nat.pow_le_pow_right (by decide) hj
    omega
  have hpow : (2 : Int) ^ j = (N : Int) := by rw [hN]; simp
  have HN := Lib.hid hN
  have HC := Lib.hid hc
  clear h1 h2 h3 h4 hN hc
  have d1 : decide ((j : Int) < 0) = false := decide_eq_false (by omega)
  have d2 : decide (12 < (j : Int)) = false := decide_eq_false (by omega)
  have d3 : decide ((q : Int) < 0) = false := decide_eq_false (by omega)
  have d4 : decide (j < q) = false := decide_eq_false (by omega)
  go_enter Try.func43, Try.ntmps43
  go_wp2
  clear hpow d1 d2 d3 d4
  go_loopw [6, 25] (fun v i wr => ∃ t : Nat, t ≤ N ∧ i = .int .i64 t ∧ wr.ownsRow w.heap.size 2 1 v (chTo q t).length ((chTo q t).map (Value.int .i64)) ∧ Below w.heap.size w wr) (fun _ i _ => N - (intOf i).toNat)
  case atStart => exact ⟨0, Nat.zero_le _, rfl, World.ownsRow_nil _ _ _ _, Below.refl _ _⟩
  case round =>
    obtain ⟨t, ht, rfl, hown, hbel⟩ := hrel
    have HO := Lib.hid hown
    have hlen := chTo_len q t
    clear hown
    by_cases hlt : t < N
    · obtain ⟨p, hp⟩ : ∃ p, p = pop t := ⟨_, rfl⟩
      have HP := Lib.hid hp
      clear hp
      by_cases hpq : p = q
      · have he : ((p : Int) == (q : Int)) = true := by simp; omega
        have HPQ := Lib.hid hpq
        clear hpq
        go_wp2_with (first | (go_at_call 54; refine (countBits_any _ (by omega) _).mono ?_; rw [← HP.out]; rintro e w' ⟨rfl, rfl⟩) | (at_builtin; refine list_app1 rfl _ _ rfl w.heap.size _ _ _ rfl (HO.out.alloc _) ⟨wr.heap.size, 0, none⟩ 1 _ rfl (World.cell?_alloc_at _ _ _ _ rfl) (by omega) (by have := hbel.size; simp; omega) ?_; intro v' w1 hown1 hgr1; have HO1 := Lib.hid hown1; clear hown1))
        go_roundw
        case rel => exact ⟨t + 1, hlt, by go_num, (by rw [chTo, if_pos (by rw [← HP.out]; exact HPQ.out)]; simpa using HO1.out), below_app hbel ((Below.refl _ _).alloc hbel.size _) hbel.size HO.out hgr1⟩
        case measure => simp [intOf]; omega
      · have he : ((p : Int) == (q : Int)) = false := by simp; omega
        have HPQ := Lib.hid hpq
        clear hpq
        go_wp2_with (first | (go_at_call 54; refine (countBits_any _ (by omega) _).mono ?_; rw [← HP.out]; rintro e w' ⟨rfl, rfl⟩))
        go_roundw
        case rel => exact ⟨t + 1, hlt, by go_num, (by rw [chTo, if_neg (by rw [← HP.out]; exact HPQ.out)]; exact HO.out), hbel⟩
        case measure => simp [intOf]; omega
    · obtain rfl : t = N := by omega
      go_wp2
      go_ret2
      exact ⟨_, out_ok HC.out, Own.ok HC.out (by unfold Own chL; rw [Int.toNat_natCast, Int.toNat_natCast, ← HN.out]; exact HO.out), hbel⟩

set_option maxHeartbeats 1000000 in
theorem specChooseMasks_any (n k : Int) (w : World) :
    Calls Try.prog 42 #[.int .i64 n, .int .i64 k] w fun e w' => ∃ v, e = .returned (.tuple #[v, .int .i64 (chC n k)]) ∧ Own w' w.heap.size v (outL (chC n k) (chL n k)) ∧ Below w.heap.size w w' := by
  cases h1 : inB n 0 12
  · have hc := chC_no1 (k := k) h1
    have HC := Lib.hid hc
    clear hc
    go_enter Try.func42, Try.ntmps42
    go_wp2_with (go_at_call 71; refine (l01In_any _ _ _ _).mono ?_; rintro e w' ⟨rfl, rfl⟩)
    go_ret2
    exact ch_none HC.out
  cases h2 : inB k 0 n
  · have hc := chC_no2 h2
    have HC := Lib.hid hc
    clear hc
    go_enter Try.func42, Try.ntmps42
    go_wp2_with (go_at_call 71; refine (l01In_any _ _ _ _).mono ?_; rintro e w' ⟨rfl, rfl⟩)
    go_ret2
    exact ch_none HC.out
  have hc : chC n k = 0 := chC_ok h1 h2
  have b1 : 0 ≤ n ∧ n ≤ 12 := by simpa [inB] using h1
  have b2 : 0 ≤ k ∧ k ≤ n := by simpa [inB] using h2
  obtain ⟨j, rfl⟩ := Int.eq_ofNat_of_zero_le b1.1
  obtain ⟨q, rfl⟩ := Int.eq_ofNat_of_zero_le b2.1
  have hj : j ≤ 12 := by omega
  have hq : q ≤ j := by omega
  obtain ⟨N, hN⟩ : ∃ N : Nat, N = 2 ^ j := ⟨_, rfl⟩
  have hN2 : N ≤ 4096 := by
    have : 2 ^ j ≤ 2 ^ 12 := Nat.pow_le_pow_right (by decide) hj
    omega
  have hN1 : 0 < N := by rw [hN]; exact Nat.two_pow_pos _
  have hf : full j = (N : Int) - 1 := by rw [full_eq _ (by omega) (by omega), Int.toNat_natCast, hN]; simp
  have HF := Lib.hid hf
  have HN := Lib.hid hN
  have HC := Lib.hid hc
  clear b1 b2 hN hc hf
  go_enter Try.func42, Try.ntmps42
  go_wp2_with (go_at_call 71; refine (l01In_any _ _ _ _).mono ?_; rintro e w' ⟨rfl, rfl⟩)
  clear h1 h2
  go_loopw [6, 7] (fun v i wr => ∃ t : Nat, t ≤ N ∧ i = .int .i64 t ∧ wr.ownsRow w.heap.size 2 1 v (chTo q t).length ((chTo q t).map (Value.int .i64)) ∧ Below w.heap.size w wr) (fun _ i _ => N - (intOf i).toNat)
  case atStart => exact ⟨0, Nat.zero_le _, rfl, World.ownsRow_lit w #[] 0 (Nat.le_refl _) (by unfold maxLen; omega) rfl, (Below.refl _ _).alloc (Nat.le_refl _) _⟩
  case round =>
    obtain ⟨t, ht, rfl, hown, hbel⟩ := hrel
    have HO := Lib.hid hown
    have hlen := chTo_len q t
    clear hown
    by_cases hlt : t < N
    · obtain ⟨p, hp⟩ : ∃ p, p = pop t := ⟨_, rfl⟩
      have HP := Lib.hid hp
      clear hp
      by_cases hpq : p = q
      · have he : ((p : Int) == (q : Int)) = true := by simp; omega
        have HPQ := Lib.hid hpq
        clear hpq
        go_wp2_with (first | (go_at_call 72; refine (l01Full_any _ _ (by omega) (by omega)).mono ?_; rw [HF.out]; rintro e w' ⟨rfl, rfl⟩) | (go_at_call 56; refine (l01Bits_any _ (by omega) _).mono ?_; rw [← HP.out]; rintro e w' ⟨rfl, rfl⟩) | (at_builtin; refine list_app1 rfl _ _ rfl w.heap.size _ _ _ rfl (HO.out.alloc _) ⟨wr.heap.size, 0, none⟩ 1 _ rfl (World.cell?_alloc_at _ _ _ _ rfl) (by omega) (by have := hbel.size; simp; omega) ?_; intro v' w1 hown1 hgr1; have HO1 := Lib.hid hown1; clear hown1))
        go_roundw
        case rel => exact ⟨t + 1, hlt, by go_num, (by rw [chTo, if_pos (by rw [← HP.out]; exact HPQ.out)]; simpa using HO1.out), below_app hbel ((Below.refl _ _).alloc hbel.size _) hbel.size HO.out hgr1⟩
        case measure => simp [intOf]; omega
      · have he : ((p : Int) == (q : Int)) = false := by simp; omega
        have HPQ := Lib.hid hpq
        clear hpq
        go_wp2_with (first | (go_at_call 72; refine (l01Full_any _ _ (by omega) (by omega)).mono ?_; rw [HF.out]; rintro e w' ⟨rfl, rfl⟩) | (go_at_call 56; refine (l01Bits_any _ (by omega) _).mono ?_; rw [← HP.out]; rintro e w' ⟨rfl, rfl⟩))
        go_roundw
        case rel => exact ⟨t + 1, hlt, by go_num, (by rw [chTo, if_neg (by rw [← HP.out]; exact HPQ.out)]; exact HO.out), hbel⟩
        case measure => simp [intOf]; omega
    · obtain rfl : t = N := by omega
      go_wp2_with (first | (go_at_call 72; refine (l01Full_any _ _ (by omega) (by omega)).mono ?_; rw [HF.out]; rintro e w' ⟨rfl, rfl⟩))
      go_ret2
      exact ⟨_, out_ok HC.out, Own.ok HC.out (by unfold Own chL; rw [Int.toNat_natCast, Int.toNat_natCast, ← HN.out]; exact HO.out), hbel⟩

end Go.Proofs.Ytckkkleegohkfaa
