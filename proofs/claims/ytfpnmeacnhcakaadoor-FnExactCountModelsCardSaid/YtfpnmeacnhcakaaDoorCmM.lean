/- How many models a formula has among the first rows (mathematics). No conditions but those in the theorems. -/
import Derived.Test.YtfpnmeacnhcakaaDoorBw
import Derived.Test.YtfpnmeacnhcakaaDoorCk
import Derived.Test.YtfpnmeacnhcakaaDoorTv
import Derived.Test.YtfpnmeacnhcakaaDoorPop8
import Derived.Test.YtfpnmeacnhcakaaDoorVarS
import Derived.Test.YtfpnmeacnhcakaaDoorKinds
namespace Go.Proofs.YtfpnmeacnhcakaaDoor
open Go.RowKit

/-- How many of the first k rows are models. -/
def cnF (f : Fm) : Nat → Nat
  | 0 => 0
  | k + 1 => cnF f k + if f.ev k then 1 else 0
theorem cnF_le (f : Fm) (k : Nat) : cnF f k ≤ k := by
  induction k with
  | zero => exact Nat.le_refl _
  | succ k ih => rw [cnF]; split <;> omega
theorem pop_bits (x : Nat) (f : Fm) : ∀ k, (∀ i, i < k → x.testBit i = f.ev i) → pop (x % 2 ^ k) = cnF f k := by
  intro k
  induction k with
  | zero => intro _; simp [Nat.mod_one, pop_zero, cnF]
  | succ k ih =>
    intro h
    have ih := ih (fun i hi => h i (by omega))
    have e : x % 2 ^ (k + 1) = (x / 2 ^ k % 2) * 2 ^ k + x % 2 ^ k := by rw [Nat.pow_succ, Nat.mod_mul, Nat.mul_comm (2 ^ k), Nat.add_comm]
    have ht := h k (by omega)
    rw [Nat.testBit_eq_decide_div_mod_eq] at ht
    rw [e, pop_cat k _ _ (Nat.mod_lt _ (Nat.two_pow_pos k)), ih, cnF, ← ht]
    rcases Nat.mod_two_eq_zero_or_one (x / 2 ^ k) with e2 | e2
    · rw [e2, pop_zero]; simp
    · rw [e2, show pop 1 = 1 by rw [pop_step, pop_zero]]; simp; omega
theorem pop_mw (f : Fm) (hf : f.ok) : pop f.mw.toNat = cnF f 64 := by
  have h := pop_bits f.mw.toNat f 64 (fun i hi => by rw [← Fm.mw_row f hf i hi]; rfl)
  rwa [Nat.mod_eq_of_lt f.mw.isLt] at h
namespace Fm
/-- All variables are less than n. -/
def vb (n : Nat) : Fm → Prop
  | va s => s < n
  | fa => True
  | bi _ a b => a.vb n ∧ b.vb n
  | un _ a => a.vb n
theorem ev_per {n : Nat} (f : Fm) (hf : f.ok) (h : f.vb n) (q r : Nat) (hr : r < 2 ^ n) : f.ev (2 ^ n * q + r) = f.ev r := by
  induction f with
  | va s =>
    have h0 := hf.1
    have h1 : s < n := h
    have hs : s.toNat < n := by omega
    show (2 ^ n * q + r).testBit s.toNat = r.testBit s.toNat
    rw [Nat.testBit_two_pow_mul_add _ hr, if_pos hs]
  | fa => rfl
  | bi k a b iha ihb =>
    have e1 := iha hf.2.1 h.1
    have e2 := ihb hf.2.2 h.2
    simp only [ev, e1, e2]
  | un k a ih => rfl
theorem vb_enc {n : Nat} (f : Fm) (h : ∀ s : Int, ((0 : Int), s) ∈ f.enc → s < n) : f.vb n := by
  induction f with
  | va s => exact h s (by simp [enc])
  | fa => trivial
  | bi k a b iha ihb => exact ⟨iha (fun s hs => h s (by simp [enc, hs])), ihb (fun s hs => h s (by simp [enc, hs]))⟩
  | un k a ih => exact ih (fun s hs => h s (by simp [enc, hs]))
end Fm
theorem cnF_add (f : Fm) (m : Nat) : ∀ k, (∀ r, r < k → f.ev (m + r) = f.ev r) → cnF f (m + k) = cnF f m + cnF f k := by
  intro k
  induction k with
  | zero => intro _; simp [cnF]
  | succ k ih =>
    intro h
    rw [← Nat.add_assoc, cnF, cnF, ih (fun r hr => h r (by omega)), h k (by omega)]
    omega
theorem cnF_mul {n : Nat} (f : Fm) (hf : f.ok) (h : f.vb n) (q : Nat) : cnF f (2 ^ n * q) = q * cnF f (2 ^ n) := by
  induction q with
  | zero => simp [cnF]
  | succ q ih =>
    rw [Nat.mul_succ, cnF_add f (2 ^ n * q) (2 ^ n) (fun r hr => f.ev_per hf h q r hr), ih, Nat.succ_mul]
theorem cnF_shift {n : Nat} (f : Fm) (hf : f.ok) (h : f.vb n) (hn : n ≤ 6) : cnF f 64 / 2 ^ (6 - n) = cnF f (2 ^ n) := by
  have e : (64 : Nat) = 2 ^ n * 2 ^ (6 - n) := by rw [← Nat.pow_add, Nat.add_sub_cancel' hn]
  rw [e, cnF_mul f hf h, Nat.mul_comm]
  exact Nat.mul_div_cancel _ (Nat.two_pow_pos _)

/-- The last element is n or more. -/
def laB (zs : List Int) (n : Int) : Bool := decide (0 < zs.length) && decide (n ≤ nth zs (zs.length - 1))
theorem la_mem {zs : List Int} {n : Int} (hs : zs.Pairwise (· < ·)) (h : laB zs n = false) : ∀ x ∈ zs, x < n := by
  intro x hx
  obtain ⟨i, hi, rfl⟩ := List.getElem_of_mem hx
  have hp : 0 < zs.length := by omega
  have h2 : nth zs (zs.length - 1) < n := by
    unfold laB at h
    rw [decide_eq_true hp] at h
    simpa using h
  have e : nth zs (zs.length - 1) = zs[zs.length - 1]'(by omega) := by simp [nth, List.getD, show zs.length - 1 < zs.length by omega]
  rw [e] at h2
  by_cases hl : i = zs.length - 1
  · subst hl; exact h2
  · have := List.pairwise_iff_getElem.1 hs i (zs.length - 1) hi (by omega) (by omega)
    omega
/-- The maximum of the first elements of a rising list is the last of them. -/
theorem up_nth {zs : List Int} (hs : zs.Pairwise (· < ·)) {k : Nat} (hk : k + 1 < zs.length) : nth zs k < nth zs (k + 1) := by
  have := List.pairwise_iff_getElem.1 hs k (k + 1) (by omega) hk (by omega)
  simpa [nth, List.getD, hk, show k < zs.length by omega] using this

theorem mem_up2 (m : Nat) : ∀ k, (memTo m k).Pairwise (· < ·) := by
  intro k
  induction k with
  | zero => simp [memTo]
  | succ k ih =>
    rw [memTo]
    split
    · refine List.pairwise_append.2 ⟨ih, List.pairwise_singleton _ _, fun y hy z hz => ?_⟩
      rw [List.mem_singleton] at hz
      subst hz
      obtain ⟨i, h1, -, rfl⟩ := (mem_bit m y k).1 hy
      omega
    · exact ih
/-- The variables of a list of nodes. -/
def vaL (xs : List Nd) : List Int := memTo (mkTo xs xs.length) 30
theorem vaL_up (xs : List Nd) : (vaL xs).Pairwise (· < ·) := mem_up2 _ 30
theorem vb_of {xs : List Nd} {n : Nat} (hc : ck xs = 0) (h : laB (vaL xs) n = false) : (toFm xs).vb n := by
  obtain ⟨hb, hp⟩ := ck_good hc
  obtain ⟨f1, f2, f3⟩ := toFm_of hb
  have ht := (is_tree hb).1
  refine Fm.vb_enc _ fun s hs => ?_
  rw [← f2] at hs
  obtain ⟨j, hj, e1, e2⟩ := (nd_mem xs s).1 hs
  obtain ⟨q, hq, hq5⟩ := sy_bd ht hj
  have e3 : s = q := e2.symm.trans hq
  subst e3
  have := (vars_has ht hq5).2 hs
  exact la_mem (vaL_up xs) h _ this

noncomputable def cmV (xs : List Nd) (n : Int) : Int := if ck xs = 0 then (if inB n 0 6 then (if laB (vaL xs) n then 0 else (cnF (toFm xs) (2 ^ n.toNat) : Nat)) else 0) else 0
noncomputable def cmC (xs : List Nd) (n : Int) : Int := if ck xs = 0 then (if inB n 0 6 then (if laB (vaL xs) n then 2 else 0) else 2) else ck xs
theorem cm_ck {xs : List Nd} {n : Int} (h : ck xs ≠ 0) : cmV xs n = 0 ∧ cmC xs n = ck xs := ⟨if_neg h, if_neg h⟩
theorem cm_rng {xs : List Nd} {n : Int} (h : ck xs = 0) (h2 : inB n 0 6 = false) : cmV xs n = 0 ∧ cmC xs n = 2 := by
  unfold cmV cmC; rw [if_pos h, if_pos h, h2]; exact ⟨rfl, rfl⟩
theorem cm_var {xs : List Nd} {n : Int} (h : ck xs = 0) (h2 : inB n 0 6 = true) (h3 : laB (vaL xs) n = true) : cmV xs n = 0 ∧ cmC xs n = 2 := by
  unfold cmV cmC; rw [if_pos h, if_pos h, h2, h3]; exact ⟨rfl, rfl⟩
theorem cm_good2 {xs : List Nd} {n : Int} (h : ck xs = 0) (h2 : inB n 0 6 = true) (h3 : laB (vaL xs) n = false) : cmV xs n = (cnF (toFm xs) (2 ^ n.toNat) : Nat) ∧ cmC xs n = 0 := by
  unfold cmV cmC; rw [if_pos h, if_pos h, h2, h3]; exact ⟨rfl, rfl⟩

end Go.Proofs.YtfpnmeacnhcakaaDoor
