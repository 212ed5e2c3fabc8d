/- How many bits a number has: the number that math/bits.OnesCount64 computes is the sum of the digits, for every number below 2^30; and the contracts of the functions that count members. Conditions: those in the theorems. -/
import Derived.Test.YtngllobakfnhiaaDoorBase
import Derived.Laws.BitsLemmas
namespace Go.Proofs.YtngllobakfnhiaaDoor
open Go.RowKit

def pop (m : Nat) : Nat := if h : m = 0 then 0 else m % 2 + pop (m / 2)
termination_by m
decreasing_by omega

theorem pop_zero : pop 0 = 0 := by rw [pop]; simp
theorem pop_step (m : Nat) : pop m = m % 2 + pop (m / 2) := by
  by_cases h : m = 0
  · subst h; rw [pop_zero]
  · rw [pop, dif_neg h]
theorem pop_cat (k h l : Nat) (hl : l < 2 ^ k) : pop (h * 2 ^ k + l) = pop h + pop l := by
  induction k generalizing l with
  | zero => simp at hl; subst hl; simp [pop_zero]
  | succ k ih =>
    have e2 : (2 : Nat) ^ (k + 1) = 2 ^ k * 2 := Nat.pow_succ ..
    have e3 : h * 2 ^ (k + 1) = h * 2 ^ k * 2 := by rw [e2, Nat.mul_assoc]
    rw [e2] at hl
    have h1 := ih (l / 2) (by omega)
    rw [pop_step (h * 2 ^ (k + 1) + l), pop_step l, e3]
    have e4 : (h * 2 ^ k * 2 + l) / 2 = h * 2 ^ k + l / 2 := by omega
    have e5 : (h * 2 ^ k * 2 + l) % 2 = l % 2 := by omega
    rw [e4, e5, h1]
    omega

theorem and_cat (a b c d : Nat) (hb : b < 256) (hd : d < 256) : (a * 256 + b) &&& (c * 256 + d) = (a &&& c) * 256 + (b &&& d) := by
  have hbd : b &&& d < 2 ^ 8 := Nat.and_lt_two_pow _ hd
  have e : ∀ x y, x * 256 + y = 2 ^ 8 * x + y := fun x y => by omega
  rw [e, e, e]
  apply Nat.eq_of_testBit_eq
  intro i
  rw [Nat.testBit_and, Nat.testBit_two_pow_mul_add _ hb, Nat.testBit_two_pow_mul_add _ hd, Nat.testBit_two_pow_mul_add _ hbd]
  by_cases h : i < 8
  · simp [h]
  · simp [h]

def rep (d : Nat) : Nat → Nat
  | 0 => 0
  | k + 1 => rep d k * 256 + d
/-- f at each of the k low bytes of x. -/
def mp (f : Nat → Nat) : Nat → Nat → Nat
  | 0, _ => 0
  | k + 1, x => mp f k (x / 256) * 256 + f (x % 256)
theorem mp_comp (f g : Nat → Nat) (hf : ∀ b, b < 256 → f b < 256) (k x : Nat) : mp g k (mp f k x) = mp (fun b => g (f b)) k x := by
  induction k generalizing x with
  | zero => rfl
  | succ k ih =>
    have h := hf (x % 256) (Nat.mod_lt _ (by decide))
    simp only [mp]
    rw [show (mp f k (x / 256) * 256 + f (x % 256)) / 256 = mp f k (x / 256) by omega, show (mp f k (x / 256) * 256 + f (x % 256)) % 256 = f (x % 256) by omega, ih]

def g1 (b : Nat) : Nat := (b / 2 &&& 85) + (b &&& 85)
def g2 (b : Nat) : Nat := (b / 4 &&& 51) + (b &&& 51)
def g3 (b : Nat) : Nat := (b / 16 + b) &&& 15

theorem dig1 : ∀ p, p < 2 → ∀ l, l < 256 → (p * 128 + l / 2) &&& 85 = (l / 2) &&& 85 := by decide +kernel
theorem dig2 : ∀ p, p < 4 → ∀ l, l < 256 → (p * 64 + l / 4) &&& 51 = (l / 4) &&& 51 := by decide +kernel
theorem dig3 : ∀ p, p < 16 → ∀ l, l < 256 → (p * 16 + l / 16 + l) &&& 15 = (l / 16 + l) &&& 15 := by decide +kernel
theorem g1_lt : ∀ b, b < 256 → g1 b < 256 := by decide +kernel
theorem g21_lt : ∀ b, b < 256 → g2 (g1 b) < 256 := by decide +kernel
theorem g21_nib : ∀ b, b < 256 → g2 (g1 b) % 16 ≤ 4 ∧ g2 (g1 b) / 16 ≤ 4 := by decide +kernel
theorem g321 : ∀ b, b < 256 → g3 (g2 (g1 b)) = pop b ∧ pop b ≤ 8 := by
  have h : ∀ b, b < 256 → g3 (g2 (g1 b)) = (b % 2 + (b / 2 % 2 + (b / 2 / 2 % 2 + (b / 2 / 2 / 2 % 2 + (b / 2 / 2 / 2 / 2 % 2 + (b / 2 / 2 / 2 / 2 / 2 % 2 + (b / 2 / 2 / 2 / 2 / 2 / 2 % 2 + b / 2 / 2 / 2 / 2 / 2 / 2 / 2 % 2))))))) ∧ (b % 2 + (b / 2 % 2 + (b / 2 / 2 % 2 + (b / 2 / 2 / 2 % 2 + (b / 2 / 2 / 2 / 2 % 2 + (b / 2 / 2 / 2 / 2 / 2 % 2 + (b / 2 / 2 / 2 / 2 / 2 / 2 % 2 + b / 2 / 2 / 2 / 2 / 2 / 2 / 2 % 2))))))) ≤ 8 ∧ b / 2 / 2 / 2 / 2 / 2 / 2 / 2 / 2 = 0 := by decide +kernel
  intro b hb
  obtain ⟨h1, h2, h3⟩ := h b hb
  have e : pop b = (b % 2 + (b / 2 % 2 + (b / 2 / 2 % 2 + (b / 2 / 2 / 2 % 2 + (b / 2 / 2 / 2 / 2 % 2 + (b / 2 / 2 / 2 / 2 / 2 % 2 + (b / 2 / 2 / 2 / 2 / 2 / 2 % 2 + b / 2 / 2 / 2 / 2 / 2 / 2 / 2 % 2))))))) := by
    rw [pop_step b, pop_step (b / 2), pop_step (b / 2 / 2), pop_step (b / 2 / 2 / 2), pop_step (b / 2 / 2 / 2 / 2), pop_step (b / 2 / 2 / 2 / 2 / 2), pop_step (b / 2 / 2 / 2 / 2 / 2 / 2), pop_step (b / 2 / 2 / 2 / 2 / 2 / 2 / 2), h3, pop_zero, Nat.add_zero]
  rw [h1, e]
  exact ⟨rfl, h2⟩

theorem step1 (k x : Nat) (hx : x < 256 ^ k) : ((x / 2) &&& rep 85 k) + (x &&& rep 85 k) = mp g1 k x := by
  induction k generalizing x with
  | zero => simp at hx; subst hx; rfl
  | succ k ih =>
    have hp : (256 : Nat) ^ (k + 1) = 256 ^ k * 256 := Nat.pow_succ ..
    have h1 := ih (x / 256) (by omega)
    have hl : x % 256 < 256 := Nat.mod_lt _ (by decide)
    have e1 : x / 2 = (x / 256 / 2) * 256 + ((x / 256 % 2) * 128 + x % 256 / 2) := by omega
    have e2 : x = (x / 256) * 256 + x % 256 := by omega
    simp only [mp, rep, g1]
    rw [← h1, e1, and_cat _ _ _ _ (by omega) (by decide), dig1 _ (by omega) _ hl]
    have e3 : x &&& (rep 85 k * 256 + 85) = (x / 256 &&& rep 85 k) * 256 + (x % 256 &&& 85) := by
      conv => lhs; rw [e2]
      exact and_cat _ _ _ _ hl (by decide)
    rw [e3]
    omega
theorem step2 (k x : Nat) (hx : x < 256 ^ k) : ((x / 4) &&& rep 51 k) + (x &&& rep 51 k) = mp g2 k x := by
  induction k generalizing x with
  | zero => simp at hx; subst hx; rfl
  | succ k ih =>
    have hp : (256 : Nat) ^ (k + 1) = 256 ^ k * 256 := Nat.pow_succ ..
    have h1 := ih (x / 256) (by omega)
    have hl : x % 256 < 256 := Nat.mod_lt _ (by decide)
    have e1 : x / 4 = (x / 256 / 4) * 256 + ((x / 256 % 4) * 64 + x % 256 / 4) := by omega
    have e2 : x = (x / 256) * 256 + x % 256 := by omega
    simp only [mp, rep, g2]
    rw [← h1, e1, and_cat _ _ _ _ (by omega) (by decide), dig2 _ (by omega) _ hl]
    have e3 : x &&& (rep 51 k * 256 + 51) = (x / 256 &&& rep 51 k) * 256 + (x % 256 &&& 51) := by
      conv => lhs; rw [e2]
      exact and_cat _ _ _ _ hl (by decide)
    rw [e3]
    omega
/-- Every byte's two halves are at most 4. -/
def nib : Nat → Nat → Prop
  | 0, _ => True
  | k + 1, x => x % 256 % 16 ≤ 4 ∧ x % 256 / 16 ≤ 4 ∧ nib k (x / 256)
theorem nib_mp (k x : Nat) : nib k (mp (fun b => g2 (g1 b)) k x) := by
  induction k generalizing x with
  | zero => trivial
  | succ k ih =>
    have hl : x % 256 < 256 := Nat.mod_lt _ (by decide)
    have h := g21_lt _ hl
    have h2 := g21_nib _ hl
    simp only [mp]
    unfold nib
    rw [show (mp (fun b => g2 (g1 b)) k (x / 256) * 256 + g2 (g1 (x % 256))) / 256 = mp (fun b => g2 (g1 b)) k (x / 256) by omega, show (mp (fun b => g2 (g1 b)) k (x / 256) * 256 + g2 (g1 (x % 256))) % 256 = g2 (g1 (x % 256)) by omega]
    exact ⟨h2.1, h2.2, ih _⟩
theorem step3 (k x : Nat) (hx : x < 256 ^ k) (hn : nib k x) : (x / 16 + x) &&& rep 15 k = mp g3 k x := by
  induction k generalizing x with
  | zero => simp at hx; subst hx; rfl
  | succ k ih =>
    have hp : (256 : Nat) ^ (k + 1) = 256 ^ k * 256 := Nat.pow_succ ..
    obtain ⟨n1, n2, n3⟩ := hn
    have h1 := ih (x / 256) (by omega) n3
    have hl : x % 256 < 256 := Nat.mod_lt _ (by decide)
    have hq : x / 256 % 16 ≤ 4 := by
      cases k with
      | zero => simp at hx; omega
      | succ k => have := n3.1; omega
    have e1 : x / 16 + x = (x / 256 / 16 + x / 256) * 256 + ((x / 256 % 16) * 16 + x % 256 / 16 + x % 256) := by omega
    simp only [mp, rep, g3]
    rw [← h1, e1, and_cat _ _ _ _ (by omega) (by decide), dig3 _ (by omega) _ hl]
theorem mp_congr {f g : Nat → Nat} (h : ∀ b, b < 256 → f b = g b) (k x : Nat) : mp f k x = mp g k x := by
  induction k generalizing x with
  | zero => rfl
  | succ k ih => simp only [mp]; rw [ih, h _ (Nat.mod_lt _ (by decide))]
theorem mp_lt {f : Nat → Nat} (h : ∀ b, b < 256 → f b < 256) (k x : Nat) : mp f k x < 256 ^ k := by
  induction k generalizing x with
  | zero => simp [mp]
  | succ k ih =>
    have hp : (256 : Nat) ^ (k + 1) = 256 ^ k * 256 := Nat.pow_succ ..
    have h1 := ih (x / 256)
    have h2 := h (x % 256) (Nat.mod_lt _ (by decide))
    simp only [mp]
    omega

theorem swar (x : Nat) (hx : x < 256 ^ 8) :
    (((((x / 2) &&& rep 85 8) + (x &&& rep 85 8)) / 4 &&& rep 51 8) + ((((x / 2) &&& rep 85 8) + (x &&& rep 85 8)) &&& rep 51 8)) = mp (fun b => g2 (g1 b)) 8 x := by
  rw [step1 8 x hx, step2 8 _ (mp_lt g1_lt 8 x), mp_comp g1 g2 g1_lt]

theorem wraps63 (n : Int) (h₀ : 0 ≤ n) (h₁ : n < 2 ^ 63) : IntKind.u64.wrap n = n := IntWalk.u64_in n (by omega)
theorem wraps62 (n : Int) (h₀ : 0 ≤ n) (h₁ : n < 2 ^ 63) : IntKind.i64.wrap n = n := IntWalk.i64_in n (by omega)
theorem uand (a b : Nat) (ha : a < 2 ^ 63) (hb : b < 2 ^ 63) : bits .and .u64 a b = ((a &&& b : Nat) : Int) := (bits_nat .u64 63 (by decide) wraps63 a b ha hb).1
theorem iand (a b : Nat) (ha : a < 2 ^ 63) (hb : b < 2 ^ 63) : bits .and .i64 a b = ((a &&& b : Nat) : Int) := (bits_nat .i64 63 (by decide) wraps62 a b ha hb).1
theorem ior (a b : Nat) (ha : a < 2 ^ 63) (hb : b < 2 ^ 63) : bits .or .i64 a b = ((a ||| b : Nat) : Int) := (bits_nat .i64 63 (by decide) wraps62 a b ha hb).2

def u1 (y : Int) : Int := IntKind.u64.wrap (bits .and .u64 (y / 2) 6148914691236517205 + bits .and .u64 y 6148914691236517205)
def u2 (y : Int) : Int := IntKind.u64.wrap (bits .and .u64 (y / 4) 3689348814741910323 + bits .and .u64 y 3689348814741910323)
def u3 (y : Int) : Int := bits .and .u64 (IntKind.u64.wrap (y / 16 + y)) 1085102592571150095
def u4 (y : Int) : Int := IntKind.u64.wrap (y + y / 256)
def u5 (y : Int) : Int := IntKind.u64.wrap (y + y / 65536)
def u6 (y : Int) : Int := IntKind.u64.wrap (y + y / 4294967296)
def u7 (y : Int) : Int := bits .and .i64 (wrap64 y) 127
theorem rep85 : 6148914691236517205 = rep 85 8 := by decide +kernel
theorem rep51 : 3689348814741910323 = rep 51 8 := by decide +kernel
theorem rep15 : 1085102592571150095 = rep 15 8 := by decide +kernel
theorem rep_lt (d : Nat) (hd : d ≤ 85) : rep d 8 < 2 ^ 63 := by
  have h : ∀ d, d ≤ 85 → rep d 8 < 2 ^ 63 := by decide +kernel
  exact h d hd
theorem u1_nat (y : Nat) (h : y < 2 ^ 32) : u1 y = (((y / 2 &&& rep 85 8) + (y &&& rep 85 8) : Nat) : Int) := by
  have e1 : ((y : Int) / 2) = ((y / 2 : Nat) : Int) := by omega
  have e2 : (6148914691236517205 : Int) = ((rep 85 8 : Nat) : Int) := by rw [← rep85]; rfl
  have hr := rep_lt 85 (by decide)
  have a1 : y / 2 &&& rep 85 8 ≤ y / 2 := Nat.and_le_left
  have a2 : y &&& rep 85 8 ≤ y := Nat.and_le_left
  unfold u1
  rw [e1, e2, uand _ _ (by omega) hr, uand _ _ (by omega) hr]
  rw [IntWalk.u64_in _ (by omega)]
  omega
theorem u2_nat (y : Nat) (h : y < 2 ^ 34) : u2 y = (((y / 4 &&& rep 51 8) + (y &&& rep 51 8) : Nat) : Int) := by
  have e1 : ((y : Int) / 4) = ((y / 4 : Nat) : Int) := by omega
  have e2 : (3689348814741910323 : Int) = ((rep 51 8 : Nat) : Int) := by rw [← rep51]; rfl
  have hr := rep_lt 51 (by decide)
  have a1 : y / 4 &&& rep 51 8 ≤ y / 4 := Nat.and_le_left
  have a2 : y &&& rep 51 8 ≤ y := Nat.and_le_left
  unfold u2
  rw [e1, e2, uand _ _ (by omega) hr, uand _ _ (by omega) hr]
  rw [IntWalk.u64_in _ (by omega)]
  omega
theorem u3_nat (y : Nat) (h : y < 2 ^ 36) : u3 y = (((y / 16 + y) &&& rep 15 8 : Nat) : Int) := by
  have e1 : ((y : Int) / 16 + y) = ((y / 16 + y : Nat) : Int) := by omega
  have e2 : (1085102592571150095 : Int) = ((rep 15 8 : Nat) : Int) := by rw [← rep15]; rfl
  have hr := rep_lt 15 (by decide)
  unfold u3
  rw [e1, e2, IntWalk.u64_in _ (by omega), uand _ _ (by omega) hr]
theorem u456 (y : Nat) (h : y < 2 ^ 40) : u7 (u6 (u5 (u4 y))) = (((let a := y + y / 256; let b := a + a / 65536; b + b / 4294967296) % 128 : Nat) : Int) := by
  have e4 : u4 y = ((y + y / 256 : Nat) : Int) := by unfold u4; rw [IntWalk.u64_in _ (by omega)]; omega
  have e5 : u5 (u4 y) = (((y + y / 256) + (y + y / 256) / 65536 : Nat) : Int) := by rw [e4]; unfold u5; rw [IntWalk.u64_in _ (by omega)]; omega
  have e6 : u6 (u5 (u4 y)) = ((((y + y / 256) + (y + y / 256) / 65536) + ((y + y / 256) + (y + y / 256) / 65536) / 4294967296 : Nat) : Int) := by rw [e5]; unfold u6; rw [IntWalk.u64_in _ (by omega)]; omega
  rw [e6]
  unfold u7
  rw [IntWalk.wrap64_in _ (by omega)]
  rw [show (127 : Int) = ((127 : Nat) : Int) from rfl, iand _ _ (by omega) (by decide), show 127 = 2 ^ 7 - 1 from rfl, Nat.and_two_pow_sub_one_eq_mod]

theorem sum_bytes (a b c d : Nat) (ha : a ≤ 8) (hb : b ≤ 8) (hc : c ≤ 8) (hd : d ≤ 8) (y : Nat) (hy : y = a + 256 * (b + 256 * (c + 256 * d))) :
    (y + y / 256 + (y + y / 256) / 65536 + (y + y / 256 + (y + y / 256) / 65536) / 4294967296) % 128 = a + b + c + d := by
  have e1 : y / 256 = b + 256 * (c + 256 * d) := by omega
  obtain ⟨z, hz⟩ : ∃ z, z = y + y / 256 := ⟨_, rfl⟩
  have e2 : z = (a + b) + 256 * (b + c) + 65536 * (c + d) + 16777216 * d := by omega
  have e3 : z / 65536 = (c + d) + 256 * d := by omega
  obtain ⟨u, hu⟩ : ∃ u, u = z + z / 65536 := ⟨_, rfl⟩
  have e4 : u = (a + b + c + d) + 256 * (b + c + d) + 65536 * (c + d) + 16777216 * d := by omega
  have e5 : u / 4294967296 = 0 := by omega
  rw [← hz, ← hu, e5]
  clear e1 e2 e3 e5 hz hu hy
  omega

theorem pop_le (m : Nat) : pop m ≤ m := by
  induction m using Nat.strongRecOn with
  | ind m ih =>
    by_cases h : m = 0
    · subst h; rw [pop_zero]; omega
    · have := ih (m / 2) (by omega)
      rw [pop_step]
      omega

theorem ones_eq (n : Nat) (h : n < 1073741824) : u7 (u6 (u5 (u4 (u3 (u2 (u1 n)))))) = ((pop n : Nat) : Int) := by
  have h8 : n < 256 ^ 8 := by omega
  have s12 := swar n h8
  have l1 := u1_nat n (by omega)
  have b1 : (n / 2 &&& rep 85 8) + (n &&& rep 85 8) < 2 ^ 34 := by
    have a1 : n / 2 &&& rep 85 8 ≤ n / 2 := Nat.and_le_left
    have a2 : n &&& rep 85 8 ≤ n := Nat.and_le_left
    omega
  have l2 := u2_nat _ b1
  have b2 : mp (fun b => g2 (g1 b)) 8 n < 2 ^ 36 := by
    rw [← s12]
    have a1 : ((n / 2 &&& rep 85 8) + (n &&& rep 85 8)) / 4 &&& rep 51 8 ≤ ((n / 2 &&& rep 85 8) + (n &&& rep 85 8)) / 4 := Nat.and_le_left
    have a2 : ((n / 2 &&& rep 85 8) + (n &&& rep 85 8)) &&& rep 51 8 ≤ ((n / 2 &&& rep 85 8) + (n &&& rep 85 8)) := Nat.and_le_left
    omega
  rw [s12] at l2
  have l3 := u3_nat _ b2
  have s3 := step3 8 _ (mp_lt g21_lt 8 n) (nib_mp 8 n)
  rw [mp_comp (fun b => g2 (g1 b)) g3 g21_lt, mp_congr (g := pop) (fun b hb => (g321 b hb).1)] at s3
  rw [s3] at l3
  rw [l1, l2, l3]
  have p8 : ∀ b, b < 256 → pop b ≤ 8 := fun b hb => (g321 b hb).2
  have q0 := p8 (n % 256) (by omega)
  have q1 := p8 (n / 256 % 256) (by omega)
  have q2 := p8 (n / 256 / 256 % 256) (by omega)
  have q3 := p8 (n / 256 / 256 / 256 % 256) (by omega)
  have hm : mp pop 8 n = pop (n % 256) + 256 * (pop (n / 256 % 256) + 256 * (pop (n / 256 / 256 % 256) + 256 * pop (n / 256 / 256 / 256 % 256))) := by
    simp only [mp]
    rw [show n / 256 / 256 / 256 / 256 = 0 by omega]
    simp [pop_zero]
    omega
  have hpop : pop n = pop (n % 256) + pop (n / 256 % 256) + pop (n / 256 / 256 % 256) + pop (n / 256 / 256 / 256 % 256) := by
    have c0 := pop_cat 8 (n / 256) (n % 256) (by omega)
    have c1 := pop_cat 8 (n / 256 / 256) (n / 256 % 256) (by omega)
    have c2 := pop_cat 8 (n / 256 / 256 / 256) (n / 256 / 256 % 256) (by omega)
    rw [show n / 256 * 2 ^ 8 + n % 256 = n by omega] at c0
    rw [show n / 256 / 256 * 2 ^ 8 + n / 256 % 256 = n / 256 by omega] at c1
    rw [show n / 256 / 256 / 256 * 2 ^ 8 + n / 256 / 256 % 256 = n / 256 / 256 by omega] at c2
    rw [c0, c1, c2, show n / 256 / 256 / 256 % 256 = n / 256 / 256 / 256 by omega]
    omega
  generalize pop (n % 256) = w0 at *
  generalize pop (n / 256 % 256) = w1 at *
  generalize pop (n / 256 / 256 % 256) = w2 at *
  generalize pop (n / 256 / 256 / 256 % 256) = w3 at *
  rw [u456 _ (by rw [hm]; omega), hpop, hm]
  simp only
  rw [sum_bytes w0 w1 w2 w3 q0 q1 q2 q3 _ rfl]

end Go.Proofs.YtngllobakfnhiaaDoor
