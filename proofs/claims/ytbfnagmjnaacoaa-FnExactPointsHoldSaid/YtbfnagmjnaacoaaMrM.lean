/- Maps between frames by value: when one is a map, a morphism; what is pulled back. Plain mathematics. -/
import Derived.Test.YtbfnagmjnaacoaaJn04
import Derived.Test.YtbfnagmjnaacoaaCoT
import Derived.Test.YtbfnagmjnaacoaaJn05
namespace Go.Proofs.Ytbfnagmjnaacoaa
open Go.RowKit

def mapB (n : Int) (ls : List Int) : Nat → Bool
  | 0 => true
  | k + 1 => mapB n ls k && wlB n (nth ls k)
def mpB (n0 n1 : Int) (ls : List Int) : Bool := decide ((ls.length : Int) = n0) && mapB n1 ls ls.length
def mrB (xs ps ls : List Int) : Nat → Bool
  | 0 => true
  | k + 1 => mrB xs ps ls k && (coTo ls (nth xs k) ls.length == nth ps (nth ls k).toNat)
def imK (n0 : Int) (xs : List Int) (n1 : Int) (ps ls : List Int) : Bool := frB n0 xs && frB n1 ps && mpB n0 n1 ls
def imC (n0 : Int) (xs : List Int) (n1 : Int) (ps ls : List Int) : Int := if imK n0 xs n1 ps ls then 0 else 1
def imV (n0 : Int) (xs : List Int) (n1 : Int) (ps ls : List Int) : Bool := imK n0 xs n1 ps ls && mrB xs ps ls ls.length

theorem mapB_false {n : Int} {ls : List Int} {k l : Nat} (hk : k ≤ l) (h : mapB n ls k = false) : mapB n ls l = false := by
  induction l with
  | zero => simp at hk; subst hk; exact h
  | succ l ih =>
    by_cases e : k = l + 1
    · subst e; exact h
    · rw [mapB, ih (by omega)]; rfl
theorem mrB_false {xs ps ls : List Int} {k l : Nat} (hk : k ≤ l) (h : mrB xs ps ls k = false) : mrB xs ps ls l = false := by
  induction l with
  | zero => simp at hk; subst hk; exact h
  | succ l ih =>
    by_cases e : k = l + 1
    · subst e; exact h
    · rw [mrB, ih (by omega)]; rfl
theorem mapB_iff {n : Int} {ls : List Int} (k : Nat) : mapB n ls k = true ↔ ∀ i, i < k → 0 ≤ nth ls i ∧ nth ls i < n := by
  induction k with
  | zero => exact ⟨fun _ i h => absurd h (by omega), fun _ => rfl⟩
  | succ k ih =>
    rw [mapB, Bool.and_eq_true, ih, wlB, Bool.and_eq_true, decide_eq_true_eq, decide_eq_true_eq]
    constructor
    · rintro ⟨a, b⟩ i hi
      by_cases e : i = k
      · subst e; exact b
      · exact a i (by omega)
    · exact fun h => ⟨fun i hi => h i (by omega), h k (by omega)⟩

/-- Two frames and a map. -/
structure Mp (xs ps ls : List Int) : Prop where
  x8 : xs.length ≤ 8
  p8 : ps.length ≤ 8
  xr : Rel xs.length (nth xs)
  pr : Rel ps.length (nth ps)
  ll : ls.length = xs.length
  lb : ∀ i, i < ls.length → ∃ q : Nat, q < ps.length ∧ nth ls i = q
theorem Mp.ok {xs ps ls : List Int} (h : Mp xs ps ls) : LsOk ps.length ls := fun i hi => by
  obtain ⟨q, a, b⟩ := h.lb i hi
  exact ⟨q, b, a⟩
theorem Mp.b30 {xs ps ls : List Int} (h : Mp xs ps ls) (i : Nat) : 0 ≤ nth ls i ∧ nth ls i ≤ 30 := by
  by_cases hi : i < ls.length
  · obtain ⟨q, a, b⟩ := h.lb i hi
    have := h.p8
    omega
  · rw [nth_high (by omega)]; omega
theorem mp_of {n0 n1 : Int} {xs ps ls : List Int} (h0 : frB n0 xs = true) (h1 : frB n1 ps = true) (h2 : mpB n0 n1 ls = true) : n0 = xs.length ∧ n1 = ps.length ∧ Mp xs ps ls := by
  obtain ⟨e0, x8, -, xr⟩ := frB_ok h0
  obtain ⟨e1, p8, -, pr⟩ := frB_ok h1
  rw [mpB, Bool.and_eq_true, decide_eq_true_eq, mapB_iff] at h2
  refine ⟨e0, e1, x8, p8, xr, pr, by omega, fun i hi => ?_⟩
  obtain ⟨a, b⟩ := h2.2 i hi
  exact ⟨(nth ls i).toNat, by omega, by omega⟩
theorem imK_of {n0 n1 : Int} {xs ps ls : List Int} (h : imK n0 xs n1 ps ls = true) : n0 = xs.length ∧ n1 = ps.length ∧ Mp xs ps ls := by
  unfold imK at h
  rw [Bool.and_eq_true, Bool.and_eq_true] at h
  exact mp_of h.1.1 h.1.2 h.2
theorem im_bad {n0 n1 : Int} {xs ps ls : List Int} (h : imK n0 xs n1 ps ls = false) : Ending.returned (.tuple #[.bool false, .int .i64 1]) = .returned (.tuple #[.bool (imV n0 xs n1 ps ls), .int .i64 (imC n0 xs n1 ps ls)]) := by rw [imV, imC, h]; rfl
theorem im_ok {n0 n1 : Int} {xs ps ls : List Int} {z : Bool} (h : imK n0 xs n1 ps ls = true) (hz : z = mrB xs ps ls ls.length) : Ending.returned (.tuple #[.bool z, .int .i64 0]) = .returned (.tuple #[.bool (imV n0 xs n1 ps ls), .int .i64 (imC n0 xs n1 ps ls)]) := by rw [imV, imC, h, hz]; rfl

theorem boxTf (w : World) (n0 : Int) (a0 : Option Addr) (l0 c0 : Nat) (n1 : Int) (a1 : Option Addr) (l1 c1 : Nat) : ∃ W : World, W = (w.alloc (.cells #[.int .i64 n0, .slice a0 l0 c0] 38)).alloc (.cells #[.int .i64 n1, .slice a1 l1 c1] 38) ∧
    Hid (Below w.heap.size w W) ∧ Hid (Bx W w.heap.size n0 a0 l0 c0) ∧ Hid (Bx W (w.heap.size + 1) n1 a1 l1 c1) ∧ W.heap.size = w.heap.size + 1 + 1 := by
  refine ⟨_, rfl, Lib.hid (((Below.refl w.heap.size w).alloc (Nat.le_refl _) _).alloc (by simp) _), Lib.hid ((Bx.new w n0 a0 l0 c0 _).keep (alloc_keep _ _).1), ?_, by simp⟩
  have := Bx.new (w.alloc (.cells #[.int .i64 n0, .slice a0 l0 c0] 38)) n1 a1 l1 c1 38
  exact Lib.hid (by simpa using this)

theorem own_lst {w : World} {lo hi : Nat} {v : Value} {xs : List Int} (h : OwnIn w lo hi v xs) : ∃ a c, v = .slice a xs.length c ∧ At w a xs.length xs := by
  obtain ⟨a, c, e, hat, -⟩ := Own.at h.1
  exact ⟨a, c, e, hat⟩

/-! What is pulled back. -/
def plL (ls ys : List Int) : List Int := tab ys.length (fun v => sqTo ls (nth ys v) ls.length)
theorem plL_len (ls ys : List Int) : (plL ls ys).length = ys.length := tab_len _ _

end Go.Proofs.Ytbfnagmjnaacoaa
