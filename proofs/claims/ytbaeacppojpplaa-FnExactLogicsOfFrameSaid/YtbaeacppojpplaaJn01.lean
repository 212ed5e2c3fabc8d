/- 2 texts in one: Gen, FlM. -/
import Derived.Test.YtbaeacppojpplaaIsFr
/- Contracts of the reach of a frame and of GeneratedWorlds, of the model and of the program. Conditions: those in the theorems. -/
namespace Go.Proofs.Ytbaeacppojpplaa
open Go.RowKit

theorem bx1 {w w1 : World} {n : Int} {a : Option Addr} {len cap : Nat} (hb : Below (w.alloc (.cells #[.int .i64 n, .slice a len cap] 31)).heap.size (w.alloc (.cells #[.int .i64 n, .slice a len cap] 31)) w1) : Bx w1 w.heap.size n a len cap :=
  (Bx.new w n a len cap 31).keep hb

def gwV (n : Int) (xs : List Int) (m : Int) : Int := if cwV n xs m = 0 then rchV xs m else 0
theorem gw_ok {n m : Int} {xs : List Int} (h : cwV n xs m = 0) : Ending.returned (.tuple #[.int .i64 (rchV xs m), .int .i64 0]) = .returned (.tuple #[.int .i64 (gwV n xs m), .int .i64 (cwV n xs m)]) := by rw [gwV, if_pos h, h]
theorem gw_bad {n m c : Int} {xs : List Int} (h : ¬ cwV n xs m = 0) (hc : c = cwV n xs m) : Ending.returned (.tuple #[.int .i64 0, .int .i64 c]) = .returned (.tuple #[.int .i64 (gwV n xs m), .int .i64 (cwV n xs m)]) := by rw [gwV, if_neg h, hc]

end Go.Proofs.Ytbaeacppojpplaa

/- The flags of a frame as the model asks them, element by element. Plain mathematics. -/
namespace Go.Proofs.Ytbaeacppojpplaa
open Go.RowKit

def allTo (p : Nat → Bool) : Nat → Bool
  | 0 => true
  | k + 1 => allTo p k && p k
theorem allTo_iff {p : Nat → Bool} {n : Nat} : allTo p n = true ↔ ∀ k, k < n → p k = true := by
  induction n with
  | zero => simp [allTo]
  | succ n ih =>
    rw [allTo, Bool.and_eq_true, ih]
    constructor
    · rintro ⟨h1, h2⟩ k hk
      rcases Nat.lt_succ_iff_lt_or_eq.1 hk with h | h
      · exact h1 k h
      · subst h; exact h2
    · intro h
      exact ⟨fun k hk => h k (by omega), h n (by omega)⟩
theorem allTo_false {p : Nat → Bool} {n k : Nat} (hk : k < n) (h : p k = false) : allTo p n = false := by
  cases h2 : allTo p n
  · rfl
  · have := allTo_iff.1 h2 k hk
    rw [h] at this; cases this
theorem allTo_next {p : Nat → Bool} {k : Nat} (h : allTo p k = true) (h2 : p k = true) : allTo p (k + 1) = true := by rw [allTo, h, h2]; rfl

/-- What the model finds wrong at x, at x and y, at x, y and z. -/
def vX (f : Nat) (xs : List Int) (x : Nat) : Bool :=
  if f = 0 then !bitB (nth xs x) x else if f = 1 then nth xs x == 0 else if f = 2 then bits .andNot .i64 (imgTo xs (nth xs x) xs.length) (nth xs x) != 0
  else if f = 7 then bitB (nth (csL xs) x) x else if f = 10 then decide (1 < pop (nth xs x).toNat) else false
def vY (f : Nat) (xs : List Int) (x y : Nat) : Bool :=
  if f = 3 then !bitB (nth xs y) x else if f = 4 then bits .andNot .i64 (nth xs x) (nth xs y) != 0 else if f = 8 then decide (x ≠ y) && bitB (nth xs y) x
  else if f = 9 then bits .and .i64 (nth xs x) (nth (bsL xs) y) == 0 else false
def vZ (f : Nat) (xs : List Int) (y z : Nat) : Bool :=
  if f = 5 then bits .and .i64 (nth xs y) (nth xs z) == 0 else if f = 6 then !bitB (nth xs y) z && !bitB (nth xs z) y else false
def okZ (f : Nat) (xs : List Int) (x y z : Nat) : Bool := !bitB (nth xs x) z || !vZ f xs y z
def okY (f : Nat) (xs : List Int) (x y : Nat) : Bool := !bitB (nth xs x) y || (!vY f xs x y && allTo (okZ f xs x y) xs.length)
def okX (f : Nat) (xs : List Int) (x : Nat) : Bool := !vX f xs x && allTo (okY f xs x) xs.length
def flB (f : Nat) (xs : List Int) : Bool := allTo (okX f xs) xs.length

theorem flB_x {f : Nat} {xs : List Int} {x : Nat} (hx : x < xs.length) (h : vX f xs x = true) : flB f xs = false := allTo_false hx (by rw [okX, h]; rfl)
theorem okY_y {f : Nat} {xs : List Int} {x y : Nat} (hb : bitB (nth xs x) y = true) (h : vY f xs x y = true) : okY f xs x y = false := by rw [okY, hb, h]; rfl
theorem flB_okY {f : Nat} {xs : List Int} {x y : Nat} (hx : x < xs.length) (hy : y < xs.length) (h : okY f xs x y = false) : flB f xs = false :=
  allTo_false hx (by rw [okX, allTo_false hy h, Bool.and_false])
theorem flB_y {f : Nat} {xs : List Int} {x y : Nat} (hx : x < xs.length) (hy : y < xs.length) (hb : bitB (nth xs x) y = true) (h : vY f xs x y = true) : flB f xs = false := flB_okY hx hy (okY_y hb h)
theorem flB_z {f : Nat} {xs : List Int} {x y z : Nat} (hx : x < xs.length) (hy : y < xs.length) (hz : z < xs.length) (hb : bitB (nth xs x) y = true) (hb2 : bitB (nth xs x) z = true) (h : vZ f xs y z = true) : flB f xs = false :=
  flB_okY hx hy (by rw [okY, hb, allTo_false hz (by rw [okZ, hb2, h]; rfl), Bool.and_false]; rfl)
theorem okZ_no {f : Nat} {xs : List Int} {x y z : Nat} (h : bitB (nth xs x) z = false) : okZ f xs x y z = true := by rw [okZ, h]; rfl
theorem okZ_ok {f : Nat} {xs : List Int} {x y z : Nat} (h : vZ f xs y z = false) : okZ f xs x y z = true := by rw [okZ, h]; simp
theorem okY_no {f : Nat} {xs : List Int} {x y : Nat} (h : bitB (nth xs x) y = false) : okY f xs x y = true := by rw [okY, h]; rfl
theorem okY_ok {f : Nat} {xs : List Int} {x y : Nat} (h : vY f xs x y = false) (h2 : allTo (okZ f xs x y) xs.length = true) : okY f xs x y = true := by rw [okY, h, h2]; simp
theorem okX_ok {f : Nat} {xs : List Int} {x : Nat} (h : vX f xs x = false) (h2 : allTo (okY f xs x) xs.length = true) : okX f xs x = true := by rw [okX, h, h2]; rfl

end Go.Proofs.Ytbaeacppojpplaa
