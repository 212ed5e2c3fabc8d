/- 3 texts in one: MrM, MrS, Ix1. -/
import Derived.Test.YtbfnagmjnaacoaaJn05
import Derived.Test.YtbfnagmjnaacoaaJn06
import Derived.Test.YtbfnagmjnaacoaaFrV
/- Maps between frames by value: when one is a map, a morphism; what is pulled back. Plain mathematics. -/
namespace Go.Proofs.Ytbfnagmjnaacoaa
open Go.RowKit

def mapB (n : Int) (ls : List Int) : Nat → Bool
  | 0 => true
  | k + 1 => mapB n ls k && wlB n (nth ls k)
def mpB (n0 n1 : Int) (ls : List Int) : Bool := decide ((ls.length : Int) = n0) && mapB n1 ls ls.length
def mrB (xs ps ls : List Int) : Nat → Bool
  | 0 => true
  | k + 1 => mrB xs ps ls k && (coTo ls (nth xs k) ls.length == nth ps (nth ls k).toNat)
def imK (n0 : Int) (xs : List Int) (n1 : Int) (ps ls : List Int) : Bool := frB n0 xs && frB n1 ps && mpB n0 n1 ls
def imC (n0 : Int) (xs : List Int) (n1 : Int) (ps ls : List Int) : Int := if imK n0 xs n1 ps ls then 0 else 1
def imV (n0 : Int) (xs : List Int) (n1 : Int) (ps ls : List Int) : Bool := imK n0 xs n1 ps ls && mrB xs ps ls ls.length

theorem mapB_false {n : Int} {ls : List Int} {k l : Nat} (hk : k ≤ l) (h : mapB n ls k = false) : mapB n ls l = false := by
  induction l with
  | zero => simp at hk; subst hk; exact h
  | succ l ih =>
    by_cases e : k = l + 1
    · subst e; exact h
    · rw [mapB, ih (by omega)]; rfl
theorem mrB_false {xs ps ls : List Int} {k l : Nat} (hk : k ≤ l) (h : mrB xs ps ls k = false) : mrB xs ps ls l = false := by
  induction l with
  | zero => simp at hk; subst hk; exact h
  | succ l ih =>
    by_cases e : k = l + 1
    · subst e; exact h
    · rw [mrB, ih (by omega)]; rfl
theorem mapB_iff {n : Int} {ls : List Int} (k : Nat) : mapB n ls k = true ↔ ∀ i, i < k → 0 ≤ nth ls i ∧ nth ls i < n := by
  induction k with
  | zero => exact ⟨fun _ i h => absurd h (by omega), fun _ => rfl⟩
  | succ k ih =>
    rw [mapB, Bool.and_eq_true, ih, wlB, Bool.and_eq_true, decide_eq_true_eq, decide_eq_true_eq]
    constructor
    · rintro ⟨a, b⟩ i hi
      by_cases e : i = k
      · subst e; exact b
      · exact a i (by omega)
    · exact fun h => ⟨fun i hi => h i (by omega), h k (by omega)⟩

/-- Two frames and a map. -/
structure Mp (xs ps ls : List Int) : Prop where
  x8 : xs.length ≤ 8
  p8 : ps.length ≤ 8
  xr : Rel xs.length (nth xs)
  pr : Rel ps.length (nth ps)
  ll : ls.length = xs.length
  lb : ∀ i, i < ls.length → ∃ q : Nat, q < ps.length ∧ nth ls i = q
theorem Mp.ok {xs ps ls : List Int} (h : Mp xs ps ls) : LsOk ps.length ls := fun i hi => by
  obtain ⟨q, a, b⟩ := h.lb i hi
  exact ⟨q, b, a⟩
theorem Mp.b30 {xs ps ls : List Int} (h : Mp xs ps ls) (i : Nat) : 0 ≤ nth ls i ∧ nth ls i ≤ 30 := by
  by_cases hi : i < ls.length
  · obtain ⟨q, a, b⟩ := h.lb i hi
    have := h.p8
    omega
  · rw [nth_high (by omega)]; omega
theorem mp_of {n0 n1 : Int} {xs ps ls : List Int} (h0 : frB n0 xs = true) (h1 : frB n1 ps = true) (h2 : mpB n0 n1 ls = true) : n0 = xs.length ∧ n1 = ps.length ∧ Mp xs ps ls := by
  obtain ⟨e0, x8, -, xr⟩ := frB_ok h0
  obtain ⟨e1, p8, -, pr⟩ := frB_ok h1
  rw [mpB, Bool.and_eq_true, decide_eq_true_eq, mapB_iff] at h2
  refine ⟨e0, e1, x8, p8, xr, pr, by omega, fun i hi => ?_⟩
  obtain ⟨a, b⟩ := h2.2 i hi
  exact ⟨(nth ls i).toNat, by omega, by omega⟩
theorem imK_of {n0 n1 : Int} {xs ps ls : List Int} (h : imK n0 xs n1 ps ls = true) : n0 = xs.length ∧ n1 = ps.length ∧ Mp xs ps ls := by
  unfold imK at h
  rw [Bool.and_eq_true, Bool.and_eq_true] at h
  exact mp_of h.1.1 h.1.2 h.2
theorem im_bad {n0 n1 : Int} {xs ps ls : List Int} (h : imK n0 xs n1 ps ls = false) : Ending.returned (.tuple #[.bool false, .int .i64 1]) = .returned (.tuple #[.bool (imV n0 xs n1 ps ls), .int .i64 (imC n0 xs n1 ps ls)]) := by rw [imV, imC, h]; rfl
theorem im_ok {n0 n1 : Int} {xs ps ls : List Int} {z : Bool} (h : imK n0 xs n1 ps ls = true) (hz : z = mrB xs ps ls ls.length) : Ending.returned (.tuple #[.bool z, .int .i64 0]) = .returned (.tuple #[.bool (imV n0 xs n1 ps ls), .int .i64 (imC n0 xs n1 ps ls)]) := by rw [imV, imC, h, hz]; rfl

theorem boxTf (w : World) (n0 : Int) (a0 : Option Addr) (l0 c0 : Nat) (n1 : Int) (a1 : Option Addr) (l1 c1 : Nat) : ∃ W : World, W = (w.alloc (.cells #[.int .i64 n0, .slice a0 l0 c0] 38)).alloc (.cells #[.int .i64 n1, .slice a1 l1 c1] 38) ∧
    Hid (Below w.heap.size w W) ∧ Hid (Bx W w.heap.size n0 a0 l0 c0) ∧ Hid (Bx W (w.heap.size + 1) n1 a1 l1 c1) ∧ W.heap.size = w.heap.size + 1 + 1 := by
  refine ⟨_, rfl, Lib.hid (((Below.refl w.heap.size w).alloc (Nat.le_refl _) _).alloc (by simp) _), Lib.hid ((Bx.new w n0 a0 l0 c0 _).keep (alloc_keep _ _).1), ?_, by simp⟩
  have := Bx.new (w.alloc (.cells #[.int .i64 n0, .slice a0 l0 c0] 38)) n1 a1 l1 c1 38
  exact Lib.hid (by simpa using this)

theorem own_lst {w : World} {lo hi : Nat} {v : Value} {xs : List Int} (h : OwnIn w lo hi v xs) : ∃ a c, v = .slice a xs.length c ∧ At w a xs.length xs := by
  obtain ⟨a, c, e, hat, -⟩ := Own.at h.1
  exact ⟨a, c, e, hat⟩

/-! What is pulled back. -/
def plL (ls ys : List Int) : List Int := tab ys.length (fun v => sqTo ls (nth ys v) ls.length)
theorem plL_len (ls ys : List Int) : (plL ls ys).length = ys.length := tab_len _ _

end Go.Proofs.Ytbfnagmjnaacoaa

/- Contracts of the model's functions over maps between frames: the map's check, images of masks, morphisms. Conditions: those in the theorems. -/
namespace Go.Proofs.Ytbfnagmjnaacoaa
open Go.RowKit

end Go.Proofs.Ytbfnagmjnaacoaa

/- Searches in a list of numbers by a closure of one cell. Conditions: those in the theorems. -/
namespace Go.Proofs.Ytbfnagmjnaacoaa
open Go.RowKit

/-- A search by a closure over a cell: it tells for each number whether it is not one of what is wanted. -/
theorem idxI1_any (f : Nat → Bool) (xs : List Int) (R : Nat) (a : Option Addr) (cap : Nat) (w : World) (hn : xs.length ≤ 1048576) (hat : At w a xs.length xs)
    (hf : ∀ k, k < xs.length → ∀ W', Below w.heap.size w W' → Calls Try.prog 109 #[.int .i64 (nth xs k), .pointer (some ⟨R, 0, none⟩)] W' fun e w' => e = .returned (.bool (!(f k))) ∧ W' = w') :
    Calls Try.prog 149 #[.slice a xs.length cap, .func (.func 109) #[] #[.pointer (some ⟨R, 0, none⟩)]] w fun e w' => e = .returned (.int .i64 (frV f xs.length)) ∧ w = w' := by
  have H := Lib.hid hat
  have HF := Lib.hid (fun k hk => hf k hk w (Below.refl _ _))
  obtain ⟨n, hnn⟩ : ∃ n, n = xs.length := ⟨_, rfl⟩
  clear hat hf
  rw [← hnn] at H HF hn ⊢
  clear hnn
  go_enter Try.func149, Try.ntmps149
  go_wp2
  go_loop [8] (fun i => ∃ k : Nat, k ≤ n ∧ i = .int .i64 k ∧ Hid (∀ j, j < k → f j = true)) (fun i => n - (intOf i).toNat)
  case atStart => exact ⟨0, Nat.zero_le _, rfl, Lib.hid (fun j h => absurd h (by omega))⟩
  case round =>
    obtain ⟨k, hk, rfl, P⟩ := hrel
    by_cases hlt : k < n
    · obtain ⟨b, off, rfl, hb, hc⟩ := H.out.2.resolve_left (by omega)
      have hcell := hc k hlt
      clear hc
      have RT := Lib.hid (HF.out k hlt)
      go_wp2_with fail
      refine RT.out.mono ?_
      cases hfk : f k
      · have FK := Lib.hid (fr_at P.out hfk hlt)
        rintro e w1 ⟨rfl, rfl⟩
        clear hfk
        go_wp2
        go_ret
        exact ⟨ret_int FK.out.symm, rfl⟩
      · have PK := Lib.hid (show ∀ j, j < k + 1 → f j = true from fun j hj => by
          by_cases e : j = k
          · rw [e]; exact hfk
          · exact P.out j (by omega))
        rintro e w1 ⟨rfl, rfl⟩
        clear hfk
        go_wp2
        go_round
        case rel => exact ⟨k + 1, hlt, by go_num, PK⟩
        case measure => simp [intOf]; omega
    · obtain rfl : k = n := by omega
      have FK := Lib.hid (fr_no P.out)
      go_wp2
      go_ret
      exact ⟨ret_int FK.out.symm, rfl⟩

theorem ctI1_any (f : Nat → Bool) (xs : List Int) (R : Nat) (a : Option Addr) (cap : Nat) (w : World) (hn : xs.length ≤ 1048576) (hat : At w a xs.length xs)
    (hf : ∀ k, k < xs.length → ∀ W', Below w.heap.size w W' → Calls Try.prog 109 #[.int .i64 (nth xs k), .pointer (some ⟨R, 0, none⟩)] W' fun e w' => e = .returned (.bool (!(f k))) ∧ W' = w') :
    Calls Try.prog 108 #[.slice a xs.length cap, .func (.func 109) #[] #[.pointer (some ⟨R, 0, none⟩)]] w fun e w' => e = .returned (.bool (!(alB f xs.length))) ∧ w = w' := by
  have I := Lib.hid (idxI1_any f xs R a cap w hn hat hf)
  have E := Lib.hid (fr_al f xs.length)
  clear hat hf
  go_enter Try.func108, Try.ntmps108
  go_wp2_with fail
  refine I.out.mono ?_
  rintro e w1 ⟨rfl, rfl⟩
  go_wp2
  go_ret
  exact ⟨ret_bool E.out, rfl⟩

end Go.Proofs.Ytbfnagmjnaacoaa
