/- 3 texts in one: More, Box, Law. -/
import Derived.Test.YtfkdefmafhlmnaaSlices
/- Contracts of the remaining functions of chapter 1 that read a list and return numbers. Conditions: those in the theorems. -/
namespace Go.Proofs.Ytfkdefmafhlmnaa
open Go.RowKit

def bothI (xs : List Int) (len : Nat) (m : Int) : Int := if 30 < len then 2 else if mksTo len xs len && mskB len m then 0 else 1
theorem bothI_big {xs : List Int} {len : Nat} {m : Int} (h : 30 < len) : bothI xs len m = 2 := if_pos h
theorem bothI_of {xs : List Int} {len : Nat} {m : Int} (h : ¬ 30 < len) {b c : Bool} (h1 : mksTo len xs len = b) (h2 : mskB len m = c) : bothI xs len m = if b && c then 0 else 1 := by rw [bothI, if_neg h, h1, h2]
theorem cod_of {len : Nat} {m : Int} (h : ¬ 30 < len) {c : Bool} (h2 : mskB len m = c) : cod len m = if c then 0 else 1 := by
  have : inB (len : Int) 0 30 = true := by simp [inB]; omega
  rw [cod, this, h2]; rfl
theorem cod_both {xs : List Int} {len : Nat} {m : Int} (h : ¬ 30 < len) (h1 : mksTo len xs len = true) : cod len m = bothI xs len m := by
  cases h2 : mskB len m <;> rw [cod_of h h2, bothI_of h h1 h2] <;> rfl
theorem mksTo_small {xs : List Int} {len : Nat} {m : Int} (h : bothI xs len m = 0) : len ≤ 30 ∧ mksTo len xs len = true ∧ mskB len m = true := by
  unfold bothI at h
  split at h
  · omega
  · cases h1 : mksTo len xs len <;> cases h2 : mskB len m <;> simp [h1, h2] at h ⊢ <;> omega

def imgV (xs : List Int) (len : Nat) (m : Int) : Int := if bothI xs len m = 0 then imgTo xs m len else 0
theorem ImgOut_ok {xs : List Int} {len : Nat} {m : Int} (h : bothI xs len m = 0) : Ending.returned (.tuple #[.int .i64 (imgTo xs m len), .int .i64 0]) = .returned (.tuple #[.int .i64 (imgV xs len m), .int .i64 (bothI xs len m)]) := by rw [imgV, if_pos h, h]
theorem ImgOut_bad {xs : List Int} {len : Nat} {m c : Int} (h : ¬ bothI xs len m = 0) (hc : c = bothI xs len m) : Ending.returned (.tuple #[.int .i64 0, .int .i64 c]) = .returned (.tuple #[.int .i64 (imgV xs len m), .int .i64 (bothI xs len m)]) := by rw [imgV, if_neg h, hc]
theorem At.drewN {w : World} {a : Option Addr} {len : Nat} {xs : List Int} (h : At w a len xs) (q : Nat) : At (w.drewN q) a len xs := h.keep (below_drewN (Below.refl w.heap.size w) q) (Nat.le_refl _)

end Go.Proofs.Ytfkdefmafhlmnaa

/- Contracts of the functions of chapter 1 behind BoxMask and MaskOf, and the walks of their laws. Conditions: those in the theorems. -/
namespace Go.Proofs.Ytfkdefmafhlmnaa
open Go.RowKit

theorem wrap_toInt (u : BitVec 64) : IntKind.i64.wrap (u.toNat : Int) = u.toInt := by
  rw [IntKind.wrap_i64, BitVec.toInt]
  have h := u.isLt
  split <;> omega
theorem ofInt_toInt (x : Int) (h : -9223372036854775808 ≤ x ∧ x ≤ 9223372036854775807) : (BitVec.ofInt 64 x).toInt = x := by
  rw [BitVec.toInt_ofInt]
  exact Int.bmod_eq_of_le (by omega) (by omega)

def subB (x m : Int) : Bool := bits .and .i64 x m == x
theorem subB_andNot (x m : Int) (h : -9223372036854775808 ≤ x ∧ x ≤ 9223372036854775807) : (bits .andNot .i64 x m == 0) = subB x m := by
  have e1 : bits .andNot .i64 x m = (BitVec.ofInt 64 x &&& ~~~ (BitVec.ofInt 64 m)).toInt := wrap_toInt _
  have e2 : bits .and .i64 x m = (BitVec.ofInt 64 x &&& BitVec.ofInt 64 m).toInt := wrap_toInt _
  have e3 : (bits .and .i64 x m == x) = (bits .and .i64 x m == (BitVec.ofInt 64 x).toInt) := by rw [ofInt_toInt x h]
  have e4 : (0 : Int) = (0#64).toInt := by decide
  unfold subB
  rw [e3, e1, e2, Bool.eq_iff_iff]
  simp only [beq_iff_eq]
  rw [e4, BitVec.toInt_inj, BitVec.toInt_inj]
  generalize BitVec.ofInt 64 x = a
  generalize BitVec.ofInt 64 m = b
  constructor
  · intro h
    refine BitVec.eq_of_getLsbD_eq fun i hi => ?_
    have := congrArg (fun v : BitVec 64 => v.getLsbD i) h
    simp only [BitVec.getLsbD_and, BitVec.getLsbD_not, hi, decide_true, Bool.true_and, BitVec.getLsbD_zero] at this ⊢
    revert this
    cases a.getLsbD i <;> cases b.getLsbD i <;> simp
  · intro h
    refine BitVec.eq_of_getLsbD_eq fun i hi => ?_
    have := congrArg (fun v : BitVec 64 => v.getLsbD i) h
    simp only [BitVec.getLsbD_and, BitVec.getLsbD_not, hi, decide_true, Bool.true_and, BitVec.getLsbD_zero] at this ⊢
    revert this
    cases a.getLsbD i <;> cases b.getLsbD i <;> simp

def boxTo (xs : List Int) (m : Int) : Nat → Int
  | 0 => 0
  | k + 1 => if subB (nth xs k) m then bits .or .i64 (boxTo xs m k) (one k) else boxTo xs m k

theorem nth_bd {xs : List Int} {n : Int} {len k : Nat} (hn : 0 ≤ n) (hn2 : n ≤ 30) (h : mksTo n xs len = true) (hk : k < len) : 0 ≤ nth xs k ∧ nth xs k ≤ 1073741823 := by
  induction len with
  | zero => omega
  | succ l ih =>
    rw [mksTo, Bool.and_eq_true] at h
    by_cases e : k = l
    · subst e
      have h2 := h.2
      rw [mskB, inB, full_eq n hn hn2] at h2
      have := pow_bd n hn hn2
      simp at h2
      omega
    · exact ih h.1 (by omega)

def boxV (xs : List Int) (len : Nat) (m : Int) : Int := if bothI xs len m = 0 then boxTo xs m len else 0
theorem BoxOut_ok {xs : List Int} {len : Nat} {m : Int} (h : bothI xs len m = 0) : Ending.returned (.tuple #[.int .i64 (boxTo xs m len), .int .i64 0]) = .returned (.tuple #[.int .i64 (boxV xs len m), .int .i64 (bothI xs len m)]) := by rw [boxV, if_pos h, h]
theorem BoxOut_bad {xs : List Int} {len : Nat} {m c : Int} (h : ¬ bothI xs len m = 0) (hc : c = bothI xs len m) : Ending.returned (.tuple #[.int .i64 0, .int .i64 c]) = .returned (.tuple #[.int .i64 (boxV xs len m), .int .i64 (bothI xs len m)]) := by rw [boxV, if_neg h, hc]

def mo (n : Int) (xs : List Int) : Nat → Int
  | 0 => 0
  | k + 1 => bits .or .i64 (mo n xs k) (one (nth xs k))
def moB (n : Int) (xs : List Int) : Nat → Bool
  | 0 => true
  | k + 1 => moB n xs k && inB (nth xs k) 0 (n - 1)
theorem moB_false {n : Int} {xs : List Int} {k l : Nat} (hk : k ≤ l) (h : moB n xs k = false) : moB n xs l = false := by
  induction l with
  | zero => simp at hk; subst hk; exact h
  | succ l ih =>
    by_cases e : k = l + 1
    · subst e; exact h
    · rw [moB, ih (by omega)]; rfl
def moV (n : Int) (xs : List Int) (len : Nat) : Int := if inB n 0 30 && moB n xs len then mo n xs len else 0
def moC (n : Int) (xs : List Int) (len : Nat) : Int := if inB n 0 30 then (if moB n xs len then 0 else 1) else 2
def moR (n : Int) (xs : List Int) (len : Nat) : Value := .tuple #[.int .i64 (moV n xs len), .int .i64 (moC n xs len)]
theorem mo_range {n : Int} {xs : List Int} {len : Nat} (h : inB n 0 30 = false) : Ending.returned (.tuple #[.int .i64 0, .int .i64 2]) = .returned (moR n xs len) := by simp [moR, moV, moC, h]
theorem mo_bad {n : Int} {xs : List Int} {len : Nat} (h : inB n 0 30 = true) (h2 : moB n xs len = false) : Ending.returned (.tuple #[.int .i64 0, .int .i64 1]) = .returned (moR n xs len) := by simp [moR, moV, moC, h, h2]
theorem mo_ok {n : Int} {xs : List Int} {len : Nat} (h : inB n 0 30 = true) (h2 : moB n xs len = true) : Ending.returned (.tuple #[.int .i64 (mo n xs len), .int .i64 0]) = .returned (moR n xs len) := by simp [moR, moV, moC, h, h2]

end Go.Proofs.Ytfkdefmafhlmnaa

/- What the laws over results that are lists of int64 need: owned slices told by values, and the contracts of compare, mark and held over them. Conditions: those in the theorems. -/
namespace Go.Proofs.Ytfkdefmafhlmnaa
open Go.RowKit

/-- The slice value v is the call's own, its block lies in lo .. hi - 1, and it holds xs. -/
def OwnIn (w : World) (lo hi : Nat) (v : Value) (xs : List Int) : Prop := Own w lo v xs ∧ hi ≤ w.heap.size ∧ ∀ k, v.ownBlock = some k → lo ≤ k ∧ k < hi

theorem Own.inn {w : World} {lo : Nat} {v : Value} {xs : List Int} (h : Own w lo v xs) : OwnIn w lo w.heap.size v xs := ⟨h, Nat.le_refl _, World.ownsRow.lt h⟩
theorem OwnIn.below {w w' : World} {lo hi C : Nat} {v : Value} {xs : List Int} (h : OwnIn w lo hi v xs) (hb : Below C w w') (hC : hi ≤ C) : OwnIn w' lo hi v xs := by
  refine ⟨⟨h.1.1, ?_⟩, Nat.le_trans h.2.1 hb.size, h.2.2⟩
  rcases h.1.2 with h2 | ⟨g, cap, cur, hv, hg, hh, r⟩
  · exact .inl h2
  · have hlt := (h.2.2 g (by rw [hv]; rfl)).2
    exact .inr ⟨g, cap, cur, hv, hg, by rw [hb.block g (by omega)]; exact hh, r⟩
theorem OwnIn.drewN {w : World} {lo hi : Nat} {v : Value} {xs : List Int} (h : OwnIn w lo hi v xs) (q : Nat) : OwnIn (w.drewN q) lo hi v xs := h.below (below_drewN (Below.refl hi w) q) (Nat.le_refl _)
theorem OwnIn.other {w w' : World} {lo hi lo' hi' : Nat} {v u : Value} {xs ys : List Int} (h : OwnIn w lo hi v xs) (hu : OwnIn w lo' hi' u ys) (hg : w.grownBy w' u.ownBlock) (hd : hi ≤ lo' ∨ hi' ≤ lo) : OwnIn w' lo hi v xs := by
  refine ⟨World.ownsRow.kept h.1 hg ?_, Nat.le_trans h.2.1 hg.size, h.2.2⟩
  cases hv : v.ownBlock with
  | none => exact .inl rfl
  | some k =>
    right
    intro e
    have h1 := h.2.2 k hv
    have h2 := hu.2.2 k e.symm
    omega

theorem eq_own (xs : List Int) (v v' : Value) (lo hi lo' hi' : Nat) (w : World) (hl : xs.length ≤ 1048576) (h : OwnIn w lo hi v xs) (h' : OwnIn w lo' hi' v' xs) :
    Calls Try.prog 26 #[v, v'] w (SomeDrew w fun e => e = .returned (.bool true)) := by
  obtain ⟨a, cap, rfl, hat, -, -, -⟩ := h.1.at
  obtain ⟨a', cap', rfl, hat', -, -, -⟩ := h'.1.at
  exact eqInt64S_any xs a a' xs.length cap cap' w hl hat hat'

theorem mark_own (xs : List Int) (v : Value) (lo hi : Nat) (n : Int) (w : World) (hl : xs.length ≤ 1048576) (hn : 0 ≤ n) (hn2 : n ≤ 4611686018427387904) (h : OwnIn w lo hi v xs) :
    Calls Try.prog 27 #[v, .int .i64 n] w fun e w' => e = .returned (.int .i64 (n + xs.length)) ∧ OwnIn w' lo hi v (mks n xs.length) ∧ Below lo w w' ∧ w.grownBy w' v.ownBlock :=
  (markInt64S_any xs v lo n w hl hn hn2 h.1).mono fun _ _ ⟨h1, h2, h3, h4⟩ => ⟨h1, ⟨h2, Nat.le_trans h.2.1 h3.size, h.2.2⟩, h3, h4⟩

theorem held_own (m : Nat) (v : Value) (lo hi : Nat) (n : Int) (w : World) (hl : m ≤ 1048576) (hn : 0 ≤ n) (hn2 : n ≤ 4611686018427387904) (h : OwnIn w lo hi v (mks n m)) :
    Calls Try.prog 29 #[v, .int .i64 n] w fun e w' => e = .returned (.int .i64 (n + m)) ∧ w = w' := by
  obtain ⟨a, cap, rfl, hat, -, -, -⟩ := h.1.at
  rw [mks_len] at hat ⊢
  exact heldInt64S_any m a cap n w hl hn hn2 hat

end Go.Proofs.Ytfkdefmafhlmnaa
