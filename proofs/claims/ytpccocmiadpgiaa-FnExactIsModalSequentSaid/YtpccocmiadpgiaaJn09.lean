/- 2 texts in one: Join, Made. -/
import Derived.Test.YtpccocmiadpgiaaJn05
/- Contracts of the program's functions that make a formula of others, and of the model's. Conditions: those in the theorems. -/
namespace Go.Proofs.Ytpccocmiadpgiaa
open Go.RowKit

set_option maxHeartbeats 400000 in
theorem joinNodes_any (k : Int) (xss : List (List Nd)) (a : Option Addr) (len cap : Nat) (w : World) (hl : len ≤ 1048576) (hs : szTo xss len ≤ 4194304) (hp : ∀ j, j < len → 0 < (nthL xss j).length) (h0 : 0 < len) (h : AtNN w a len xss) :
    Calls Try.prog 33 #[.int .i64 k, .slice a len cap] w fun e w' => ∃ v, e = .returned v ∧ OwnN w' w.heap.size v ((k, 0) :: catTo xss len) ∧ Below w.heap.size w w' := by
  have H := Lib.hid h
  have P := Lib.hid hp
  have S := Lib.hid hs
  clear h hp hs
  have b0 : Below w.heap.size w (w.alloc (.cells #[.int .i64 k, .int .i64 0] 55)) := (Below.refl _ _).alloc (Nat.le_refl _) _
  have B0 := Lib.hid b0
  clear b0
  go_enter Try.func33, Try.ntmps33
  go_wp2_with fail
  refine (concat_any xss a len cap _ hl (by have := S.out; omega) P.out h0 (H.out.keep B0.out (Nat.le_refl _))).mono ?_
  rintro e w1 ⟨v1, rfl, ho1, hb1⟩
  obtain ⟨a1, c1, rfl, at1, -, -, -⟩ := ho1.at
  have hpos : 0 < (catTo xss len).length := by
    have h1 := P.out 0 h0
    have h2 := szTo_mono xss (show 1 ≤ len by omega)
    rw [catTo_len]
    simp only [szTo, Nat.zero_add] at h2
    omega
  have hsz : (catTo xss len).length ≤ 4194304 := by rw [catTo_len]; exact S.out
  have hlit : OwnN w1 w.heap.size (.slice (some ⟨w.heap.size, 0, none⟩) 1 1) [(k, 0)] := (litN w w.heap.size k 0 (Nat.le_refl _)).inn.below hb1 (Nat.le_refl _) |>.1
  have hb2 : Below w.heap.size w w1 := B0.out.trans (hb1.mono B0.out.size)
  have A1 := Lib.hid at1
  have B1 := Lib.hid hb2
  have L1 := Lib.hid hlit
  have HP := Lib.hid hpos
  have HS := Lib.hid hsz
  clear at1 hb1 hb2 hlit ho1 hpos hsz
  go_wp2_with (at_builtin; refine list_appN rfl _ _ rfl w.heap.size _ [(k, 0)] rfl L1.out (catTo xss len) a1 _ c1 rfl A1.out HP.out (by have := HS.out; simp; omega) B1.out.size ?_)
  intro v2 w2 ho2 hg2
  have b2 := below_appN B1.out (Below.refl _ _) B1.out.size L1.out hg2
  have B2 := Lib.hid b2
  have O2 := Lib.hid ho2
  clear b2 ho2 hg2
  go_wp2
  go_ret
  exact ⟨_, rfl, O2.out, B2.out⟩

theorem falseNodes_any (w : World) : Calls Try.prog 46 #[] w fun e w' => ∃ v, e = .returned v ∧ OwnN w' w.heap.size v [(1, 0)] ∧ Below w.heap.size w w' := by
  go_enter Try.func46, Try.ntmps46
  go_wp2
  go_ret
  exact ⟨_, rfl, litN w _ 1 0 (Nat.le_refl _), (Below.refl _ _).alloc (Nat.le_refl _) _⟩

/-- One list, or two, laid by a call with several arguments. -/
theorem lay1 {w : World} {C : Nat} {a : Option Addr} {len cap : Nat} {xs : List Nd} (h : AtN w a len xs) (t : TypeId) (hC : C = w.heap.size) : AtNN (w.alloc (.cells #[.slice a len cap] t)) (some ⟨C, 0, none⟩) 1 [xs] := by
  subst hC
  refine ⟨rfl, .inr ⟨w.heap.size, 0, rfl, by simp, fun j hj => ?_⟩⟩
  obtain rfl : j = 0 := by omega
  have hl := h.1
  refine ⟨a, cap, ?_, ?_⟩
  · rw [show (nthL [xs] 0).length = len from hl.symm]
    exact World.cell?_alloc_at _ _ _ _ rfl
  · rw [show (nthL [xs] 0).length = len from hl.symm]
    exact h.keep ((Below.refl _ _).alloc (Nat.le_refl _) _) (Nat.le_refl _)
theorem lay2 {w : World} {C : Nat} {a a' : Option Addr} {len cap len' cap' : Nat} {xs ys : List Nd} (h : AtN w a len xs) (h' : AtN w a' len' ys) (t : TypeId) (hC : C = w.heap.size) : AtNN (w.alloc (.cells #[.slice a len cap, .slice a' len' cap'] t)) (some ⟨C, 0, none⟩) 2 [xs, ys] := by
  subst hC
  refine ⟨rfl, .inr ⟨w.heap.size, 0, rfl, by simp, fun j hj => ?_⟩⟩
  have hl := h.1
  have hl' := h'.1
  have hj2 : j = 0 ∨ j = 1 := by omega
  rcases hj2 with rfl | rfl
  · refine ⟨a, cap, ?_, ?_⟩
    · rw [show (nthL [xs, ys] 0).length = len from hl.symm]
      exact World.cell?_alloc_at _ _ _ _ rfl
    · rw [show (nthL [xs, ys] 0).length = len from hl.symm]
      exact h.keep ((Below.refl _ _).alloc (Nat.le_refl _) _) (Nat.le_refl _)
  · refine ⟨a', cap', ?_, ?_⟩
    · rw [show (nthL [xs, ys] 1).length = len' from hl'.symm]
      exact World.cell?_alloc_at _ _ _ _ rfl
    · rw [show (nthL [xs, ys] 1).length = len' from hl'.symm]
      exact h'.keep ((Below.refl _ _).alloc (Nat.le_refl _) _) (Nat.le_refl _)

/-- Two parts joined by the program. -/
theorem join2_any (k : Int) (xs ys : List Nd) (a a' : Option Addr) (len len' cap cap' C : Nat) (w : World) (hl : len + len' ≤ 1048576) (hp : 0 < len) (hp' : 0 < len') (h : AtN w a len xs) (h' : AtN w a' len' ys) (t : TypeId) (hC : C = w.heap.size) :
    Calls Try.prog 33 #[.int .i64 k, .slice (some ⟨C, 0, none⟩) 2 2] (w.alloc (.cells #[.slice a len cap, .slice a' len' cap'] t)) fun e w' => ∃ v, e = .returned v ∧ OwnN w' w.heap.size v ((k, 0) :: (xs ++ ys)) ∧ Below w.heap.size w w' := by
  have hl1 := h.1
  have hl2 := h'.1
  refine (joinNodes_any k [xs, ys] _ 2 2 _ (by omega) (by simp [szTo, nthL]; omega) ?_ (by omega) (lay2 h h' t hC)).mono ?_
  · intro j hj
    have hj2 : j = 0 ∨ j = 1 := by omega
    rcases hj2 with rfl | rfl
    · show 0 < xs.length; omega
    · show 0 < ys.length; omega
  · rintro e w' ⟨v, rfl, ho, hb⟩
    refine ⟨v, rfl, ?_, ((Below.refl _ _).alloc (Nat.le_refl _) _).trans (hb.mono (by simp))⟩
    have := ho.mono (B' := w.heap.size) (by simp)
    simpa [catTo, nthL] using this
theorem join1_any (k : Int) (xs : List Nd) (a : Option Addr) (len cap C : Nat) (w : World) (hl : len ≤ 1048576) (hp : 0 < len) (h : AtN w a len xs) (t : TypeId) (hC : C = w.heap.size) :
    Calls Try.prog 33 #[.int .i64 k, .slice (some ⟨C, 0, none⟩) 1 1] (w.alloc (.cells #[.slice a len cap] t)) fun e w' => ∃ v, e = .returned v ∧ OwnN w' w.heap.size v ((k, 0) :: xs) ∧ Below w.heap.size w w' := by
  have hl1 := h.1
  refine (joinNodes_any k [xs] _ 1 1 _ (by omega) (by simp [szTo, nthL]; omega) ?_ (by omega) (lay1 h t hC)).mono ?_
  · intro j hj
    obtain rfl : j = 0 := by omega
    show 0 < xs.length
    omega
  · rintro e w' ⟨v, rfl, ho, hb⟩
    refine ⟨v, rfl, ?_, ((Below.refl _ _).alloc (Nat.le_refl _) _).trans (hb.mono (by simp))⟩
    have := ho.mono (B' := w.heap.size) (by simp)
    simpa [catTo, nthL] using this

set_option maxHeartbeats 400000 in
theorem notNodes_any (xs : List Nd) (a : Option Addr) (len cap : Nat) (w : World) (hl : len ≤ 1048575) (hp : 0 < len) (h : AtN w a len xs) :
    Calls Try.prog 45 #[.slice a len cap] w fun e w' => ∃ v, e = .returned v ∧ OwnN w' w.heap.size v ((4, 0) :: (xs ++ [(1, 0)])) ∧ Below w.heap.size w w' := by
  have H := Lib.hid h
  clear h
  go_enter Try.func45, Try.ntmps45
  go_wp2_with fail
  refine (falseNodes_any _).mono ?_
  rintro e w1 ⟨v1, rfl, ho1, hb1⟩
  obtain ⟨a1, c1, rfl, at1, -, -, -⟩ := ho1.at
  have B1 := Lib.hid hb1
  have A1 := Lib.hid at1
  clear hb1 ho1 at1
  go_wp2_with fail
  refine (join2_any 4 xs [(1, 0)] a a1 len 1 cap c1 _ w1 (by omega) hp (by omega) (H.out.keep B1.out (Nat.le_refl _)) A1.out _ rfl).mono ?_
  rintro e w2 ⟨v2, rfl, ho2, hb2⟩
  have B2 := Lib.hid (B1.out.trans (hb2.mono B1.out.size))
  have O2 := Lib.hid (ho2.mono B1.out.size)
  clear hb2 ho2
  go_wp2
  go_ret
  exact ⟨_, rfl, O2.out, B2.out⟩

end Go.Proofs.Ytpccocmiadpgiaa

/- Contracts of the functions of the model and of the program that make a formula of others, at every list of nodes, errors and limits among them. Conditions: those in the theorems. -/
namespace Go.Proofs.Ytpccocmiadpgiaa
open Go.RowKit

def lim (zs : List Nd) : List Nd := if 40 < zs.length then [] else zs
def limC (zs : List Nd) : Int := if 40 < zs.length then 3 else 0
theorem lim_len (zs : List Nd) : (lim zs).length ≤ 40 := by
  unfold lim
  split
  · exact Nat.zero_le _
  · omega
theorem ownN_nil (w : World) (B : Nat) : OwnN w B (.slice none 0 0) [] := World.ownsRow_nil w B 55 2

theorem withinLimit_any (zs : List Nd) (v : Value) (B : Nat) (w : World) (hl : zs.length ≤ 8388608) (h : OwnN w B v zs) :
    Calls Try.prog 32 #[v] w fun e w' => ∃ v', e = .returned (.tuple #[v', .int .i64 (limC zs)]) ∧ OwnN w' B v' (lim zs) ∧ w = w' := by
  obtain ⟨a, cap, rfl, -, -, -, -⟩ := h.at
  have H := Lib.hid h
  clear h
  by_cases hb : 40 < zs.length
  · have e1 : lim zs = [] := if_pos hb
    have e2 : limC zs = 3 := if_pos hb
    rw [e1, e2]
    have hb' : (40 : Int) < (zs.length : Int) := by omega
    clear e1 e2
    go_enter Try.func32, Try.ntmps32
    go_wp2
    go_ret2
    exact ⟨_, rfl, ownN_nil _ _, rfl⟩
  · have e1 : lim zs = zs := if_neg hb
    have e2 : limC zs = 0 := if_neg hb
    rw [e1, e2]
    have hb' : ¬ (40 : Int) < (zs.length : Int) := by omega
    clear e1 e2
    go_enter Try.func32, Try.ntmps32
    go_wp2
    go_ret2
    exact ⟨_, rfl, H.out, rfl⟩

theorem l02Made_any (zs : List Nd) (v : Value) (B : Nat) (w : World) (hl : zs.length ≤ 8388608) (h : OwnN w B v zs) :
    Calls Try.prog 26 #[v] w fun e w' => ∃ v', e = .returned (.tuple #[v', .int .i64 (limC zs)]) ∧ OwnN w' B v' (lim zs) ∧ w = w' := by
  obtain ⟨a, cap, rfl, -, -, -, -⟩ := h.at
  have H := Lib.hid h
  clear h
  by_cases hb : 40 < zs.length
  · have e1 : lim zs = [] := if_pos hb
    have e2 : limC zs = 3 := if_pos hb
    rw [e1, e2]
    have hb' : (40 : Int) < (zs.length : Int) := by omega
    clear e1 e2
    go_enter Try.func26, Try.ntmps26
    go_wp2
    go_ret2
    exact ⟨_, rfl, ownN_nil _ _, rfl⟩
  · have e1 : lim zs = zs := if_neg hb
    have e2 : limC zs = 0 := if_neg hb
    rw [e1, e2]
    have hb' : ¬ (40 : Int) < (zs.length : Int) := by omega
    clear e1 e2
    go_enter Try.func26, Try.ntmps26
    go_wp2
    go_ret2
    exact ⟨_, rfl, H.out, rfl⟩

theorem is_pos {xs : List Nd} (h : isB xs xs.length = true) : 0 < xs.length ∧ xs.length ≤ 40 := by
  simp only [isB, treeB, Bool.and_eq_true, decide_eq_true_eq] at h
  exact ⟨h.2.1.2, h.1⟩

/-! NotFormula -/
def notL (xs : List Nd) : List Nd := (4, 0) :: (xs ++ [(1, 0)])
def notR (xs : List Nd) : List Nd := if isB xs xs.length then lim (notL xs) else []
def notC (xs : List Nd) : Int := if isB xs xs.length then limC (notL xs) else 1
theorem NotFormula_len (xs : List Nd) : (notR xs).length ≤ 1048576 := by unfold notR; split <;> (try have := lim_len (notL xs)) <;> simp <;> omega
theorem not_bad {xs : List Nd} (h : isB xs xs.length = false) : notR xs = [] ∧ notC xs = 1 := by simp [notR, notC, h]
theorem not_good {xs : List Nd} (h : isB xs xs.length = true) : notR xs = lim (notL xs) ∧ notC xs = limC (notL xs) := by simp [notR, notC, h]

/-! PrefixFormula -/
def preR (k : Int) (xs : List Nd) : List Nd := if isB xs xs.length then (if k == 5 || k == 6 then lim ((k, 0) :: xs) else []) else []
def preC (k : Int) (xs : List Nd) : Int := if isB xs xs.length then (if k == 5 || k == 6 then limC ((k, 0) :: xs) else 2) else 1
theorem PrefixFormula_len (k : Int) (xs : List Nd) : (preR k xs).length ≤ 1048576 := by unfold preR; split <;> (try split) <;> (try have := lim_len ((k, 0) :: xs)) <;> simp <;> omega
theorem pre_bad {k : Int} {xs : List Nd} (h : isB xs xs.length = false) : preR k xs = [] ∧ preC k xs = 1 := by simp [preR, preC, h]
theorem pre_out {k : Int} {xs : List Nd} (h : isB xs xs.length = true) (h2 : (k == 5 || k == 6) = false) : preR k xs = [] ∧ preC k xs = 2 := by simp only [preR, preC, h, h2]; exact ⟨rfl, rfl⟩
theorem pre_good {k : Int} {xs : List Nd} (h : isB xs xs.length = true) (h2 : (k == 5 || k == 6) = true) : preR k xs = lim ((k, 0) :: xs) ∧ preC k xs = limC ((k, 0) :: xs) := by simp only [preR, preC, h, h2]; exact ⟨rfl, rfl⟩

end Go.Proofs.Ytpccocmiadpgiaa
