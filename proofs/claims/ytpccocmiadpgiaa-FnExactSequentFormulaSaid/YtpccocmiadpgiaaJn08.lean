/- 4 texts in one: Join, Made, OwnL, Ok. -/
import Derived.Test.YtpccocmiadpgiaaJn04
/- Contracts of the program's functions that make a formula of others, and of the model's. Conditions: those in the theorems. -/
namespace Go.Proofs.Ytpccocmiadpgiaa
open Go.RowKit

set_option maxHeartbeats 400000 in
theorem joinNodes_any (k : Int) (xss : List (List Nd)) (a : Option Addr) (len cap : Nat) (w : World) (hl : len ≤ 1048576) (hs : szTo xss len ≤ 4194304) (hp : ∀ j, j < len → 0 < (nthL xss j).length) (h0 : 0 < len) (h : AtNN w a len xss) :
    Calls Try.prog 33 #[.int .i64 k, .slice a len cap] w fun e w' => ∃ v, e = .returned v ∧ OwnN w' w.heap.size v ((k, 0) :: catTo xss len) ∧ Below w.heap.size w w' := by
  have H := Lib.hid h
  have P := Lib.hid hp
  have S := Lib.hid hs
  clear h hp hs
  have b0 : Below w.heap.size w (w.alloc (.cells #[.int .i64 k, .int .i64 0] 55)) := (Below.refl _ _).alloc (Nat.le_refl _) _
  have B0 := Lib.hid b0
  clear b0
  go_enter Try.func33, Try.ntmps33
  go_wp2_with fail
  refine (concat_any xss a len cap _ hl (by have := S.out; omega) P.out h0 (H.out.keep B0.out (Nat.le_refl _))).mono ?_
  rintro e w1 ⟨v1, rfl, ho1, hb1⟩
  obtain ⟨a1, c1, rfl, at1, -, -, -⟩ := ho1.at
  have hpos : 0 < (catTo xss len).length := by
    have h1 := P.out 0 h0
    have h2 := szTo_mono xss (show 1 ≤ len by omega)
    rw [catTo_len]
    simp only [szTo, Nat.zero_add] at h2
    omega
  have hsz : (catTo xss len).length ≤ 4194304 := by rw [catTo_len]; exact S.out
  have hlit : OwnN w1 w.heap.size (.slice (some ⟨w.heap.size, 0, none⟩) 1 1) [(k, 0)] := (litN w w.heap.size k 0 (Nat.le_refl _)).inn.below hb1 (Nat.le_refl _) |>.1
  have hb2 : Below w.heap.size w w1 := B0.out.trans (hb1.mono B0.out.size)
  have A1 := Lib.hid at1
  have B1 := Lib.hid hb2
  have L1 := Lib.hid hlit
  have HP := Lib.hid hpos
  have HS := Lib.hid hsz
  clear at1 hb1 hb2 hlit ho1 hpos hsz
  go_wp2_with (at_builtin; refine list_appN rfl _ _ rfl w.heap.size _ [(k, 0)] rfl L1.out (catTo xss len) a1 _ c1 rfl A1.out HP.out (by have := HS.out; simp; omega) B1.out.size ?_)
  intro v2 w2 ho2 hg2
  have b2 := below_appN B1.out (Below.refl _ _) B1.out.size L1.out hg2
  have B2 := Lib.hid b2
  have O2 := Lib.hid ho2
  clear b2 ho2 hg2
  go_wp2
  go_ret
  exact ⟨_, rfl, O2.out, B2.out⟩

theorem falseNodes_any (w : World) : Calls Try.prog 46 #[] w fun e w' => ∃ v, e = .returned v ∧ OwnN w' w.heap.size v [(1, 0)] ∧ Below w.heap.size w w' := by
  go_enter Try.func46, Try.ntmps46
  go_wp2
  go_ret
  exact ⟨_, rfl, litN w _ 1 0 (Nat.le_refl _), (Below.refl _ _).alloc (Nat.le_refl _) _⟩

/-- One list, or two, laid by a call with several arguments. -/
theorem lay1 {w : World} {C : Nat} {a : Option Addr} {len cap : Nat} {xs : List Nd} (h : AtN w a len xs) (t : TypeId) (hC : C = w.heap.size) : AtNN (w.alloc (.cells #[.slice a len cap] t)) (some ⟨C, 0, none⟩) 1 [xs] := by
  subst hC
  refine ⟨rfl, .inr ⟨w.heap.size, 0, rfl, by simp, fun j hj => ?_⟩⟩
  obtain rfl : j = 0 := by omega
  have hl := h.1
  refine ⟨a, cap, ?_, ?_⟩
  · rw [show (nthL [xs] 0).length = len from hl.symm]
    exact World.cell?_alloc_at _ _ _ _ rfl
  · rw [show (nthL [xs] 0).length = len from hl.symm]
    exact h.keep ((Below.refl _ _).alloc (Nat.le_refl _) _) (Nat.le_refl _)
theorem lay2 {w : World} {C : Nat} {a a' : Option Addr} {len cap len' cap' : Nat} {xs ys : List Nd} (h : AtN w a len xs) (h' : AtN w a' len' ys) (t : TypeId) (hC : C = w.heap.size) : AtNN (w.alloc (.cells #[.slice a len cap, .slice a' len' cap'] t)) (some ⟨C, 0, none⟩) 2 [xs, ys] := by
  subst hC
  refine ⟨rfl, .inr ⟨w.heap.size, 0, rfl, by simp, fun j hj => ?_⟩⟩
  have hl := h.1
  have hl' := h'.1
  have hj2 : j = 0 ∨ j = 1 := by omega
  rcases hj2 with rfl | rfl
  · refine ⟨a, cap, ?_, ?_⟩
    · rw [show (nthL [xs, ys] 0).length = len from hl.symm]
      exact World.cell?_alloc_at _ _ _ _ rfl
    · rw [show (nthL [xs, ys] 0).length = len from hl.symm]
      exact h.keep ((Below.refl _ _).alloc (Nat.le_refl _) _) (Nat.le_refl _)
  · refine ⟨a', cap', ?_, ?_⟩
    · rw [show (nthL [xs, ys] 1).length = len' from hl'.symm]
      exact World.cell?_alloc_at _ _ _ _ rfl
    · rw [show (nthL [xs, ys] 1).length = len' from hl'.symm]
      exact h'.keep ((Below.refl _ _).alloc (Nat.le_refl _) _) (Nat.le_refl _)

/-- Two parts joined by the program. -/
theorem join2_any (k : Int) (xs ys : List Nd) (a a' : Option Addr) (len len' cap cap' C : Nat) (w : World) (hl : len + len' ≤ 1048576) (hp : 0 < len) (hp' : 0 < len') (h : AtN w a len xs) (h' : AtN w a' len' ys) (t : TypeId) (hC : C = w.heap.size) :
    Calls Try.prog 33 #[.int .i64 k, .slice (some ⟨C, 0, none⟩) 2 2] (w.alloc (.cells #[.slice a len cap, .slice a' len' cap'] t)) fun e w' => ∃ v, e = .returned v ∧ OwnN w' w.heap.size v ((k, 0) :: (xs ++ ys)) ∧ Below w.heap.size w w' := by
  have hl1 := h.1
  have hl2 := h'.1
  refine (joinNodes_any k [xs, ys] _ 2 2 _ (by omega) (by simp [szTo, nthL]; omega) ?_ (by omega) (lay2 h h' t hC)).mono ?_
  · intro j hj
    have hj2 : j = 0 ∨ j = 1 := by omega
    rcases hj2 with rfl | rfl
    · show 0 < xs.length; omega
    · show 0 < ys.length; omega
  · rintro e w' ⟨v, rfl, ho, hb⟩
    refine ⟨v, rfl, ?_, ((Below.refl _ _).alloc (Nat.le_refl _) _).trans (hb.mono (by simp))⟩
    have := ho.mono (B' := w.heap.size) (by simp)
    simpa [catTo, nthL] using this
theorem join1_any (k : Int) (xs : List Nd) (a : Option Addr) (len cap C : Nat) (w : World) (hl : len ≤ 1048576) (hp : 0 < len) (h : AtN w a len xs) (t : TypeId) (hC : C = w.heap.size) :
    Calls Try.prog 33 #[.int .i64 k, .slice (some ⟨C, 0, none⟩) 1 1] (w.alloc (.cells #[.slice a len cap] t)) fun e w' => ∃ v, e = .returned v ∧ OwnN w' w.heap.size v ((k, 0) :: xs) ∧ Below w.heap.size w w' := by
  have hl1 := h.1
  refine (joinNodes_any k [xs] _ 1 1 _ (by omega) (by simp [szTo, nthL]; omega) ?_ (by omega) (lay1 h t hC)).mono ?_
  · intro j hj
    obtain rfl : j = 0 := by omega
    show 0 < xs.length
    omega
  · rintro e w' ⟨v, rfl, ho, hb⟩
    refine ⟨v, rfl, ?_, ((Below.refl _ _).alloc (Nat.le_refl _) _).trans (hb.mono (by simp))⟩
    have := ho.mono (B' := w.heap.size) (by simp)
    simpa [catTo, nthL] using this

set_option maxHeartbeats 400000 in
theorem notNodes_any (xs : List Nd) (a : Option Addr) (len cap : Nat) (w : World) (hl : len ≤ 1048575) (hp : 0 < len) (h : AtN w a len xs) :
    Calls Try.prog 45 #[.slice a len cap] w fun e w' => ∃ v, e = .returned v ∧ OwnN w' w.heap.size v ((4, 0) :: (xs ++ [(1, 0)])) ∧ Below w.heap.size w w' := by
  have H := Lib.hid h
  clear h
  go_enter Try.func45, Try.ntmps45
  go_wp2_with fail
  refine (falseNodes_any _).mono ?_
  rintro e w1 ⟨v1, rfl, ho1, hb1⟩
  obtain ⟨a1, c1, rfl, at1, -, -, -⟩ := ho1.at
  have B1 := Lib.hid hb1
  have A1 := Lib.hid at1
  clear hb1 ho1 at1
  go_wp2_with fail
  refine (join2_any 4 xs [(1, 0)] a a1 len 1 cap c1 _ w1 (by omega) hp (by omega) (H.out.keep B1.out (Nat.le_refl _)) A1.out _ rfl).mono ?_
  rintro e w2 ⟨v2, rfl, ho2, hb2⟩
  have B2 := Lib.hid (B1.out.trans (hb2.mono B1.out.size))
  have O2 := Lib.hid (ho2.mono B1.out.size)
  clear hb2 ho2
  go_wp2
  go_ret
  exact ⟨_, rfl, O2.out, B2.out⟩

end Go.Proofs.Ytpccocmiadpgiaa

/- Contracts of the functions of the model and of the program that make a formula of others, at every list of nodes, errors and limits among them. Conditions: those in the theorems. -/
namespace Go.Proofs.Ytpccocmiadpgiaa
open Go.RowKit

def lim (zs : List Nd) : List Nd := if 40 < zs.length then [] else zs
def limC (zs : List Nd) : Int := if 40 < zs.length then 3 else 0
theorem lim_len (zs : List Nd) : (lim zs).length ≤ 40 := by
  unfold lim
  split
  · exact Nat.zero_le _
  · omega
theorem ownN_nil (w : World) (B : Nat) : OwnN w B (.slice none 0 0) [] := World.ownsRow_nil w B 55 2

theorem withinLimit_any (zs : List Nd) (v : Value) (B : Nat) (w : World) (hl : zs.length ≤ 8388608) (h : OwnN w B v zs) :
    Calls Try.prog 32 #[v] w fun e w' => ∃ v', e = .returned (.tuple #[v', .int .i64 (limC zs)]) ∧ OwnN w' B v' (lim zs) ∧ w = w' := by
  obtain ⟨a, cap, rfl, -, -, -, -⟩ := h.at
  have H := Lib.hid h
  clear h
  by_cases hb : 40 < zs.length
  · have e1 : lim zs = [] := if_pos hb
    have e2 : limC zs = 3 := if_pos hb
    rw [e1, e2]
    have hb' : (40 : Int) < (zs.length : Int) := by omega
    clear e1 e2
    go_enter Try.func32, Try.ntmps32
    go_wp2
    go_ret2
    exact ⟨_, rfl, ownN_nil _ _, rfl⟩
  · have e1 : lim zs = zs := if_neg hb
    have e2 : limC zs = 0 := if_neg hb
    rw [e1, e2]
    have hb' : ¬ (40 : Int) < (zs.length : Int) := by omega
    clear e1 e2
    go_enter Try.func32, Try.ntmps32
    go_wp2
    go_ret2
    exact ⟨_, rfl, H.out, rfl⟩

theorem l02Made_any (zs : List Nd) (v : Value) (B : Nat) (w : World) (hl : zs.length ≤ 8388608) (h : OwnN w B v zs) :
    Calls Try.prog 26 #[v] w fun e w' => ∃ v', e = .returned (.tuple #[v', .int .i64 (limC zs)]) ∧ OwnN w' B v' (lim zs) ∧ w = w' := by
  obtain ⟨a, cap, rfl, -, -, -, -⟩ := h.at
  have H := Lib.hid h
  clear h
  by_cases hb : 40 < zs.length
  · have e1 : lim zs = [] := if_pos hb
    have e2 : limC zs = 3 := if_pos hb
    rw [e1, e2]
    have hb' : (40 : Int) < (zs.length : Int) := by omega
    clear e1 e2
    go_enter Try.func26, Try.ntmps26
    go_wp2
    go_ret2
    exact ⟨_, rfl, ownN_nil _ _, rfl⟩
  · have e1 : lim zs = zs := if_neg hb
    have e2 : limC zs = 0 := if_neg hb
    rw [e1, e2]
    have hb' : ¬ (40 : Int) < (zs.length : Int) := by omega
    clear e1 e2
    go_enter Try.func26, Try.ntmps26
    go_wp2
    go_ret2
    exact ⟨_, rfl, H.out, rfl⟩

theorem is_pos {xs : List Nd} (h : isB xs xs.length = true) : 0 < xs.length ∧ xs.length ≤ 40 := by
  simp only [isB, treeB, Bool.and_eq_true, decide_eq_true_eq] at h
  exact ⟨h.2.1.2, h.1⟩

/-! NotFormula -/
def notL (xs : List Nd) : List Nd := (4, 0) :: (xs ++ [(1, 0)])
def notR (xs : List Nd) : List Nd := if isB xs xs.length then lim (notL xs) else []
def notC (xs : List Nd) : Int := if isB xs xs.length then limC (notL xs) else 1
theorem NotFormula_len (xs : List Nd) : (notR xs).length ≤ 1048576 := by unfold notR; split <;> (try have := lim_len (notL xs)) <;> simp <;> omega
theorem not_bad {xs : List Nd} (h : isB xs xs.length = false) : notR xs = [] ∧ notC xs = 1 := by simp [notR, notC, h]
theorem not_good {xs : List Nd} (h : isB xs xs.length = true) : notR xs = lim (notL xs) ∧ notC xs = limC (notL xs) := by simp [notR, notC, h]

/-! PrefixFormula -/
def preR (k : Int) (xs : List Nd) : List Nd := if isB xs xs.length then (if k == 5 || k == 6 then lim ((k, 0) :: xs) else []) else []
def preC (k : Int) (xs : List Nd) : Int := if isB xs xs.length then (if k == 5 || k == 6 then limC ((k, 0) :: xs) else 2) else 1
theorem PrefixFormula_len (k : Int) (xs : List Nd) : (preR k xs).length ≤ 1048576 := by unfold preR; split <;> (try split) <;> (try have := lim_len ((k, 0) :: xs)) <;> simp <;> omega
theorem pre_bad {k : Int} {xs : List Nd} (h : isB xs xs.length = false) : preR k xs = [] ∧ preC k xs = 1 := by simp [preR, preC, h]
theorem pre_out {k : Int} {xs : List Nd} (h : isB xs xs.length = true) (h2 : (k == 5 || k == 6) = false) : preR k xs = [] ∧ preC k xs = 2 := by simp only [preR, preC, h, h2]; exact ⟨rfl, rfl⟩
theorem pre_good {k : Int} {xs : List Nd} (h : isB xs xs.length = true) (h2 : (k == 5 || k == 6) = true) : preR k xs = lim ((k, 0) :: xs) ∧ preC k xs = limC ((k, 0) :: xs) := by simp only [preR, preC, h, h2]; exact ⟨rfl, rfl⟩

end Go.Proofs.Ytpccocmiadpgiaa

/- Lists of lists of nodes that a call owns and makes by appending: reading, appending, storing. Conditions: those in the theorems. -/
namespace Go.Proofs.Ytpccocmiadpgiaa
open Go.RowKit

/-- The slice value v is the call's own and holds the lists xss; no two of them share a block. -/
def OwnL (w : World) (B : Nat) (v : Value) (xss : List (List Nd)) : Prop :=
  ∃ us : List Value, w.ownsRow B 32 1 v xss.length us ∧ (∀ j, j < xss.length → OwnN w B (atV us j) (nthL xss j)) ∧
    ∀ i j, i < j → j < xss.length → ∀ k, (atV us i).ownBlock = some k → (atV us j).ownBlock ≠ some k
theorem tyL : 32 ≠ 55 := by decide
theorem OwnL.mono {w : World} {B B' : Nat} {v : Value} {xss : List (List Nd)} (h : OwnL w B v xss) (hB : B' ≤ B) : OwnL w B' v xss := by
  obtain ⟨us, h1, h2, h3⟩ := h
  exact ⟨us, ownsRow_mono h1 hB, fun j hj => ownsRow_mono (h2 j hj) hB, h3⟩
theorem OwnL.at {w : World} {B : Nat} {v : Value} {xss : List (List Nd)} (h : OwnL w B v xss) : ∃ a cap, v = .slice a xss.length cap ∧ AtNN w a xss.length xss := by
  obtain ⟨us, h1, h4, h5⟩ := h
  have hl := h1.1
  rcases h1.2 with ⟨hv, hn⟩ | ⟨g, cap, cur, hv, hg, hh, hc, hm, hs, ht⟩
  · exact ⟨none, 0, by rw [hv, hn], rfl, .inl hn⟩
  · have hlt : g < w.heap.size := (Array.getElem?_eq_some_iff.1 hh).1
    subst hv
    refine ⟨some ⟨g, 0, none⟩, cap, rfl, rfl, .inr ⟨g, 0, rfl, hlt, fun j hj => ?_⟩⟩
    have e := h1.cellAt j (by omega)
    obtain ⟨a', cap', hv', hat', -⟩ := (h4 j hj).at
    refine ⟨a', cap', ?_, hat'⟩
    rw [Nat.zero_add, e, atV_some (by omega), hv']
theorem OwnL.keep {w w' : World} {B C : Nat} {v : Value} {xss : List (List Nd)} (h : OwnL w B v xss) (hb : Below C w w') (hC : w.heap.size ≤ C) : OwnL w' B v xss := by
  obtain ⟨us, h1, h2, h3⟩ := h
  exact ⟨us, ownsRow_below h1 (fun k hk => Nat.lt_of_lt_of_le (row_lt h1 k hk) hC) hb, fun j hj => ownsRow_below (h2 j hj) (fun k hk => Nat.lt_of_lt_of_le (row_lt (h2 j hj) k hk) hC) hb, h3⟩
theorem OwnL.alloc {w : World} {B : Nat} {v : Value} {xss : List (List Nd)} (h : OwnL w B v xss) (o : Obj) : OwnL (w.alloc o) B v xss := h.keep ((Below.refl _ _).alloc (Nat.le_refl _) o) (Nat.le_refl _)
theorem ownL_nil (w : World) (B : Nat) : OwnL w B (.slice none 0 0) [] := ⟨[], World.ownsRow_nil w B _ 1, fun j hj => by simp at hj, fun i j _ hj => by simp at hj⟩
theorem ownL_row {w : World} {B : Nat} {v : Value} {us : List Value} (h : w.ownsRow B 32 1 v 0 us) : OwnL w B v [] := ⟨us, h, fun j hj => by simp at hj, fun i j _ hj => by simp at hj⟩
theorem nthL_app {xss : List (List Nd)} {ys : List Nd} {j : Nat} : nthL (xss ++ [ys]) j = if j < xss.length then nthL xss j else if j = xss.length then ys else [] := by
  unfold nthL
  simp only [List.getD_eq_getElem?_getD]
  by_cases h : j < xss.length
  · rw [if_pos h, List.getElem?_append_left h]
  · rw [if_neg h, List.getElem?_append_right (by omega)]
    by_cases e : j = xss.length
    · subst e; simp
    · rw [if_neg e, List.getElem?_eq_none (by simp; omega)]; rfl
theorem atV_app {us : List Value} {z : Value} {n j : Nat} (hn : us.length = n) : atV (us ++ [z]) j = if j < n then atV us j else if j = n then z else .slice none 0 0 := by
  unfold atV
  subst hn
  simp only [List.getD_eq_getElem?_getD]
  by_cases h : j < us.length
  · rw [if_pos h, List.getElem?_append_left h]
  · rw [if_neg h, List.getElem?_append_right (by omega)]
    by_cases e : j = us.length
    · subst e; simp
    · rw [if_neg e, List.getElem?_eq_none (by simp; omega)]; rfl

/-- An append of one list that has been made behind the world wr. -/
theorem list_appLL {ops : Array Oper} {rest : List Oper} {o : Oper} {a : Act} {W : World} {Q : Exit → Act → World → Prop} (hgd : o.guard = none) (s x : Operand)
    (ho : o.op = .call { callee := .builtin .append, args := #[s, x], argTypes := #[50, 50] })
    (B : Nat) (v : Value) (xss : List (List Nd)) (hs : a.eval s = v) {wr w1 : World} (h : OwnL wr B v xss) (hb : Below wr.heap.size wr w1)
    (z : Value) (ys : List Nd) (hz1 : OwnN w1 wr.heap.size z ys) (hb2 : Below w1.heap.size w1 W) (ad : Addr) (c : Nat) (hx : a.eval x = .slice (some ad) 1 c) (hz : W.cell? ad = some z)
    (hn : xss.length ≤ 4194304) (hB : B ≤ wr.heap.size)
    (K : ∀ v' w', OwnL w' B v' (xss ++ [ys]) → Below B wr w' → wpList Try.prog ops Q rest (a.put o.dst v') w') : wpList Try.prog ops Q (o :: rest) a W := by
  have hW := (h.keep hb (Nat.le_refl _)).keep hb2 (Nat.le_refl _)
  obtain ⟨us0, g1, g2, g3⟩ := h
  have r1 := ownsRow_below (ownsRow_below g1 (row_lt g1) hb) (row_lt (ownsRow_below g1 (row_lt g1) hb)) hb2
  have hone : z.oneCell' = true := by
    obtain ⟨az, cz, hzv, -⟩ := hz1.at
    rw [hzv]; rfl
  have hs1 := hb.size
  have hs2 := hb2.size
  refine list_appL hgd s x ho B v xss.length us0 hs r1 ad c z hx hz hone (by omega) (by omega) ?_
  intro v' w' hrow hg
  have hul : us0.length = xss.length := by have := g1.1; omega
  refine K v' w' ⟨us0 ++ [z], ?_, ?_, ?_⟩ ?_
  · rw [List.length_append]; exact hrow
  · intro j hj
    simp only [List.length_append, List.length_cons, List.length_nil] at hj
    by_cases e : j < xss.length
    · rw [atV_app hul, if_pos e, nthL_app, if_pos e]
      have i0 := g2 j e
      have i1 := ownsRow_below i0 (row_lt i0) hb
      have i2 := ownsRow_below i1 (row_lt i1) hb2
      exact row_kept i2 hg (row_other r1 tyL)
    · have e2 : j = xss.length := by omega
      rw [atV_app hul, if_neg e, if_pos e2, nthL_app, if_neg e, if_pos e2]
      have i2 := ownsRow_below hz1 (row_lt hz1) hb2
      exact row_kept (ownsRow_mono i2 hB) hg (row_other r1 tyL)
  · intro i j hij hj k hk
    simp only [List.length_append, List.length_cons, List.length_nil] at hj
    rw [atV_app hul, if_pos (by omega)] at hk
    by_cases e : j < xss.length
    · rw [atV_app hul, if_pos e]
      exact g3 i j hij e k hk
    · have e2 : j = xss.length := by omega
      rw [atV_app hul, if_neg e, if_pos e2]
      intro hk2
      have h1 := row_lt (g2 i (by omega)) k hk
      have h2 := (row_type hz1 k hk2).1
      omega
  · exact ((hb.mono hB).trans (hb2.mono (by omega))).grown hg (by omega) (fun k hk => (row_type r1 k hk).1)

theorem nthL_set {xss : List (List Nd)} {ys : List Nd} {k j : Nat} (hk : k < xss.length) : nthL (xss.set k ys) j = if j = k then ys else nthL xss j := by
  unfold nthL
  simp only [List.getD_eq_getElem?_getD, List.getElem?_set]
  by_cases e : j = k
  · subst e; simp [hk]
  · rw [if_neg (fun h => e h.symm), if_neg e]

/-- A store of a list that has been made behind the world wr. -/
theorem OwnL.set {wr w1 : World} {B g n c k : Nat} {xss : List (List Nd)} (h : OwnL wr B (.slice (some ⟨g, 0, none⟩) n c) xss) (hn : n = xss.length) (hk : k < n) (hb : Below wr.heap.size wr w1) {z : Value} {ys : List Nd} (hz1 : OwnN w1 wr.heap.size z ys) (hB : B ≤ wr.heap.size) :
    OwnL (w1.setCell ⟨g, k, none⟩ z) B (.slice (some ⟨g, 0, none⟩) n c) (xss.set k ys) ∧ Below B wr (w1.setCell ⟨g, k, none⟩ z) ∧ (∃ u, w1.cell? ⟨g, k, none⟩ = some u) ∧ w1.frozen? ⟨g, k, none⟩ = false := by
  subst hn
  obtain ⟨us, g1, g2, g3⟩ := h
  have hul := g1.1
  obtain ⟨r1, r2, r3⟩ := made_row g1 hk hb
  have hst := r1.stored k z
  have hgb : B ≤ g := (row_type r1 g rfl).1
  obtain ⟨-, cs, f, hh⟩ := row_type r1 g rfl
  refine ⟨⟨us.set k z, ?_, ?_, ?_⟩, ?_, ⟨_, r2⟩, r3⟩
  · rw [List.length_set]; exact hst.1
  · intro j hj
    rw [List.length_set] at hj
    rw [atV_set, nthL_set hk]
    by_cases e : j = k
    · rw [if_pos ⟨e, by omega⟩, if_pos e]
      exact row_set (ownsRow_mono hz1 hB) hh tyL k z
    · rw [if_neg (fun h => e h.1), if_neg e]
      have i0 := g2 j hj
      exact row_set (ownsRow_below i0 (row_lt i0) hb) hh tyL k z
  · intro i j hij hj q hq
    rw [List.length_set] at hj
    rw [atV_set] at hq ⊢
    by_cases e1 : i = k
    · rw [if_pos ⟨e1, by omega⟩] at hq
      rw [if_neg (fun h => by omega)]
      intro hq2
      have h1 := row_lt (g2 j hj) q hq2
      have h2 := (row_type hz1 q hq).1
      omega
    · rw [if_neg (fun h => e1 h.1)] at hq
      by_cases e2 : j = k
      · rw [if_pos ⟨e2, by omega⟩]
        intro hq2
        have h1 := row_lt (g2 i (by omega)) q hq
        have h2 := (row_type hz1 q hq2).1
        omega
      · rw [if_neg (fun h => e2 h.1)]
        exact g3 i j hij hj q hq
  · exact (hb.mono hB).setCell (p := ⟨g, k, none⟩) hgb z

end Go.Proofs.Ytpccocmiadpgiaa

/- Lists that are all formulas. No conditions but those in the theorems. -/
namespace Go.Proofs.Ytpccocmiadpgiaa
open Go.RowKit

def okAll (xss : List (List Nd)) (j : Nat) : Bool := (List.range j).all fun i => isB (nthL xss i) (nthL xss i).length
theorem okAll_at {xss : List (List Nd)} {j i : Nat} (h : okAll xss j = true) (hi : i < j) : isB (nthL xss i) (nthL xss i).length = true := List.all_eq_true.1 h i (List.mem_range.2 hi)
theorem okAll_succ {xss : List (List Nd)} {j : Nat} (h : okAll xss j = true) (hi : isB (nthL xss j) (nthL xss j).length = true) : okAll xss (j + 1) = true := by
  rw [okAll, List.range_succ, List.all_append, Bool.and_eq_true]
  exact ⟨h, by simp [hi]⟩
theorem okAll_bad {xss : List (List Nd)} {n j : Nat} (h : j < n) (hi : isB (nthL xss j) (nthL xss j).length = false) : okAll xss n = false := by
  cases e : okAll xss n with
  | false => rfl
  | true => rw [okAll_at e h] at hi; cases hi

end Go.Proofs.Ytpccocmiadpgiaa
