/- 3 texts in one: Nm, ApS, Sin. -/
import Derived.Test.YtpccocmiadpgiaaStrL
/- The names of axioms and of logics: the model's lists, its search in them, and its entries by number. Conditions: those in the theorems. -/
namespace Go.Proofs.Ytpccocmiadpgiaa
open Go.RowKit

/-- The names of the axioms; of the logics. -/
def nmA : List (List UInt8) := [[52], [53], [66], [67], [68], [70], [71], [72], [76], [84], [86], [88], [90]]
def nmL : List (List UInt8) := [[68], [68, 52], [71, 76], [71, 114, 122], [75], [75, 52], [75, 52, 53], [75, 66], [75, 68, 52, 53], [83, 52], [83, 52, 50], [83, 52, 51], [83, 53], [84], [84, 114, 105, 118], [86, 101, 114]]
/-- Where a text stands first in a list, from place k on; -1: nowhere. -/
def fdF : List (List UInt8) → ByteArray → Int → Int
  | [], _, _ => -1
  | x :: xs, s, k => if stx x = s then k else fdF xs s (k + 1)
def fdV (ns : List (List UInt8)) (s : ByteArray) : Int := fdF ns s 0
theorem fd_step {ns : List (List UInt8)} {s : ByteArray} {k : Nat} (h : k < ns.length) : fdF (ns.drop k) s (k : Int) = if stx (nthS ns k) = s then (k : Int) else fdF (ns.drop (k + 1)) s ((k + 1 : Nat) : Int) := by
  rw [List.drop_eq_getElem_cons h, fdF]
  have e : nthS ns k = ns[k] := by simp [nthS, List.getD_eq_getElem?_getD, h]
  rw [e]
  rfl
theorem fd_end {ns : List (List UInt8)} {s : ByteArray} : fdF (ns.drop ns.length) s (ns.length : Int) = -1 := by
  rw [List.drop_length]; rfl
theorem bs_eq (a b : ByteArray) : (a.toList == b.toList) = decide (a = b) := by
  rw [ByteArray.toList_eq, ByteArray.toList_eq]
  by_cases h : a = b
  · subst h; simp
  · rw [decide_eq_false h, beq_eq_false_iff_ne]
    intro e
    exact h (ByteArray.ext (Array.toList_inj.1 e))
theorem bs_no {a b : ByteArray} (h : ¬ a = b) : (a.toList == b.toList) = false := by rw [bs_eq, decide_eq_false h]
theorem fdF_cases (ns : List (List UInt8)) (s : ByteArray) (k : Int) : fdF ns s k = -1 ∨ ∃ i : Nat, i < ns.length ∧ s = stx (nthS ns i) ∧ fdF ns s k = k + i := by
  induction ns generalizing k with
  | nil => exact .inl rfl
  | cons x xs ih =>
    rw [fdF]
    by_cases h : stx x = s
    · rw [if_pos h]
      exact .inr ⟨0, by simp, h.symm, by simp⟩
    · rw [if_neg h]
      rcases ih (k + 1) with e | ⟨i, hi, hs, e⟩
      · exact .inl e
      · exact .inr ⟨i + 1, by simpa using hi, hs, by rw [e]; omega⟩
theorem fd_cases (ns : List (List UInt8)) (s : ByteArray) : fdV ns s = -1 ∨ ∃ i : Nat, i < ns.length ∧ s = stx (nthS ns i) ∧ fdV ns s = i := by
  rcases fdF_cases ns s 0 with h | ⟨i, hi, hs, e⟩
  · exact .inl h
  · exact .inr ⟨i, hi, hs, by rw [fdV, e]; omega⟩

/-- The entry of a list by its number, and the code. -/
def atC (ns : List (List UInt8)) (i : Int) : Int := if inB i 0 (ns.length - 1) then 0 else 2
def atR (ns : List (List UInt8)) (i : Int) : ByteArray := if inB i 0 (ns.length - 1) then stx (nthS ns i.toNat) else stx []
theorem at_cases (ns : List (List UInt8)) (i m : Int) (hm : (ns.length : Int) - 1 = m) : (inB i 0 m = true ∧ atR ns i = stx (nthS ns i.toNat) ∧ atC ns i = 0 ∧ 0 ≤ i ∧ i < m + 1) ∨ (inB i 0 m = false ∧ atR ns i = stx [] ∧ atC ns i = 2) := by
  unfold atR atC
  rw [hm]
  cases h : inB i 0 m
  · exact .inr ⟨rfl, rfl, rfl⟩
  · have h2 := h
    unfold inB at h2
    simp at h2
    exact .inl ⟨rfl, rfl, rfl, h2.1, by omega⟩


end Go.Proofs.Ytpccocmiadpgiaa

/- Append to a list of strings that a call owns. Conditions: those in the theorems. -/
namespace Go.Proofs.Ytpccocmiadpgiaa
open Go.RowKit

theorem addr_addS (b off j : Nat) : (⟨b, off, none⟩ : Addr).add j = ⟨b, off + j, none⟩ := by unfold Addr.add; split <;> simp_all
theorem infoStr : (Try.prog.info? 9).map (fun i => (i.zero, i.size, i.bytes)) = some (some (.string ⟨#[]⟩), 1, 16) := by kernel_rfl
theorem cS_app (xs ys : List (List UInt8)) : cS (xs ++ ys) = cS xs ++ cS ys := by simp [cS]
theorem AtS.news {w : World} {b off m : Nat} {ys : List (List UInt8)} (h : AtS w (some ⟨b, off, none⟩) m ys) : ∀ j u, (cS ys)[j]? = some u → w.cell? ((⟨b, off, none⟩ : Addr).add j) = some u := by
  intro j u hu
  have hlt : j < ys.length := by
    rcases Nat.lt_or_ge j ys.length with h1 | h1
    · exact h1
    · rw [List.getElem?_eq_none (by simpa [cS] using h1)] at hu; cases hu
  have hm := h.1
  obtain ⟨b', off', ha, hb, hc⟩ := h.2.resolve_left (by omega)
  cases ha
  rw [addr_addS, hc j (by omega), ← cS_at hlt, hu]
theorem cS_one (ys : List (List UInt8)) : ∀ u ∈ cS ys, u.oneCell' = true := by
  intro u hu
  obtain ⟨x, -, rfl⟩ := List.mem_map.1 hu
  rfl
/-- append of a list of strings, which may be empty. -/
theorem list_appS {ops : Array Oper} {rest : List Oper} {o : Oper} {a : Act} {w : World} {Q : Exit → Act → World → Prop} (hgd : o.guard = none) (s x : Operand)
    (ho : o.op = .call { callee := .builtin .append, args := #[s, x], argTypes := #[23, 23] })
    (B : Nat) (v : Value) (xs : List (List UInt8)) (hs : a.eval s = v) (hown : OwnS w B v xs)
    (ys : List (List UInt8)) (ad : Addr) (m c : Nat) (hx : a.eval x = .slice (some ad) m c) (hl : m = ys.length) (hnews : ∀ j u, (cS ys)[j]? = some u → w.cell? (ad.add j) = some u) (hn : xs.length + m ≤ 8388608) (hB : B ≤ w.heap.size)
    (h : ∀ v' w', OwnS w' B v' (xs ++ ys) → w.grownBy w' v.ownBlock → wpList Try.prog ops Q rest (a.put o.dst v') w') : wpList Try.prog ops Q (o :: rest) a w := by
  obtain ⟨i0, hi, hz0, hz1, hz2⟩ := info_parts infoStr
  refine wpList_append_own w hgd s x 23 ho B 9 i0 (.string ⟨#[]⟩) 1 16 Try.underlying23 hi hz0 hz1 hz2 rfl (by decide) v xs.length (cS xs) hs hown ad m c (cS ys) hx (by simp [cS, hl]) hnews (cS_one ys) (by unfold maxLen; omega) (by omega) hB (fun v' w' h1 h2 _ => h v' w' ?_ h2)
  unfold OwnS
  rw [List.length_append, cS_app, ← hl]
  exact h1
theorem OwnS.ge {w : World} {B : Nat} {v : Value} {xs : List (List UInt8)} (h : OwnS w B v xs) : ∀ k, v.ownBlock = some k → B ≤ k := fun k hk => (World.ownsRow.lt h k hk).1

end Go.Proofs.Ytpccocmiadpgiaa

/- Lists of strings that a call owns, under the names that the walks of laws over frames use. Conditions: those in the theorems. -/
namespace Go.Proofs.Ytpccocmiadpgiaa
open Go.RowKit

theorem InS.hi {w : World} {lo hi : Nat} {v : Value} {ss : List (List UInt8)} (h : InS w lo hi v ss) : hi ≤ w.heap.size := h.2.1
theorem InS.blk {w : World} {lo hi : Nat} {v : Value} {ss : List (List UInt8)} (h : InS w lo hi v ss) : ∀ k, v.ownBlock = some k → lo ≤ k ∧ k < hi := h.2.2
theorem InS.oth {w w' : World} {lo hi lo' hi' : Nat} {v : Value} {b : Option Nat} {ss : List (List UInt8)} (h : InS w lo hi v ss) (hu : ∀ k, b = some k → lo' ≤ k ∧ k < hi') (hg : w.grownBy w' b) (hd : hi ≤ lo' ∨ hi' ≤ lo) : InS w' lo hi v ss := by
  refine ⟨World.ownsRow.kept h.1 hg ?_, Nat.le_trans h.2.1 hg.size, h.2.2⟩
  cases hv : v.ownBlock with
  | none => exact .inl rfl
  | some k =>
    right
    intro e
    have h1 := h.2.2 k hv
    have h2 := hu k e.symm
    omega
theorem OwnS.inn {w : World} {lo : Nat} {v : Value} {ss : List (List UInt8)} (h : OwnS w lo v ss) : InS w lo w.heap.size v ss := h.inS

end Go.Proofs.Ytpccocmiadpgiaa
