/- Append to a list of strings that a call owns. Conditions: those in the theorems. -/
import Derived.Test.YtegdbcdffnopfaaStrL
namespace Go.Proofs.Ytegdbcdffnopfaa
open Go.RowKit

theorem addr_addS (b off j : Nat) : (⟨b, off, none⟩ : Addr).add j = ⟨b, off + j, none⟩ := by unfold Addr.add; split <;> simp_all
theorem infoStr : (Try.prog.info? 9).map (fun i => (i.zero, i.size, i.bytes)) = some (some (.string ⟨#[]⟩), 1, 16) := by kernel_rfl
theorem cS_app (xs ys : List (List UInt8)) : cS (xs ++ ys) = cS xs ++ cS ys := by simp [cS]
theorem AtS.news {w : World} {b off m : Nat} {ys : List (List UInt8)} (h : AtS w (some ⟨b, off, none⟩) m ys) : ∀ j u, (cS ys)[j]? = some u → w.cell? ((⟨b, off, none⟩ : Addr).add j) = some u := by
  intro j u hu
  have hlt : j < ys.length := by
    rcases Nat.lt_or_ge j ys.length with h1 | h1
    · exact h1
    · rw [List.getElem?_eq_none (by simpa [cS] using h1)] at hu; cases hu
  have hm := h.1
  obtain ⟨b', off', ha, hb, hc⟩ := h.2.resolve_left (by omega)
  cases ha
  rw [addr_addS, hc j (by omega), ← cS_at hlt, hu]
theorem cS_one (ys : List (List UInt8)) : ∀ u ∈ cS ys, u.oneCell' = true := by
  intro u hu
  obtain ⟨x, -, rfl⟩ := List.mem_map.1 hu
  rfl
/-- append of a list of strings, which may be empty. -/
theorem list_appS {ops : Array Oper} {rest : List Oper} {o : Oper} {a : Act} {w : World} {Q : Exit → Act → World → Prop} (hgd : o.guard = none) (s x : Operand)
    (ho : o.op = .call { callee := .builtin .append, args := #[s, x], argTypes := #[49, 49] })
    (B : Nat) (v : Value) (xs : List (List UInt8)) (hs : a.eval s = v) (hown : OwnS w B v xs)
    (ys : List (List UInt8)) (ad : Addr) (m c : Nat) (hx : a.eval x = .slice (some ad) m c) (hl : m = ys.length) (hnews : ∀ j u, (cS ys)[j]? = some u → w.cell? (ad.add j) = some u) (hn : xs.length + m ≤ 8388608) (hB : B ≤ w.heap.size)
    (h : ∀ v' w', OwnS w' B v' (xs ++ ys) → w.grownBy w' v.ownBlock → wpList Try.prog ops Q rest (a.put o.dst v') w') : wpList Try.prog ops Q (o :: rest) a w := by
  obtain ⟨i0, hi, hz0, hz1, hz2⟩ := info_parts infoStr
  refine wpList_append_own w hgd s x 49 ho B 9 i0 (.string ⟨#[]⟩) 1 16 Try.underlying49 hi hz0 hz1 hz2 rfl (by decide) v xs.length (cS xs) hs hown ad m c (cS ys) hx (by simp [cS, hl]) hnews (cS_one ys) (by unfold maxLen; omega) (by omega) hB (fun v' w' h1 h2 _ => h v' w' ?_ h2)
  unfold OwnS
  rw [List.length_append, cS_app, ← hl]
  exact h1
theorem OwnS.ge {w : World} {B : Nat} {v : Value} {xs : List (List UInt8)} (h : OwnS w B v xs) : ∀ k, v.ownBlock = some k → B ≤ k := fun k hk => (World.ownsRow.lt h k hk).1

end Go.Proofs.Ytegdbcdffnopfaa
