/- Polarities of nodes: contracts of the model's list of them. Conditions: those in the theorems. -/
import Derived.Test.YtfpnmeacnhcakaaDoorPol
import Derived.Test.YtfpnmeacnhcakaaDoorDeep
import Derived.Test.YtfpnmeacnhcakaaDoorOwnI
namespace Go.Proofs.YtfpnmeacnhcakaaDoor
open Go.RowKit

theorem At.news {w : World} {b off m : Nat} {ys : List Int} (h : At w (some ⟨b, off, none⟩) m ys) : ∀ j u, (ys.map (Value.int .i64))[j]? = some u → w.cell? ((⟨b, off, none⟩ : Addr).add j) = some u := by
  intro j u hu
  have hlt : j < ys.length := by
    rcases Nat.lt_or_ge j ys.length with h1 | h1
    · exact h1
    · rw [List.getElem?_eq_none (by simpa using h1)] at hu; cases hu
  have hm := h.1
  obtain ⟨b', off', ha, hb, hc⟩ := h.2.resolve_left (by omega)
  cases ha
  rw [addr_add, hc j (by omega), ← nth_map hlt, hu]
theorem ints_one (ys : List Int) : ∀ u ∈ ys.map (Value.int .i64), u.oneCell' = true := by
  intro u hu
  obtain ⟨x, -, rfl⟩ := List.mem_map.1 hu
  rfl
theorem list_appI {ops : Array Oper} {rest : List Oper} {o : Oper} {a : Act} {w : World} {Q : Exit → Act → World → Prop} (hgd : o.guard = none) (s x : Operand)
    (ho : o.op = .call { callee := .builtin .append, args := #[s, x], argTypes := #[30, 30] })
    (B : Nat) (v : Value) (xs : List Int) (hs : a.eval s = v) (hown : Own w B v xs)
    (ys : List Int) (aa : Option Addr) (m c : Nat) (hx : a.eval x = .slice aa m c) (hat : At w aa m ys) (hm : 0 < m) (hn : xs.length + m ≤ 8388608) (hB : B ≤ w.heap.size)
    (h : ∀ v' w', Own w' B v' (xs ++ ys) → w.grownBy w' v.ownBlock → wpList Tryd.prog ops Q rest (a.put o.dst v') w') : wpList Tryd.prog ops Q (o :: rest) a w := by
  obtain ⟨i0, hi, hz0, hz1, hz2⟩ := info_parts info64
  obtain ⟨b, off, rfl, -, -⟩ := hat.2.resolve_left (by omega)
  refine wpList_append_own w hgd s x 30 ho B 2 i0 (.int .i64 0) 1 8 Tryd.underlying30 hi hz0 hz1 hz2 rfl (by decide) v xs.length (xs.map (Value.int .i64)) hs hown ⟨b, off, none⟩ m c (ys.map (Value.int .i64)) hx (by rw [List.length_map, hat.1]; omega) hat.news (ints_one ys) (by unfold maxLen; omega) (by omega) hB (fun v' w' h1 h2 _ => h v' w' ?_ h2)
  unfold Own
  rw [List.length_append, List.map_append, ← hat.1]
  exact h1
theorem litI (w : World) (B : Nat) (s : Int) (hB : B ≤ w.heap.size) : Own (w.alloc (.cells #[.int .i64 s] 2)) B (.slice (some ⟨w.heap.size, 0, none⟩) 1 1) [s] :=
  World.ownsRow_lit w #[.int .i64 s] 1 hB (by decide) rfl

end Go.Proofs.YtfpnmeacnhcakaaDoor
