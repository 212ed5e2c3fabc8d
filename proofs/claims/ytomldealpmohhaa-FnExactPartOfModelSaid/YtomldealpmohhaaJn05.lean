/- 2 texts in one: NodeA, Part. -/
import Derived.WalkSpells
import Derived.Test.YtomldealpmohhaaOwnN
import Derived.Test.YtomldealpmohhaaFm
import Derived.Test.YtomldealpmohhaaIsF
/- Append of nodes to a list of the call's own, parts of a list of nodes, and the contracts of the model's functions that put lists of nodes together. Conditions: those in the theorems. -/
namespace Go.Proofs.Ytomldealpmohhaa
open Go.RowKit

theorem addr_add (b off j : Nat) : (⟨b, off, none⟩ : Addr).add j = ⟨b, off + j, none⟩ := by unfold Addr.add; split <;> simp_all
theorem AtN.news {w : World} {b off m : Nat} {ys : List Nd} (h : AtN w (some ⟨b, off, none⟩) m ys) : ∀ j u, (cellsN ys)[j]? = some u → w.cell? ((⟨b, off, none⟩ : Addr).add j) = some u := by
  intro j u hu
  have hlt : j < (cellsN ys).length := by
    rcases Nat.lt_or_ge j (cellsN ys).length with h1 | h1
    · exact h1
    · rw [List.getElem?_eq_none h1] at hu; cases hu
  rw [cellsN_len] at hlt
  have hm := h.1
  obtain ⟨b', off', ha, hb, hc⟩ := h.2.resolve_left (by omega)
  cases ha
  obtain ⟨e1, e2⟩ := cellsN_at ys (j / 2) (by omega)
  obtain ⟨c1, c2⟩ := hc (j / 2) (by omega)
  rw [addr_add]
  have h3 : j % 2 = 0 ∨ j % 2 = 1 := by omega
  rcases h3 with h3 | h3
  · have e : j / 2 * 2 = j := by omega
    rw [e] at e1 c1
    rw [c1, ← e1, hu]
  · have e : j / 2 * 2 + 1 = j := by omega
    rw [Nat.add_assoc, e] at c2
    rw [e] at e2
    rw [c2, ← e2, hu]
theorem cells_one (ys : List Nd) : ∀ u ∈ cellsN ys, u.oneCell' = true := by
  intro u hu
  obtain ⟨x, -, hx⟩ := List.mem_flatMap.1 hu
  simp at hx
  rcases hx with rfl | rfl <;> rfl
theorem list_appN {ops : Array Oper} {rest : List Oper} {o : Oper} {a : Act} {w : World} {Q : Exit → Act → World → Prop} (hgd : o.guard = none) (s x : Operand)
    (ho : o.op = .call { callee := .builtin .append, args := #[s, x], argTypes := #[36, 36] })
    (B : Nat) (v : Value) (xs : List Nd) (hs : a.eval s = v) (hown : OwnN w B v xs)
    (ys : List Nd) (aa : Option Addr) (m c : Nat) (hx : a.eval x = .slice aa m c) (hat : AtN w aa m ys) (hm : 0 < m) (hn : xs.length + m ≤ 8388608) (hB : B ≤ w.heap.size)
    (h : ∀ v' w', OwnN w' B v' (xs ++ ys) → w.grownBy w' v.ownBlock → wpList Try.prog ops Q rest (a.put o.dst v') w') : wpList Try.prog ops Q (o :: rest) a w := by
  obtain ⟨i0, hi, hz0, hz1, hz2⟩ := info_parts infoNd
  obtain ⟨b, off, rfl, -, -⟩ := hat.2.resolve_left (by omega)
  refine wpList_append_own w hgd s x 36 ho B 69 i0 (.agg #[.int .i64 0, .int .i64 0]) 2 16 Try.underlying36 hi hz0 hz1 hz2 rfl (by decide) v xs.length (cellsN xs) hs hown ⟨b, off, none⟩ m c (cellsN ys) hx (by rw [cellsN_len, hat.1]) hat.news (cells_one ys) (by unfold maxLen; omega) (by omega) hB (fun v' w' h1 h2 _ => h v' w' ?_ h2)
  unfold OwnN
  rw [List.length_append, cellsN_append, ← hat.1]
  exact h1
/-- Behind such an append: below B nothing has turned. -/
theorem below_appN {B : Nat} {w wr X w1 : World} {v : Value} {xs : List Nd} (hbel : Below B w wr) (hX : Below B wr X) (hB : B ≤ wr.heap.size) (ho : OwnN X B v xs) (hg : X.grownBy w1 v.ownBlock) : Below B w w1 :=
  (hbel.trans hX).grown hg (Nat.le_trans hB hX.size) (fun k hk => (World.ownsRow.lt ho k hk).1)
theorem litN (w : World) (B : Nat) (k s : Int) (hB : B ≤ w.heap.size) : OwnN (w.alloc (.cells #[.int .i64 k, .int .i64 s] 69)) B (.slice (some ⟨w.heap.size, 0, none⟩) 1 1) [(k, s)] :=
  World.ownsRow_lit w #[.int .i64 k, .int .i64 s] 1 hB (by decide) rfl

/-- A part of a list of nodes. -/
theorem AtN.sub {w : World} {b off len : Nat} {xs : List Nd} (h : AtN w (some ⟨b, off, none⟩) len xs) (i n : Nat) (hi : i + n ≤ len) : AtN w (some ⟨b, off + i * 2, none⟩) n ((xs.drop i).take n) := by
  have hl := h.1
  refine ⟨by simp; omega, ?_⟩
  by_cases hn : n = 0
  · exact .inl hn
  · obtain ⟨b', off', ha, hb, hc⟩ := h.2.resolve_left (by omega)
    cases ha
    refine .inr ⟨b, off + i * 2, rfl, hb, fun j hj => ?_⟩
    have e1 : kd ((xs.drop i).take n) j = kd xs (i + j) := by simp [kd, List.getD_eq_getElem?_getD, hj, List.getElem?_drop]
    have e2 : sy ((xs.drop i).take n) j = sy xs (i + j) := by simp [sy, List.getD_eq_getElem?_getD, hj, List.getElem?_drop]
    have := hc (i + j) (by omega)
    rw [e1, e2, show off + i * 2 + j * 2 = off + (i + j) * 2 by omega]
    exact this

end Go.Proofs.Ytomldealpmohhaa

/- Contracts of the program's functions that walk the parts of a list of nodes: where a part ends, is it a negation, how high and deep is it. Conditions: those in the theorems. -/
namespace Go.Proofs.Ytomldealpmohhaa
open Go.RowKit

theorem pe_lt {xs : List Nd} {len : Nat} {o : Int} {i : Nat} (ho : 0 < o) (hi : i ≤ len) (h : 0 ≤ pe xs (len - i) o i) : i < len := by
  by_cases e : i = len
  · subst e; rw [Nat.sub_self, pe, if_neg (by omega)] at h; omega
  · omega
theorem pe_step {xs : List Nd} {len : Nat} {o : Int} {i : Nat} (ho : 0 < o) (hi : i < len) : pe xs (len - i) o i = pe xs (len - (i + 1)) (o - 1 + prt (kd xs i)) (i + 1) := by
  rw [show len - i = (len - (i + 1)) + 1 by omega, pe, if_neg (by omega)]
theorem pe_zero {xs : List Nd} {f : Nat} {i : Nat} : pe xs f 0 i = i := by cases f <;> rw [pe, if_pos (by omega)]

end Go.Proofs.Ytomldealpmohhaa
