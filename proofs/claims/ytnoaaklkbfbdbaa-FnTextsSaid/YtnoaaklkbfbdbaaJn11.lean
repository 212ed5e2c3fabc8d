/- 2 texts in one: StrL, ApS. -/
import Derived.RegionTactic
import Derived.BigRegion
import Derived.Deep.RegionWith
import Derived.Test.YtnoaaklkbfbdbaaStrS
import Derived.Test.YtnoaaklkbfbdbaaJn04
/- Lists of strings that a call owns: the contracts of compare, mark and held over them. Conditions: those in the theorems. -/
namespace Go.Proofs.Ytnoaaklkbfbdbaa
open Go.RowKit

def nthS (ss : List (List UInt8)) (j : Nat) : List UInt8 := ss.getD j []
def cS (ss : List (List UInt8)) : List Value := ss.map fun s => .string (stx s)
theorem cS_at {ss : List (List UInt8)} {j : Nat} (h : j < ss.length) : (cS ss)[j]? = some (.string (stx (nthS ss j))) := by simp [cS, nthS, List.getD_eq_getElem?_getD, h]
def OwnS (w : World) (B : Nat) (v : Value) (ss : List (List UInt8)) : Prop := w.ownsRow B 9 1 v ss.length (cS ss)
def AtS (w : World) (a : Option Addr) (len : Nat) (ss : List (List UInt8)) : Prop :=
  len = ss.length ∧ (len = 0 ∨ ∃ b off, a = some ⟨b, off, none⟩ ∧ b < w.heap.size ∧ ∀ j, j < len → w.cell? ⟨b, off + j, none⟩ = some (.string (stx (nthS ss j))))
theorem AtS.keep {w w' : World} {C : Nat} {a : Option Addr} {len : Nat} {ss : List (List UInt8)} (h : AtS w a len ss) (hb : Below C w w') (hC : w.heap.size ≤ C) : AtS w' a len ss := by
  refine ⟨h.1, ?_⟩
  rcases h.2 with h2 | ⟨b, off, ha, hlt, hc⟩
  · exact .inl h2
  · exact .inr ⟨b, off, ha, Nat.lt_of_lt_of_le hlt hb.size, fun j hj => (hb.cell (p := ⟨b, off + j, none⟩) (by show b < C; omega)).trans (hc j hj)⟩
theorem ownS_nil (w : World) (B : Nat) : OwnS w B (.slice none 0 0) [] := World.ownsRow_nil w B 9 1
theorem OwnS.at {w : World} {B : Nat} {v : Value} {ss : List (List UInt8)} (h : OwnS w B v ss) : ∃ a cap, v = .slice a ss.length cap ∧ AtS w a ss.length ss ∧ ss.length ≤ cap := by
  have h' := h
  rcases h.2 with ⟨hv, hn⟩ | ⟨g, cap, cur, hv, hg, hh, hc, hm, hs, ht⟩
  · exact ⟨none, 0, by rw [hv, hn], ⟨rfl, .inl hn⟩, by omega⟩
  · have hlt : g < w.heap.size := (Array.getElem?_eq_some_iff.1 hh).1
    subst hv
    refine ⟨some ⟨g, 0, none⟩, cap, rfl, ⟨rfl, .inr ⟨g, 0, rfl, hlt, fun j hj => ?_⟩⟩, hc⟩
    have e := h'.cellAt j (by omega)
    rw [Nat.zero_add, e, cS_at hj]
theorem OwnS.mono {w : World} {B B' : Nat} {v : Value} {ss : List (List UInt8)} (h : OwnS w B v ss) (hB : B' ≤ B) : OwnS w B' v ss := by
  refine ⟨h.1, ?_⟩
  rcases h.2 with h2 | ⟨g, cap, cur, hv, hg, r⟩
  · exact .inl h2
  · exact .inr ⟨g, cap, cur, hv, Nat.le_trans hB hg, r⟩
/-- The slice value v is the call's own, its block lies in lo .. hi - 1, and it holds ss. -/
def InS (w : World) (lo hi : Nat) (v : Value) (ss : List (List UInt8)) : Prop := OwnS w lo v ss ∧ hi ≤ w.heap.size ∧ ∀ k, v.ownBlock = some k → lo ≤ k ∧ k < hi
theorem OwnS.inS {w : World} {lo : Nat} {v : Value} {ss : List (List UInt8)} (h : OwnS w lo v ss) : InS w lo w.heap.size v ss := ⟨h, Nat.le_refl _, World.ownsRow.lt h⟩
theorem InS.below {w w' : World} {lo hi C : Nat} {v : Value} {ss : List (List UInt8)} (h : InS w lo hi v ss) (hb : Below C w w') (hC : hi ≤ C) : InS w' lo hi v ss := by
  refine ⟨⟨h.1.1, ?_⟩, Nat.le_trans h.2.1 hb.size, h.2.2⟩
  rcases h.1.2 with h2 | ⟨g, cap, cur, hv, hg, hh, r⟩
  · exact .inl h2
  · have hlt := (h.2.2 g (by rw [hv]; rfl)).2
    exact .inr ⟨g, cap, cur, hv, hg, by rw [hb.block g (by omega)]; exact hh, r⟩
theorem InS.other {w w' : World} {lo hi lo' hi' : Nat} {v u : Value} {ss : List (List UInt8)} (h : InS w lo hi v ss) (hu : ∀ k, u.ownBlock = some k → lo' ≤ k ∧ k < hi') (hg : w.grownBy w' u.ownBlock) (hd : hi ≤ lo' ∨ hi' ≤ lo) : InS w' lo hi v ss := by
  refine ⟨World.ownsRow.kept h.1 hg ?_, Nat.le_trans h.2.1 hg.size, h.2.2⟩
  cases hv : v.ownBlock with
  | none => exact .inl rfl
  | some k =>
    right
    intro e
    have h1 := h.2.2 k hv
    have h2 := hu k e.symm
    omega
theorem InS.at {w : World} {lo hi : Nat} {v : Value} {ss : List (List UInt8)} (h : InS w lo hi v ss) : ∃ a cap, v = .slice a ss.length cap ∧ AtS w a ss.length ss := by
  obtain ⟨a, cap, hv, hat, -⟩ := h.1.at
  exact ⟨a, cap, hv, hat⟩

/-- The marks n, n + 1, .. -/
def mkS (n : Nat) : Nat → List (List UInt8)
  | 0 => []
  | k + 1 => mkS n k ++ [109 :: dg (n + k)]
theorem mkS_len (n k : Nat) : (mkS n k).length = k := by induction k with | zero => rfl | succ k ih => simp [mkS, ih]
theorem mkS_nth (n k j : Nat) (h : j < k) : nthS (mkS n k) j = 109 :: dg (n + j) := by
  induction k with
  | zero => omega
  | succ k ih =>
    have hl := mkS_len n k
    unfold nthS at *
    by_cases e : j = k
    · subst e; simp [mkS, List.getD, hl]
    · have := ih (by omega)
      simp only [mkS, List.getD_eq_getElem?_getD] at this ⊢
      rw [List.getElem?_append_left (by omega)]
      exact this
def mklS (ss : List (List UInt8)) (n j : Nat) : List (List UInt8) := mkS n j ++ ss.drop j
theorem mklS_len (ss : List (List UInt8)) (n j : Nat) (h : j ≤ ss.length) : (mklS ss n j).length = ss.length := by simp [mklS, mkS_len]; omega
theorem mklS_set (ss : List (List UInt8)) (n j : Nat) (h : j < ss.length) : (cS (mklS ss n j)).set j (.string (stx (109 :: dg (n + j)))) = cS (mklS ss n (j + 1)) := by
  unfold cS
  rw [← List.map_set (f := fun s => Value.string (stx s)) (a := 109 :: dg (n + j))]
  congr 1
  have e : ss.drop j = ss[j] :: ss.drop (j + 1) := List.drop_eq_getElem_cons h
  rw [mklS, mklS, mkS, e, List.set_append_right _ _ (by simp [mkS_len]), mkS_len, Nat.sub_self, List.set_cons_zero, List.append_assoc]
  rfl
theorem mklS_all (ss : List (List UInt8)) (n : Nat) : mklS ss n ss.length = mkS n ss.length := by simp [mklS]

end Go.Proofs.Ytnoaaklkbfbdbaa

/- Append to a list of strings that a call owns. Conditions: those in the theorems. -/
namespace Go.Proofs.Ytnoaaklkbfbdbaa
open Go.RowKit

theorem addr_addS (b off j : Nat) : (⟨b, off, none⟩ : Addr).add j = ⟨b, off + j, none⟩ := by unfold Addr.add; split <;> simp_all
theorem infoStr : (Try.prog.info? 9).map (fun i => (i.zero, i.size, i.bytes)) = some (some (.string ⟨#[]⟩), 1, 16) := by kernel_rfl
theorem cS_app (xs ys : List (List UInt8)) : cS (xs ++ ys) = cS xs ++ cS ys := by simp [cS]
theorem AtS.news {w : World} {b off m : Nat} {ys : List (List UInt8)} (h : AtS w (some ⟨b, off, none⟩) m ys) : ∀ j u, (cS ys)[j]? = some u → w.cell? ((⟨b, off, none⟩ : Addr).add j) = some u := by
  intro j u hu
  have hlt : j < ys.length := by
    rcases Nat.lt_or_ge j ys.length with h1 | h1
    · exact h1
    · rw [List.getElem?_eq_none (by simpa [cS] using h1)] at hu; cases hu
  have hm := h.1
  obtain ⟨b', off', ha, hb, hc⟩ := h.2.resolve_left (by omega)
  cases ha
  rw [addr_addS, hc j (by omega), ← cS_at hlt, hu]
theorem cS_one (ys : List (List UInt8)) : ∀ u ∈ cS ys, u.oneCell' = true := by
  intro u hu
  obtain ⟨x, -, rfl⟩ := List.mem_map.1 hu
  rfl
/-- append of a list of strings, which may be empty. -/
theorem list_appS {ops : Array Oper} {rest : List Oper} {o : Oper} {a : Act} {w : World} {Q : Exit → Act → World → Prop} (hgd : o.guard = none) (s x : Operand)
    (ho : o.op = .call { callee := .builtin .append, args := #[s, x], argTypes := #[55, 55] })
    (B : Nat) (v : Value) (xs : List (List UInt8)) (hs : a.eval s = v) (hown : OwnS w B v xs)
    (ys : List (List UInt8)) (ad : Addr) (m c : Nat) (hx : a.eval x = .slice (some ad) m c) (hl : m = ys.length) (hnews : ∀ j u, (cS ys)[j]? = some u → w.cell? (ad.add j) = some u) (hn : xs.length + m ≤ 8388608) (hB : B ≤ w.heap.size)
    (h : ∀ v' w', OwnS w' B v' (xs ++ ys) → w.grownBy w' v.ownBlock → wpList Try.prog ops Q rest (a.put o.dst v') w') : wpList Try.prog ops Q (o :: rest) a w := by
  obtain ⟨i0, hi, hz0, hz1, hz2⟩ := info_parts infoStr
  refine wpList_append_own w hgd s x 55 ho B 9 i0 (.string ⟨#[]⟩) 1 16 Try.underlying55 hi hz0 hz1 hz2 rfl (by decide) v xs.length (cS xs) hs hown ad m c (cS ys) hx (by simp [cS, hl]) hnews (cS_one ys) (by unfold maxLen; omega) (by omega) hB (fun v' w' h1 h2 _ => h v' w' ?_ h2)
  unfold OwnS
  rw [List.length_append, cS_app, ← hl]
  exact h1
theorem OwnS.ge {w : World} {B : Nat} {v : Value} {xs : List (List UInt8)} (h : OwnS w B v xs) : ∀ k, v.ownBlock = some k → B ≤ k := fun k hk => (World.ownsRow.lt h k hk).1

end Go.Proofs.Ytnoaaklkbfbdbaa
