/- Append of nodes to a list of the call's own, parts of a list of nodes, and the contracts of the model's functions that put lists of nodes together. Conditions: those in the theorems. -/
import Derived.WalkSpells
import Derived.Test.YtfkdefmafhlmnaaOwnN
import Derived.Test.YtfkdefmafhlmnaaFm
namespace Go.Proofs.Ytfkdefmafhlmnaa
open Go.RowKit

theorem addr_add (b off j : Nat) : (⟨b, off, none⟩ : Addr).add j = ⟨b, off + j, none⟩ := by unfold Addr.add; split <;> simp_all
theorem AtN.news {w : World} {b off m : Nat} {ys : List Nd} (h : AtN w (some ⟨b, off, none⟩) m ys) : ∀ j u, (cellsN ys)[j]? = some u → w.cell? ((⟨b, off, none⟩ : Addr).add j) = some u := by
  intro j u hu
  have hlt : j < (cellsN ys).length := by
    rcases Nat.lt_or_ge j (cellsN ys).length with h1 | h1
    · exact h1
    · rw [List.getElem?_eq_none h1] at hu; cases hu
  rw [cellsN_len] at hlt
  have hm := h.1
  obtain ⟨b', off', ha, hb, hc⟩ := h.2.resolve_left (by omega)
  cases ha
  obtain ⟨e1, e2⟩ := cellsN_at ys (j / 2) (by omega)
  obtain ⟨c1, c2⟩ := hc (j / 2) (by omega)
  rw [addr_add]
  have h3 : j % 2 = 0 ∨ j % 2 = 1 := by omega
  rcases h3 with h3 | h3
  · have e : j / 2 * 2 = j := by omega
    rw [e] at e1 c1
    rw [c1, ← e1, hu]
  · have e : j / 2 * 2 + 1 = j := by omega
    rw [Nat.add_assoc, e] at c2
    rw [e] at e2
    rw [c2, ← e2, hu]
theorem cells_one (ys : List Nd) : ∀ u ∈ cellsN ys, u.oneCell' = true := by
  intro u hu
  obtain ⟨x, -, hx⟩ := List.mem_flatMap.1 hu
  simp at hx
  rcases hx with rfl | rfl <;> rfl
theorem list_appN {ops : Array Oper} {rest : List Oper} {o : Oper} {a : Act} {w : World} {Q : Exit → Act → World → Prop} (hgd : o.guard = none) (s x : Operand)
    (ho : o.op = .call { callee := .builtin .append, args := #[s, x], argTypes := #[96, 96] })
    (B : Nat) (v : Value) (xs : List Nd) (hs : a.eval s = v) (hown : OwnN w B v xs)
    (ys : List Nd) (aa : Option Addr) (m c : Nat) (hx : a.eval x = .slice aa m c) (hat : AtN w aa m ys) (hm : 0 < m) (hn : xs.length + m ≤ 8388608) (hB : B ≤ w.heap.size)
    (h : ∀ v' w', OwnN w' B v' (xs ++ ys) → w.grownBy w' v.ownBlock → wpList Try.prog ops Q rest (a.put o.dst v') w') : wpList Try.prog ops Q (o :: rest) a w := by
  obtain ⟨i0, hi, hz0, hz1, hz2⟩ := info_parts infoNd
  obtain ⟨b, off, rfl, -, -⟩ := hat.2.resolve_left (by omega)
  refine wpList_append_own w hgd s x 96 ho B 140 i0 (.agg #[.int .i64 0, .int .i64 0]) 2 16 Try.underlying96 hi hz0 hz1 hz2 rfl (by decide) v xs.length (cellsN xs) hs hown ⟨b, off, none⟩ m c (cellsN ys) hx (by rw [cellsN_len, hat.1]) hat.news (cells_one ys) (by unfold maxLen; omega) (by omega) hB (fun v' w' h1 h2 _ => h v' w' ?_ h2)
  unfold OwnN
  rw [List.length_append, cellsN_append, ← hat.1]
  exact h1
/-- Behind such an append: below B nothing has turned. -/
theorem below_appN {B : Nat} {w wr X w1 : World} {v : Value} {xs : List Nd} (hbel : Below B w wr) (hX : Below B wr X) (hB : B ≤ wr.heap.size) (ho : OwnN X B v xs) (hg : X.grownBy w1 v.ownBlock) : Below B w w1 :=
  (hbel.trans hX).grown hg (Nat.le_trans hB hX.size) (fun k hk => (World.ownsRow.lt ho k hk).1)
theorem litN (w : World) (B : Nat) (k s : Int) (hB : B ≤ w.heap.size) : OwnN (w.alloc (.cells #[.int .i64 k, .int .i64 s] 140)) B (.slice (some ⟨w.heap.size, 0, none⟩) 1 1) [(k, s)] :=
  World.ownsRow_lit w #[.int .i64 k, .int .i64 s] 1 hB (by decide) rfl

/-- A part of a list of nodes. -/
theorem AtN.sub {w : World} {b off len : Nat} {xs : List Nd} (h : AtN w (some ⟨b, off, none⟩) len xs) (i n : Nat) (hi : i + n ≤ len) : AtN w (some ⟨b, off + i * 2, none⟩) n ((xs.drop i).take n) := by
  have hl := h.1
  refine ⟨by simp; omega, ?_⟩
  by_cases hn : n = 0
  · exact .inl hn
  · obtain ⟨b', off', ha, hb, hc⟩ := h.2.resolve_left (by omega)
    cases ha
    refine .inr ⟨b, off + i * 2, rfl, hb, fun j hj => ?_⟩
    have e1 : kd ((xs.drop i).take n) j = kd xs (i + j) := by simp [kd, List.getD_eq_getElem?_getD, hj, List.getElem?_drop]
    have e2 : sy ((xs.drop i).take n) j = sy xs (i + j) := by simp [sy, List.getD_eq_getElem?_getD, hj, List.getElem?_drop]
    have := hc (i + j) (by omega)
    rw [e1, e2, show off + i * 2 + j * 2 = off + (i + j) * 2 by omega]
    exact this

set_option maxHeartbeats 400000 in
theorem l02Pair_any (k : Int) (xs ys : List Nd) (a a' : Option Addr) (len len' cap cap' : Nat) (w : World) (hl : len + len' ≤ 4194304) (hp : 0 < len) (hp' : 0 < len') (h : AtN w a len xs) (h' : AtN w a' len' ys) :
    Calls Try.prog 130 #[.int .i64 k, .slice a len cap, .slice a' len' cap'] w fun e w' => ∃ v, e = .returned v ∧ OwnN w' w.heap.size v ((k, 0) :: (xs ++ ys)) ∧ Below w.heap.size w w' := by
  have H := Lib.hid h
  have H' := Lib.hid h'
  have L := Lib.hid h.1
  clear h h'
  go_enter Try.func130, Try.ntmps130
  have b0 : Below w.heap.size w (w.alloc (.cells #[.int .i64 k, .int .i64 0] 140)) := (Below.refl _ _).alloc (Nat.le_refl _) _
  have B0 := Lib.hid b0
  clear b0
  go_wp2_with (at_builtin; refine list_appN rfl _ _ rfl w.heap.size _ [(k, 0)] rfl (litN w _ k 0 (Nat.le_refl _)) xs a len cap rfl (H.out.keep B0.out (Nat.le_refl _)) hp (by simp; omega) B0.out.size ?_)
  intro v1 w1 ho1 hg1
  have b1 : Below w.heap.size w w1 := below_appN (Below.refl _ _) B0.out (Nat.le_refl _) (litN w _ k 0 (Nat.le_refl _)) hg1
  have B1 := Lib.hid b1
  have O1 := Lib.hid ho1
  clear b1 ho1 hg1
  go_wp2_with (at_builtin; refine list_appN rfl _ _ rfl w.heap.size _ _ rfl O1.out ys a' len' cap' rfl (H'.out.keep B1.out (Nat.le_refl _)) hp' (by have := L.out; simp; omega) B1.out.size ?_)
  intro v2 w2 ho2 hg2
  have b2 : Below w.heap.size w w2 := below_appN B1.out (Below.refl _ _) B1.out.size O1.out hg2
  have B2 := Lib.hid b2
  have O2 := Lib.hid ho2
  clear b2 ho2 hg2
  go_wp2
  go_ret
  exact ⟨_, rfl, O2.out, B2.out⟩

theorem l02False_any (w : World) : Calls Try.prog 128 #[] w fun e w' => ∃ v, e = .returned v ∧ OwnN w' w.heap.size v [(1, 0)] ∧ Below w.heap.size w w' := by
  go_enter Try.func128, Try.ntmps128
  go_wp2
  go_ret
  exact ⟨_, rfl, litN w _ 1 0 (Nat.le_refl _), (Below.refl _ _).alloc (Nat.le_refl _) _⟩

set_option maxHeartbeats 400000 in
theorem l02Not_any (xs : List Nd) (a : Option Addr) (len cap : Nat) (w : World) (hl : len ≤ 4194303) (hp : 0 < len) (h : AtN w a len xs) :
    Calls Try.prog 127 #[.slice a len cap] w fun e w' => ∃ v, e = .returned v ∧ OwnN w' w.heap.size v ((4, 0) :: (xs ++ [(1, 0)])) ∧ Below w.heap.size w w' := by
  have H := Lib.hid h
  clear h
  go_enter Try.func127, Try.ntmps127
  go_wp2_with fail
  refine (l02False_any _).mono ?_
  rintro e w1 ⟨v1, rfl, ho1, hb1⟩
  obtain ⟨a1, c1, rfl, at1, -, -, -⟩ := ho1.at
  have B1 := Lib.hid hb1
  have A1 := Lib.hid at1
  clear hb1 ho1 at1
  go_wp2_with fail
  refine (l02Pair_any 4 xs [(1, 0)] a a1 len 1 cap c1 _ (by omega) hp (by omega) (H.out.keep B1.out (Nat.le_refl _)) A1.out).mono ?_
  rintro e w2 ⟨v2, rfl, ho2, hb2⟩
  have B2 := Lib.hid (B1.out.trans (hb2.mono B1.out.size))
  have O2 := Lib.hid (ho2.mono B1.out.size)
  clear hb2 ho2
  go_wp2
  go_ret
  exact ⟨_, rfl, O2.out, B2.out⟩

end Go.Proofs.Ytfkdefmafhlmnaa
