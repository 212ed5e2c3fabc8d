/- 3 texts in one: OwnN, NodeA, OwnP. -/
import Derived.Deep.Slices
import Derived.Deep.Fields
import Derived.ChangeSame
import Derived.Test.YtfkdefmafhlmnaaNodeS
import Derived.WalkSpells
import Derived.Test.YtfkdefmafhlmnaaFm
import Derived.Test.YtfkdefmafhlmnaaNodeP
/- Lists of nodes that a call owns, told by values, and the contracts of size, copy, compare, mark and held over them. Conditions: those in the theorems. -/
namespace Go.Proofs.Ytfkdefmafhlmnaa
open Go.RowKit

theorem OwnN.at {w : World} {B : Nat} {v : Value} {xs : List Nd} (h : OwnN w B v xs) :
    ∃ a cap, v = .slice a xs.length cap ∧ AtN w a xs.length xs ∧ xs.length ≤ cap ∧ (a = none → cap = 0) ∧ ∀ p, a = some p → B ≤ p.block ∧ p.block < w.heap.size := by
  have h' := h
  rcases h.2 with ⟨hv, hn⟩ | ⟨g, cap, cur, hv, hg, hh, hc, hm, hs, ht⟩
  · refine ⟨none, 0, by rw [hv, hn], ⟨rfl, .inl hn⟩, by omega, (fun _ => rfl), (fun p hp => by cases hp)⟩
  · have hlt : g < w.heap.size := (Array.getElem?_eq_some_iff.1 hh).1
    subst hv
    refine ⟨some ⟨g, 0, none⟩, cap, rfl, ⟨rfl, .inr ⟨g, 0, rfl, hlt, fun j hj => ?_⟩⟩, hc, (fun h => by cases h), (fun p hp => by cases hp; exact ⟨hg, hlt⟩)⟩
    have e1 := h'.cellAt (j * 2) (by omega)
    have e2 := h'.cellAt (j * 2 + 1) (by omega)
    obtain ⟨c1, c2⟩ := cellsN_at xs j hj
    rw [c1] at e1
    rw [c2] at e2
    rw [Nat.zero_add]
    exact ⟨e1, e2⟩

theorem OwnN.mono {w : World} {B B' : Nat} {v : Value} {xs : List Nd} (h : OwnN w B v xs) (hB : B' ≤ B) : OwnN w B' v xs := by
  refine ⟨h.1, ?_⟩
  rcases h.2 with h2 | ⟨g, cap, cur, hv, hg, r⟩
  · exact .inl h2
  · exact .inr ⟨g, cap, cur, hv, Nat.le_trans hB hg, r⟩

theorem below_drewN' {B : Nat} {a w : World} (h : Below B a w) (n : Nat) : Below B a (w.drewN n) := ⟨h.os, h.tape, h.output, h.size, h.block⟩

/-- The slice value v is the call's own, its block lies in lo .. hi - 1, and it holds xs. -/
def InN (w : World) (lo hi : Nat) (v : Value) (xs : List Nd) : Prop := OwnN w lo v xs ∧ hi ≤ w.heap.size ∧ ∀ k, v.ownBlock = some k → lo ≤ k ∧ k < hi

theorem OwnN.inn {w : World} {lo : Nat} {v : Value} {xs : List Nd} (h : OwnN w lo v xs) : InN w lo w.heap.size v xs := ⟨h, Nat.le_refl _, World.ownsRow.lt h⟩
theorem InN.below {w w' : World} {lo hi C : Nat} {v : Value} {xs : List Nd} (h : InN w lo hi v xs) (hb : Below C w w') (hC : hi ≤ C) : InN w' lo hi v xs := by
  refine ⟨⟨h.1.1, ?_⟩, Nat.le_trans h.2.1 hb.size, h.2.2⟩
  rcases h.1.2 with h2 | ⟨g, cap, cur, hv, hg, hh, r⟩
  · exact .inl h2
  · have hlt := (h.2.2 g (by rw [hv]; rfl)).2
    exact .inr ⟨g, cap, cur, hv, hg, by rw [hb.block g (by omega)]; exact hh, r⟩
theorem InN.drewN {w : World} {lo hi : Nat} {v : Value} {xs : List Nd} (h : InN w lo hi v xs) (q : Nat) : InN (w.drewN q) lo hi v xs := h.below (below_drewN' (Below.refl hi w) q) (Nat.le_refl _)
/-- A write into another row leaves it. -/
theorem InN.other {w w' : World} {lo hi lo' hi' : Nat} {v u : Value} {xs : List Nd} (h : InN w lo hi v xs) (hu : ∀ k, u.ownBlock = some k → lo' ≤ k ∧ k < hi') (hg : w.grownBy w' u.ownBlock) (hd : hi ≤ lo' ∨ hi' ≤ lo) : InN w' lo hi v xs := by
  refine ⟨World.ownsRow.kept h.1 hg ?_, Nat.le_trans h.2.1 hg.size, h.2.2⟩
  cases hv : v.ownBlock with
  | none => exact .inl rfl
  | some k =>
    right
    intro e
    have h1 := h.2.2 k hv
    have h2 := hu k e.symm
    omega

theorem InN.at {w : World} {lo hi : Nat} {v : Value} {xs : List Nd} (h : InN w lo hi v xs) : ∃ a cap, v = .slice a xs.length cap ∧ AtN w a xs.length xs := by
  obtain ⟨a, cap, hv, hat, -⟩ := h.1.at
  exact ⟨a, cap, hv, hat⟩

/-- A list of nodes that came in. -/
def IsNodes (w : World) (a : Option Addr) (len : Nat) (xs : List Nd) : Prop := AtN w a len xs ∧ len ≤ maxLen

section
open Go.ChangeShapes Go.WideShapes Go.Deep
variable {H : Type} {enc : TypeId × Value → H} {P : Program} {w : World} {base : Nat} {spare : Nat → Bool} {held : Bool}
theorem open_nodes {t e : TypeId} {f0 f1 : Field} {fuel : Nat} {cs : List Value} {x : DataW H × List MemPlace} (ht : P.underlying t = some (.slice e)) (he : P.underlying e = some (.struct #[f0, f1]))
    (h0 : P.underlying f0.type = some (.int .i64)) (h1 : P.underlying f1.type = some (.int .i64)) (hone : oneCellFields P #[f0, f1] = true) (hC : P.cellsOf e = 2) (h : DataW.trod enc P w base spare held fuel t cs = some x) :
    ∃ (a : Option Addr) (len cap : Nat) (xs : List Nd), cs = [.slice a len cap] ∧ IsNodes w a len xs := by
  rcases open_slice ht h with h0 | ⟨a, len, cap, m, n, D, Pl, hcs, hb, hl, hm, hmm, hx, hi⟩
  · exact ⟨none, 0, 0, [], h0.1, ⟨rfl, .inl rfl⟩, by unfold maxLen; omega⟩
  have hlm : len ≤ m := by rw [hmm]; split <;> omega
  have hcell : ∀ i, i < len → ∃ k s : Int, w.cell? (a.add (i * 2)) = some (.int .i64 k) ∧ w.cell? (a.add (i * 2 + 1)) = some (.int .i64 s) := by
    intro i hil
    obtain ⟨cs', hc, ht'⟩ := hi i (by omega)
    rw [hC] at hc
    obtain ⟨ys, n', hn', hy, hlen, hyl, hf⟩ := DataW.trod_struct he ht'
    obtain ⟨_, hcl, hat⟩ := World.cells?_some hc
    obtain ⟨o0, k0⟩ := hone_of hone 0 f0 rfl
    obtain ⟨o1, k1⟩ := hone_of hone 1 f1 rfl
    have g0 := hf 0 f0 rfl
    have g1 := hf 1 f1 rfl
    rw [o0, k0] at g0
    rw [o1, k1] at g1
    match cs', hcl with
    | [c0, c1], _ =>
      have a0 := hat 0 (by omega)
      have a1 := hat 1 (by omega)
      simp only [List.drop, List.take] at g0 g1
      obtain ⟨y0, hy0⟩ : ∃ y, ys[0]? = some y := ⟨_, List.getElem?_eq_getElem (by rw [hyl]; simp)⟩
      obtain ⟨y1, hy1⟩ : ∃ y, ys[1]? = some y := ⟨_, List.getElem?_eq_getElem (by rw [hyl]; simp)⟩
      rw [hy0] at g0
      rw [hy1] at g1
      obtain ⟨k, hk, -⟩ := DataW.trod_int h0 g0
      obtain ⟨s, hs, -⟩ := DataW.trod_int h1 g1
      simp only [List.cons.injEq, and_true] at hk hs
      refine ⟨k, s, ?_, ?_⟩
      · rw [Go.Deep.add_add, Nat.add_zero] at a0; rw [← hk]; exact a0
      · rw [Go.Deep.add_add] at a1; rw [← hs]; exact a1
  have hx : ∃ xs : List Nd, xs.length = len ∧ ∀ i, i < len → w.cell? (a.add (i * 2)) = some (.int .i64 (kd xs i)) ∧ w.cell? (a.add (i * 2 + 1)) = some (.int .i64 (sy xs i)) := by
    clear hx hi hcs hb hl hm hmm hlm
    induction len with
    | zero => exact ⟨[], rfl, fun i h => absurd h (by omega)⟩
    | succ len ih =>
      obtain ⟨xs, hxl, hxs⟩ := ih (fun i hi => hcell i (by omega))
      obtain ⟨k, s, hk, hs⟩ := hcell len (by omega)
      refine ⟨xs ++ [(k, s)], by simp [hxl], fun i hi => ?_⟩
      by_cases e : i = len
      · subst e
        have e1 : kd (xs ++ [(k, s)]) i = k := by unfold kd; simp [List.getD, ← hxl]
        have e2 : sy (xs ++ [(k, s)]) i = s := by unfold sy; simp [List.getD, ← hxl]
        rw [e1, e2]
        exact ⟨hk, hs⟩
      · have hil : i < xs.length := by omega
        have e1 : kd (xs ++ [(k, s)]) i = kd xs i := by unfold kd; simp [List.getD, List.getElem?_append_left hil]
        have e2 : sy (xs ++ [(k, s)]) i = sy xs i := by unfold sy; simp [List.getD, List.getElem?_append_left hil]
        rw [e1, e2]
        exact hxs i (by omega)
  obtain ⟨xs, hxl, hxs⟩ := hx
  refine ⟨some a, len, cap, xs, hcs, ⟨hxl.symm, ?_⟩, by omega⟩
  by_cases hz : len = 0
  · exact .inl hz
  · right
    have hc := (hxs 0 (by omega)).1
    obtain ⟨b, off, spot⟩ := a
    have hspot : spot = none := by simpa [Addr.add] using World.cell?_spot hc
    subst hspot
    have hadd : ∀ j, (⟨b, off, none⟩ : Addr).add j = ⟨b, off + j, none⟩ := fun j => by unfold Addr.add; split <;> simp_all
    refine ⟨b, off, rfl, ?_, fun j hj => ?_⟩
    · rw [hadd] at hc; exact World.block_lt_of_cell? w _ hc
    · have h2 := hxs j hj
      rw [hadd, hadd] at h2
      exact h2
end

end Go.Proofs.Ytfkdefmafhlmnaa

/- Append of nodes to a list of the call's own, parts of a list of nodes, and the contracts of the model's functions that put lists of nodes together. Conditions: those in the theorems. -/
namespace Go.Proofs.Ytfkdefmafhlmnaa
open Go.RowKit

theorem addr_add (b off j : Nat) : (⟨b, off, none⟩ : Addr).add j = ⟨b, off + j, none⟩ := by unfold Addr.add; split <;> simp_all
theorem AtN.news {w : World} {b off m : Nat} {ys : List Nd} (h : AtN w (some ⟨b, off, none⟩) m ys) : ∀ j u, (cellsN ys)[j]? = some u → w.cell? ((⟨b, off, none⟩ : Addr).add j) = some u := by
  intro j u hu
  have hlt : j < (cellsN ys).length := by
    rcases Nat.lt_or_ge j (cellsN ys).length with h1 | h1
    · exact h1
    · rw [List.getElem?_eq_none h1] at hu; cases hu
  rw [cellsN_len] at hlt
  have hm := h.1
  obtain ⟨b', off', ha, hb, hc⟩ := h.2.resolve_left (by omega)
  cases ha
  obtain ⟨e1, e2⟩ := cellsN_at ys (j / 2) (by omega)
  obtain ⟨c1, c2⟩ := hc (j / 2) (by omega)
  rw [addr_add]
  have h3 : j % 2 = 0 ∨ j % 2 = 1 := by omega
  rcases h3 with h3 | h3
  · have e : j / 2 * 2 = j := by omega
    rw [e] at e1 c1
    rw [c1, ← e1, hu]
  · have e : j / 2 * 2 + 1 = j := by omega
    rw [Nat.add_assoc, e] at c2
    rw [e] at e2
    rw [c2, ← e2, hu]
theorem cells_one (ys : List Nd) : ∀ u ∈ cellsN ys, u.oneCell' = true := by
  intro u hu
  obtain ⟨x, -, hx⟩ := List.mem_flatMap.1 hu
  simp at hx
  rcases hx with rfl | rfl <;> rfl
theorem list_appN {ops : Array Oper} {rest : List Oper} {o : Oper} {a : Act} {w : World} {Q : Exit → Act → World → Prop} (hgd : o.guard = none) (s x : Operand)
    (ho : o.op = .call { callee := .builtin .append, args := #[s, x], argTypes := #[96, 96] })
    (B : Nat) (v : Value) (xs : List Nd) (hs : a.eval s = v) (hown : OwnN w B v xs)
    (ys : List Nd) (aa : Option Addr) (m c : Nat) (hx : a.eval x = .slice aa m c) (hat : AtN w aa m ys) (hm : 0 < m) (hn : xs.length + m ≤ 8388608) (hB : B ≤ w.heap.size)
    (h : ∀ v' w', OwnN w' B v' (xs ++ ys) → w.grownBy w' v.ownBlock → wpList Try.prog ops Q rest (a.put o.dst v') w') : wpList Try.prog ops Q (o :: rest) a w := by
  obtain ⟨i0, hi, hz0, hz1, hz2⟩ := info_parts infoNd
  obtain ⟨b, off, rfl, -, -⟩ := hat.2.resolve_left (by omega)
  refine wpList_append_own w hgd s x 96 ho B 140 i0 (.agg #[.int .i64 0, .int .i64 0]) 2 16 Try.underlying96 hi hz0 hz1 hz2 rfl (by decide) v xs.length (cellsN xs) hs hown ⟨b, off, none⟩ m c (cellsN ys) hx (by rw [cellsN_len, hat.1]) hat.news (cells_one ys) (by unfold maxLen; omega) (by omega) hB (fun v' w' h1 h2 _ => h v' w' ?_ h2)
  unfold OwnN
  rw [List.length_append, cellsN_append, ← hat.1]
  exact h1
/-- Behind such an append: below B nothing has turned. -/
theorem below_appN {B : Nat} {w wr X w1 : World} {v : Value} {xs : List Nd} (hbel : Below B w wr) (hX : Below B wr X) (hB : B ≤ wr.heap.size) (ho : OwnN X B v xs) (hg : X.grownBy w1 v.ownBlock) : Below B w w1 :=
  (hbel.trans hX).grown hg (Nat.le_trans hB hX.size) (fun k hk => (World.ownsRow.lt ho k hk).1)
theorem litN (w : World) (B : Nat) (k s : Int) (hB : B ≤ w.heap.size) : OwnN (w.alloc (.cells #[.int .i64 k, .int .i64 s] 140)) B (.slice (some ⟨w.heap.size, 0, none⟩) 1 1) [(k, s)] :=
  World.ownsRow_lit w #[.int .i64 k, .int .i64 s] 1 hB (by decide) rfl

/-- A part of a list of nodes. -/
theorem AtN.sub {w : World} {b off len : Nat} {xs : List Nd} (h : AtN w (some ⟨b, off, none⟩) len xs) (i n : Nat) (hi : i + n ≤ len) : AtN w (some ⟨b, off + i * 2, none⟩) n ((xs.drop i).take n) := by
  have hl := h.1
  refine ⟨by simp; omega, ?_⟩
  by_cases hn : n = 0
  · exact .inl hn
  · obtain ⟨b', off', ha, hb, hc⟩ := h.2.resolve_left (by omega)
    cases ha
    refine .inr ⟨b, off + i * 2, rfl, hb, fun j hj => ?_⟩
    have e1 : kd ((xs.drop i).take n) j = kd xs (i + j) := by simp [kd, List.getD_eq_getElem?_getD, hj, List.getElem?_drop]
    have e2 : sy ((xs.drop i).take n) j = sy xs (i + j) := by simp [sy, List.getD_eq_getElem?_getD, hj, List.getElem?_drop]
    have := hc (i + j) (by omega)
    rw [e1, e2, show off + i * 2 + j * 2 = off + (i + j) * 2 by omega]
    exact this

set_option maxHeartbeats 400000 in
theorem l02Pair_any (k : Int) (xs ys : List Nd) (a a' : Option Addr) (len len' cap cap' : Nat) (w : World) (hl : len + len' ≤ 4194304) (hp : 0 < len) (hp' : 0 < len') (h : AtN w a len xs) (h' : AtN w a' len' ys) :
    Calls Try.prog 130 #[.int .i64 k, .slice a len cap, .slice a' len' cap'] w fun e w' => ∃ v, e = .returned v ∧ OwnN w' w.heap.size v ((k, 0) :: (xs ++ ys)) ∧ Below w.heap.size w w' := by
  have H := Lib.hid h
  have H' := Lib.hid h'
  have L := Lib.hid h.1
  clear h h'
  go_enter Try.func130, Try.ntmps130
  have b0 : Below w.heap.size w (w.alloc (.cells #[.int .i64 k, .int .i64 0] 140)) := (Below.refl _ _).alloc (Nat.le_refl _) _
  have B0 := Lib.hid b0
  clear b0
  go_wp2_with (at_builtin; refine list_appN rfl _ _ rfl w.heap.size _ [(k, 0)] rfl (litN w _ k 0 (Nat.le_refl _)) xs a len cap rfl (H.out.keep B0.out (Nat.le_refl _)) hp (by simp; omega) B0.out.size ?_)
  intro v1 w1 ho1 hg1
  have b1 : Below w.heap.size w w1 := below_appN (Below.refl _ _) B0.out (Nat.le_refl _) (litN w _ k 0 (Nat.le_refl _)) hg1
  have B1 := Lib.hid b1
  have O1 := Lib.hid ho1
  clear b1 ho1 hg1
  go_wp2_with (at_builtin; refine list_appN rfl _ _ rfl w.heap.size _ _ rfl O1.out ys a' len' cap' rfl (H'.out.keep B1.out (Nat.le_refl _)) hp' (by have := L.out; simp; omega) B1.out.size ?_)
  intro v2 w2 ho2 hg2
  have b2 : Below w.heap.size w w2 := below_appN B1.out (Below.refl _ _) B1.out.size O1.out hg2
  have B2 := Lib.hid b2
  have O2 := Lib.hid ho2
  clear b2 ho2 hg2
  go_wp2
  go_ret
  exact ⟨_, rfl, O2.out, B2.out⟩

theorem l02False_any (w : World) : Calls Try.prog 128 #[] w fun e w' => ∃ v, e = .returned v ∧ OwnN w' w.heap.size v [(1, 0)] ∧ Below w.heap.size w w' := by
  go_enter Try.func128, Try.ntmps128
  go_wp2
  go_ret
  exact ⟨_, rfl, litN w _ 1 0 (Nat.le_refl _), (Below.refl _ _).alloc (Nat.le_refl _) _⟩

set_option maxHeartbeats 400000 in
theorem l02Not_any (xs : List Nd) (a : Option Addr) (len cap : Nat) (w : World) (hl : len ≤ 4194303) (hp : 0 < len) (h : AtN w a len xs) :
    Calls Try.prog 127 #[.slice a len cap] w fun e w' => ∃ v, e = .returned v ∧ OwnN w' w.heap.size v ((4, 0) :: (xs ++ [(1, 0)])) ∧ Below w.heap.size w w' := by
  have H := Lib.hid h
  clear h
  go_enter Try.func127, Try.ntmps127
  go_wp2_with fail
  refine (l02False_any _).mono ?_
  rintro e w1 ⟨v1, rfl, ho1, hb1⟩
  obtain ⟨a1, c1, rfl, at1, -, -, -⟩ := ho1.at
  have B1 := Lib.hid hb1
  have A1 := Lib.hid at1
  clear hb1 ho1 at1
  go_wp2_with fail
  refine (l02Pair_any 4 xs [(1, 0)] a a1 len 1 cap c1 _ (by omega) hp (by omega) (H.out.keep B1.out (Nat.le_refl _)) A1.out).mono ?_
  rintro e w2 ⟨v2, rfl, ho2, hb2⟩
  have B2 := Lib.hid (B1.out.trans (hb2.mono B1.out.size))
  have O2 := Lib.hid (ho2.mono B1.out.size)
  clear hb2 ho2
  go_wp2
  go_ret
  exact ⟨_, rfl, O2.out, B2.out⟩

end Go.Proofs.Ytfkdefmafhlmnaa

/- Lists of point nodes that a call owns, told by values, and the contracts of size, copy, compare, mark and held over them. Conditions: those in the theorems. -/
namespace Go.Proofs.Ytfkdefmafhlmnaa
open Go.RowKit

theorem OwnP.at {w : World} {B : Nat} {v : Value} {xs : List Pd} (h : OwnP w B v xs) :
    ∃ a cap, v = .slice a xs.length cap ∧ AtP w a xs.length xs ∧ xs.length ≤ cap ∧ (a = none → cap = 0) ∧ ∀ p, a = some p → B ≤ p.block ∧ p.block < w.heap.size := by
  have h' := h
  rcases h.2 with ⟨hv, hn⟩ | ⟨g, cap, cur, hv, hg, hh, hc, hm, hs, ht⟩
  · refine ⟨none, 0, by rw [hv, hn], ⟨rfl, .inl hn⟩, by omega, (fun _ => rfl), (fun p hp => by cases hp)⟩
  · have hlt : g < w.heap.size := (Array.getElem?_eq_some_iff.1 hh).1
    subst hv
    refine ⟨some ⟨g, 0, none⟩, cap, rfl, ⟨rfl, .inr ⟨g, 0, rfl, hlt, fun j hj => ?_⟩⟩, hc, (fun h => by cases h), (fun p hp => by cases hp; exact ⟨hg, hlt⟩)⟩
    have e1 := h'.cellAt (j * 3) (by omega)
    have e2 := h'.cellAt (j * 3 + 1) (by omega)
    have e3 := h'.cellAt (j * 3 + 2) (by omega)
    obtain ⟨c1, c2, c3⟩ := cellsP_at xs j hj
    rw [c1] at e1
    rw [c2] at e2
    rw [c3] at e3
    rw [Nat.zero_add]
    exact ⟨e1, e2, e3⟩

theorem OwnP.mono {w : World} {B B' : Nat} {v : Value} {xs : List Pd} (h : OwnP w B v xs) (hB : B' ≤ B) : OwnP w B' v xs := by
  refine ⟨h.1, ?_⟩
  rcases h.2 with h2 | ⟨g, cap, cur, hv, hg, r⟩
  · exact .inl h2
  · exact .inr ⟨g, cap, cur, hv, Nat.le_trans hB hg, r⟩

/-- The slice value v is the call's own, its block lies in lo .. hi - 1, and it holds xs. -/
def InP (w : World) (lo hi : Nat) (v : Value) (xs : List Pd) : Prop := OwnP w lo v xs ∧ hi ≤ w.heap.size ∧ ∀ k, v.ownBlock = some k → lo ≤ k ∧ k < hi

theorem OwnP.inn {w : World} {lo : Nat} {v : Value} {xs : List Pd} (h : OwnP w lo v xs) : InP w lo w.heap.size v xs := ⟨h, Nat.le_refl _, World.ownsRow.lt h⟩
theorem InP.below {w w' : World} {lo hi C : Nat} {v : Value} {xs : List Pd} (h : InP w lo hi v xs) (hb : Below C w w') (hC : hi ≤ C) : InP w' lo hi v xs := by
  refine ⟨⟨h.1.1, ?_⟩, Nat.le_trans h.2.1 hb.size, h.2.2⟩
  rcases h.1.2 with h2 | ⟨g, cap, cur, hv, hg, hh, r⟩
  · exact .inl h2
  · have hlt := (h.2.2 g (by rw [hv]; rfl)).2
    exact .inr ⟨g, cap, cur, hv, hg, by rw [hb.block g (by omega)]; exact hh, r⟩
theorem InP.drewN {w : World} {lo hi : Nat} {v : Value} {xs : List Pd} (h : InP w lo hi v xs) (q : Nat) : InP (w.drewN q) lo hi v xs := h.below (below_drewN' (Below.refl hi w) q) (Nat.le_refl _)
/-- A write into another row leaves it. -/
theorem InP.other {w w' : World} {lo hi lo' hi' : Nat} {v u : Value} {xs : List Pd} (h : InP w lo hi v xs) (hu : ∀ k, u.ownBlock = some k → lo' ≤ k ∧ k < hi') (hg : w.grownBy w' u.ownBlock) (hd : hi ≤ lo' ∨ hi' ≤ lo) : InP w' lo hi v xs := by
  refine ⟨World.ownsRow.kept h.1 hg ?_, Nat.le_trans h.2.1 hg.size, h.2.2⟩
  cases hv : v.ownBlock with
  | none => exact .inl rfl
  | some k =>
    right
    intro e
    have h1 := h.2.2 k hv
    have h2 := hu k e.symm
    omega

theorem InP.at {w : World} {lo hi : Nat} {v : Value} {xs : List Pd} (h : InP w lo hi v xs) : ∃ a cap, v = .slice a xs.length cap ∧ AtP w a xs.length xs := by
  obtain ⟨a, cap, hv, hat, -⟩ := h.1.at
  exact ⟨a, cap, hv, hat⟩

theorem eqP_in (xs : List Pd) (v v' : Value) (lo hi lo' hi' : Nat) (w : World) (hl : xs.length ≤ 1048576) (h : InP w lo hi v xs) (h' : InP w lo' hi' v' xs) :
    Calls Try.prog 30 #[v, v'] w fun e w' => e = .returned (.bool true) ∧ Below w.heap.size w w' := by
  obtain ⟨a, cap, rfl, hat⟩ := h.at
  obtain ⟨a', cap', rfl, hat'⟩ := h'.at
  exact eqPointS_any xs a a' xs.length cap cap' w hl hat hat'

theorem markP_in (xs : List Pd) (v : Value) (lo hi : Nat) (n : Int) (w : World) (hl : xs.length ≤ 1048576) (hn : 0 ≤ n) (hn2 : n ≤ 4611686018427387904) (h : InP w lo hi v xs) :
    Calls Try.prog 31 #[v, .int .i64 n] w fun e w' => e = .returned (.int .i64 (n + 3 * xs.length)) ∧ InP w' lo hi v (mkP n xs.length) ∧ Below lo w w' ∧ w.grownBy w' v.ownBlock :=
  (markPointS_any xs v lo n w hl hn hn2 h.1).mono fun _ _ ⟨h1, h2, h3, h4⟩ => ⟨h1, ⟨h2, Nat.le_trans h.2.1 h3.size, h.2.2⟩, h3, h4⟩

theorem heldP_in (m : Nat) (v : Value) (lo hi : Nat) (n : Int) (w : World) (hl : m ≤ 1048576) (hn : 0 ≤ n) (hn2 : n ≤ 4611686018427387904) (h : InP w lo hi v (mkP n m)) :
    Calls Try.prog 32 #[v, .int .i64 n] w fun e w' => e = .returned (.int .i64 (n + 3 * m)) ∧ w = w' := by
  obtain ⟨a, cap, rfl, hat⟩ := h.at
  rw [mkP_len] at hat ⊢
  exact heldPointS_any m a cap n w hl hn hn2 hat

/-- A list of nodes that came in. -/
def IsPts (w : World) (a : Option Addr) (len : Nat) (xs : List Pd) : Prop := AtP w a len xs ∧ len ≤ maxLen

section
open Go.ChangeShapes Go.WideShapes Go.Deep
variable {H : Type} {enc : TypeId × Value → H} {P : Program} {w : World} {base : Nat} {spare : Nat → Bool} {held : Bool}
theorem open_points {t e : TypeId} {f0 f1 f2 : Field} {fuel : Nat} {cs : List Value} {x : DataW H × List MemPlace} (ht : P.underlying t = some (.slice e)) (he : P.underlying e = some (.struct #[f0, f1, f2]))
    (h0 : P.underlying f0.type = some (.int .i64)) (h1 : P.underlying f1.type = some (.int .i64)) (h2 : P.underlying f2.type = some (.int .i64)) (hone : oneCellFields P #[f0, f1, f2] = true) (hC : P.cellsOf e = 3) (h : DataW.trod enc P w base spare held fuel t cs = some x) :
    ∃ (a : Option Addr) (len cap : Nat) (xs : List Pd), cs = [.slice a len cap] ∧ IsPts w a len xs := by
  rcases open_slice ht h with h0 | ⟨a, len, cap, m, n, D, Pl, hcs, hb, hl, hm, hmm, hx, hi⟩
  · exact ⟨none, 0, 0, [], h0.1, ⟨rfl, .inl rfl⟩, by unfold maxLen; omega⟩
  have hlm : len ≤ m := by rw [hmm]; split <;> omega
  have hcell : ∀ i, i < len → ∃ k s t : Int, w.cell? (a.add (i * 3)) = some (.int .i64 k) ∧ w.cell? (a.add (i * 3 + 1)) = some (.int .i64 s) ∧ w.cell? (a.add (i * 3 + 2)) = some (.int .i64 t) := by
    intro i hil
    obtain ⟨cs', hc, ht'⟩ := hi i (by omega)
    rw [hC] at hc
    obtain ⟨ys, n', hn', hy, hlen, hyl, hf⟩ := DataW.trod_struct he ht'
    obtain ⟨_, hcl, hat⟩ := World.cells?_some hc
    obtain ⟨o0, k0⟩ := hone_of hone 0 f0 rfl
    obtain ⟨o1, k1⟩ := hone_of hone 1 f1 rfl
    obtain ⟨o2, k2⟩ := hone_of hone 2 f2 rfl
    have g0 := hf 0 f0 rfl
    have g1 := hf 1 f1 rfl
    have g2 := hf 2 f2 rfl
    rw [o0, k0] at g0
    rw [o1, k1] at g1
    rw [o2, k2] at g2
    match cs', hcl with
    | [c0, c1, c2], _ =>
      have a0 := hat 0 (by omega)
      have a1 := hat 1 (by omega)
      have a2 := hat 2 (by omega)
      simp only [List.drop, List.take] at g0 g1 g2
      obtain ⟨y0, hy0⟩ : ∃ y, ys[0]? = some y := ⟨_, List.getElem?_eq_getElem (by rw [hyl]; simp)⟩
      obtain ⟨y1, hy1⟩ : ∃ y, ys[1]? = some y := ⟨_, List.getElem?_eq_getElem (by rw [hyl]; simp)⟩
      obtain ⟨y2, hy2⟩ : ∃ y, ys[2]? = some y := ⟨_, List.getElem?_eq_getElem (by rw [hyl]; simp)⟩
      rw [hy0] at g0
      rw [hy1] at g1
      rw [hy2] at g2
      obtain ⟨k, hk, -⟩ := DataW.trod_int h0 g0
      obtain ⟨s, hs, -⟩ := DataW.trod_int h1 g1
      obtain ⟨t, ht3, -⟩ := DataW.trod_int h2 g2
      simp only [List.cons.injEq, and_true] at hk hs ht3
      refine ⟨k, s, t, ?_, ?_, ?_⟩
      · rw [Go.Deep.add_add, Nat.add_zero] at a0; rw [← hk]; exact a0
      · rw [Go.Deep.add_add] at a1; rw [← hs]; exact a1
      · rw [Go.Deep.add_add] at a2; rw [← ht3]; exact a2
  have hx : ∃ xs : List Pd, xs.length = len ∧ ∀ i, i < len → w.cell? (a.add (i * 3)) = some (.int .i64 (kp xs i)) ∧ w.cell? (a.add (i * 3 + 1)) = some (.int .i64 (fp xs i)) ∧ w.cell? (a.add (i * 3 + 2)) = some (.int .i64 (tp xs i)) := by
    clear hx hi hcs hb hl hm hmm hlm
    induction len with
    | zero => exact ⟨[], rfl, fun i h => absurd h (by omega)⟩
    | succ len ih =>
      obtain ⟨xs, hxl, hxs⟩ := ih (fun i hi => hcell i (by omega))
      obtain ⟨k, s, t, hk, hs, ht3⟩ := hcell len (by omega)
      refine ⟨xs ++ [(k, s, t)], by simp [hxl], fun i hi => ?_⟩
      by_cases e : i = len
      · subst e
        have e1 : kp (xs ++ [(k, s, t)]) i = k := by unfold kp; simp [List.getD, ← hxl]
        have e2 : fp (xs ++ [(k, s, t)]) i = s := by unfold fp; simp [List.getD, ← hxl]
        have e3 : tp (xs ++ [(k, s, t)]) i = t := by unfold tp; simp [List.getD, ← hxl]
        rw [e1, e2, e3]
        exact ⟨hk, hs, ht3⟩
      · have hil : i < xs.length := by omega
        have e1 : kp (xs ++ [(k, s, t)]) i = kp xs i := by unfold kp; simp [List.getD, List.getElem?_append_left hil]
        have e2 : fp (xs ++ [(k, s, t)]) i = fp xs i := by unfold fp; simp [List.getD, List.getElem?_append_left hil]
        have e3 : tp (xs ++ [(k, s, t)]) i = tp xs i := by unfold tp; simp [List.getD, List.getElem?_append_left hil]
        rw [e1, e2, e3]
        exact hxs i (by omega)
  obtain ⟨xs, hxl, hxs⟩ := hx
  refine ⟨some a, len, cap, xs, hcs, ⟨hxl.symm, ?_⟩, by omega⟩
  by_cases hz : len = 0
  · exact .inl hz
  · right
    have hc := (hxs 0 (by omega)).1
    obtain ⟨b, off, spot⟩ := a
    have hspot : spot = none := by simpa [Addr.add] using World.cell?_spot hc
    subst hspot
    have hadd : ∀ j, (⟨b, off, none⟩ : Addr).add j = ⟨b, off + j, none⟩ := fun j => by unfold Addr.add; split <;> simp_all
    refine ⟨b, off, rfl, ?_, fun j hj => ?_⟩
    · rw [hadd] at hc; exact World.block_lt_of_cell? w _ hc
    · have h2 := hxs j hj
      rw [hadd, hadd, hadd] at h2
      exact h2
end

end Go.Proofs.Ytfkdefmafhlmnaa
