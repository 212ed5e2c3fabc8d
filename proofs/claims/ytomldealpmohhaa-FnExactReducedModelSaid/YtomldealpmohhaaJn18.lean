/- 5 texts in one: Concat, ListN, Ok, Join, AreF. -/
import Derived.Lib.AppendZerosOnto
import Derived.Test.YtomldealpmohhaaJn14
import Derived.Test.YtomldealpmohhaaJn02
/- Contracts of slices.Grow and slices.Concat at lists of nodes, and of the program's functions that put lists of nodes together. Conditions: those in the theorems. -/
namespace Go.Proofs.Ytomldealpmohhaa
open Go.RowKit

theorem list_appZ {ops : Array Oper} {rest : List Oper} {o : Oper} {a : Act} {w : World} {Q : Exit → Act → World → Prop} (hgd : o.guard = none) (s x : Operand)
    (ho : o.op = .call { callee := .builtin .append, args := #[s, x], argTypes := #[36, 3] })
    (n : Nat) (hs : a.eval s = .slice none 0 0) (hx : a.eval x = .int .i64 n) (hn : 0 < n) (hn2 : n ≤ 8388608)
    (h : ∀ (cap : Nat) (cs : Array Value), n ≤ cap → cap ≤ maxLen → cs.size = cap * 2 → wpList Try.prog ops Q rest (a.put o.dst (.slice (some ⟨w.heap.size, 0, none⟩) n cap)) (w.drew.alloc (.cells cs 69))) : wpList Try.prog ops Q (o :: rest) a w := by
  obtain ⟨i0, hi, hz0, hz1, hz2⟩ := info_parts infoNd
  refine wpList_plain hgd fun K hK => ?_
  have hr := Lib.run_append_grow_zeros (P := Try.prog) w 36 3 o.type 69 i0 (.agg #[.int .i64 0, .int .i64 0]) .i64 .i64 Try.underlying36 Try.underlying3 hi hz0 none 0 0 [] (run_firstCells_none w.drew i0.size 0 0 0) n hn (by omega) (by omega) (by omega) (by rw [hz2]; omega)
    (growslice_fits (by omega) (by rw [hz2]; omega))
  simp only [Nat.zero_add] at hr
  unfold Oper.wp execOp
  simp only [ho, resolve, invoke, builtin, Sem.run_bind, Sem.run_pure, Result.andThen_ok, List.map_toArray, List.map_cons, List.map_nil, hs, hx, hr]
  have hg := grownCap_ge w n 0 69
  refine hK _ _ (h _ _ hg (grownCap_le_maxLen w n 0 _ (by unfold maxLen; omega)) ?_)
  have e : (Value.agg #[Value.int .i64 0, Value.int .i64 0]).cells.size = 2 := rfl
  rw [Array.size_append, Array.size_append, size_zeroCells, size_zeroCells, e]
  simp
  omega

def nthL (xss : List (List Nd)) (j : Nat) : List Nd := xss.getD j []
/-- A list of lists of nodes in memory. -/
def AtNN (w : World) (a : Option Addr) (len : Nat) (xss : List (List Nd)) : Prop :=
  len = xss.length ∧ (len = 0 ∨ ∃ b off, a = some ⟨b, off, none⟩ ∧ b < w.heap.size ∧ ∀ j, j < len → ∃ a' cap', w.cell? ⟨b, off + j, none⟩ = some (.slice a' (nthL xss j).length cap') ∧ AtN w a' (nthL xss j).length (nthL xss j))
theorem AtNN.keep {w w' : World} {C : Nat} {a : Option Addr} {len : Nat} {xss : List (List Nd)} (h : AtNN w a len xss) (hb : Below C w w') (hC : w.heap.size ≤ C) : AtNN w' a len xss := by
  refine ⟨h.1, ?_⟩
  rcases h.2 with h2 | ⟨b, off, ha, hlt, hc⟩
  · exact .inl h2
  · refine .inr ⟨b, off, ha, Nat.lt_of_lt_of_le hlt hb.size, fun j hj => ?_⟩
    obtain ⟨a', cap', h3, h4⟩ := hc j hj
    exact ⟨a', cap', (hb.cell (p := ⟨b, off + j, none⟩) (by show b < C; omega)).trans h3, h4.keep hb hC⟩
/-- How many nodes the first k lists have together. -/
def szTo (xss : List (List Nd)) : Nat → Nat
  | 0 => 0
  | k + 1 => szTo xss k + (nthL xss k).length
def catTo (xss : List (List Nd)) : Nat → List Nd
  | 0 => []
  | k + 1 => catTo xss k ++ nthL xss k
theorem catTo_len (xss : List (List Nd)) (k : Nat) : (catTo xss k).length = szTo xss k := by
  induction k with
  | zero => rfl
  | succ k ih => rw [catTo, szTo, List.length_append, ih]
theorem szTo_mono (xss : List (List Nd)) {k l : Nat} (h : k ≤ l) : szTo xss k ≤ szTo xss l := by
  induction l with
  | zero => have : k = 0 := by omega
            subst this; exact Nat.le_refl _
  | succ l ih =>
    by_cases e : k = l + 1
    · subst e; exact Nat.le_refl _
    · have := ih (by omega); rw [szTo]; omega
theorem catTo_cons (x : List Nd) (xss : List (List Nd)) (k : Nat) : catTo (x :: xss) (k + 1) = x ++ catTo xss k := by
  induction k with
  | zero => simp [catTo, nthL]
  | succ k ih => rw [catTo, ih, catTo, List.append_assoc]; rfl
theorem catTo_all (xss : List (List Nd)) : catTo xss xss.length = xss.flatten := by
  induction xss with
  | nil => rfl
  | cons x xss ih => rw [List.length_cons, catTo_cons, ih]; rfl

end Go.Proofs.Ytomldealpmohhaa

/- Lists of lists of nodes that a call owns: the contracts of size, copy, compare and mark over them. Conditions: those in the theorems. -/
namespace Go.Proofs.Ytomldealpmohhaa
open Go.RowKit

theorem infoNN : (Try.prog.info? 36).map (fun i => (i.zero, i.size, i.bytes)) = some (some (.slice none 0 0), 1, 24) := by kernel_rfl

theorem InN.within {w w' : World} {lo hi lo' hi' : Nat} {v : Value} {xs : List Nd} (h : InN w lo hi v xs) (hw : Within lo' hi' w w') (hd : hi ≤ lo' ∨ hi' ≤ lo) : InN w' lo hi v xs := by
  refine ⟨⟨h.1.1, ?_⟩, Nat.le_trans h.2.1 hw.size, h.2.2⟩
  rcases h.1.2 with h2 | ⟨g, cap, cur, hv, hg, hh, r⟩
  · exact .inl h2
  · have hlt := h.2.2 g (by rw [hv]; rfl)
    have := h.2.1
    exact .inr ⟨g, cap, cur, hv, hg, by rw [hw.block g (by omega) (by omega)]; exact hh, r⟩

/-- The slice value v is the call's own, its blocks lie in lo .. hi - 1, no two lists share one, and it holds the lists xss. -/
def InNN (w : World) (lo hi : Nat) (v : Value) (xss : List (List Nd)) : Prop :=
  ∃ (vs : List Value) (p : Nat → Nat), w.ownsRow lo 36 1 v xss.length vs ∧ (∀ k, v.ownBlock = some k → lo ≤ k ∧ k < p 0) ∧ lo ≤ p 0 ∧
    (∀ j, j < xss.length → p j ≤ p (j + 1) ∧ InN w (p j) (p (j + 1)) (atV vs j) (nthL xss j)) ∧ p xss.length ≤ hi ∧ hi ≤ w.heap.size
theorem InNN.below {w w' : World} {lo hi C : Nat} {v : Value} {xss : List (List Nd)} (h : InNN w lo hi v xss) (hb : Below C w w') (hC : hi ≤ C) : InNN w' lo hi v xss := by
  obtain ⟨vs, p, h1, h2, h3, h4, h5, h6⟩ := h
  have hm : ∀ i j, i ≤ j → j ≤ xss.length → p i ≤ p j := fun i j => mono_to (fun j hj => (h4 j hj).1)
  have h0 := hm 0 xss.length (Nat.zero_le _) (Nat.le_refl _)
  refine ⟨vs, p, ownsRow_below h1 (fun k hk => by have := h2 k hk; omega) hb, h2, h3, fun j hj => ⟨(h4 j hj).1, (h4 j hj).2.below hb ?_⟩, h5, Nat.le_trans h6 hb.size⟩
  have := hm (j + 1) xss.length (by omega) (Nat.le_refl _)
  omega
theorem InNN.size {w : World} {lo hi : Nat} {v : Value} {xss : List (List Nd)} (h : InNN w lo hi v xss) : lo ≤ hi ∧ hi ≤ w.heap.size := by
  obtain ⟨vs, p, h1, h2, h3, h4, h5, h6⟩ := h
  have := mono_to (fun j hj => (h4 j hj).1) (Nat.zero_le xss.length) (Nat.le_refl _)
  exact ⟨by omega, h6⟩
theorem InNN.at {w : World} {lo hi : Nat} {v : Value} {xss : List (List Nd)} (h : InNN w lo hi v xss) : ∃ a cap, v = .slice a xss.length cap ∧ AtNN w a xss.length xss := by
  obtain ⟨vs, p, h1, h2, h3, h4, h5, h6⟩ := h
  have hl := h1.1
  rcases h1.2 with ⟨hv, hn⟩ | ⟨g, cap, cur, hv, hg, hh, hc, hm, hs, ht⟩
  · exact ⟨none, 0, by rw [hv, hn], rfl, .inl hn⟩
  · have hlt : g < w.heap.size := (Array.getElem?_eq_some_iff.1 hh).1
    subst hv
    refine ⟨some ⟨g, 0, none⟩, cap, rfl, rfl, .inr ⟨g, 0, rfl, hlt, fun j hj => ?_⟩⟩
    have e := h1.cellAt j (by omega)
    obtain ⟨a', cap', hv', hat'⟩ := (h4 j hj).2.at
    refine ⟨a', cap', ?_, hat'⟩
    rw [Nat.zero_add, e, atV_some (by omega), hv']

/-- A list of lists of nodes that came in. -/
def IsNodesS (w : World) (a : Option Addr) (len : Nat) (xss : List (List Nd)) : Prop := AtNN w a len xss ∧ len ≤ maxLen ∧ ∀ j, j < len → (nthL xss j).length ≤ maxLen
theorem sz_all {xss : List (List Nd)} {n : Nat} (h : szTo xss n ≤ 1048576) : ∀ j, j < n → (nthL xss j).length ≤ 1048576 := fun j hj => by
  have a1 := szTo_mono xss (show j + 1 ≤ n by omega)
  rw [szTo] at a1
  omega

section
open Go.ChangeShapes Go.WideShapes Go.Deep
variable {H : Type} {enc : TypeId × Value → H} {P : Program} {w : World} {base : Nat} {spare : Nat → Bool} {held : Bool}
theorem open_nodess {t s e : TypeId} {f0 f1 : Field} {fuel : Nat} {cs : List Value} {x : DataW H × List MemPlace} (hs : P.underlying t = some (.slice s)) (ht : P.underlying s = some (.slice e)) (he : P.underlying e = some (.struct #[f0, f1]))
    (h0 : P.underlying f0.type = some (.int .i64)) (h1 : P.underlying f1.type = some (.int .i64)) (hone : oneCellFields P #[f0, f1] = true) (hC : P.cellsOf e = 2) (hC1 : P.cellsOf s = 1) (h : DataW.trod enc P w base spare held fuel t cs = some x) :
    ∃ (a : Option Addr) (len cap : Nat) (xss : List (List Nd)), cs = [.slice a len cap] ∧ IsNodesS w a len xss := by
  rcases open_slice hs h with hz | ⟨a, len, cap, m, n, D, Pl, hcs, hb, hl, hm, hmm, hx, hi⟩
  · exact ⟨none, 0, 0, [], hz.1, ⟨rfl, .inl rfl⟩, by unfold maxLen; omega, fun j hj => absurd hj (by omega)⟩
  have hlm : len ≤ m := by rw [hmm]; split <;> omega
  have hcell : ∀ i, i < len → ∃ (a' : Option Addr) (cap' : Nat) (xs : List Nd), w.cell? (a.add i) = some (.slice a' xs.length cap') ∧ IsNodes w a' xs.length xs := by
    intro i hil
    obtain ⟨cs', hc, ht'⟩ := hi i (by omega)
    obtain ⟨a1, len1, cap1, xs, hcs1, hn1⟩ := open_nodes ht he h0 h1 hone hC ht'
    rw [hC1, Nat.mul_one] at hc
    subst hcs1
    obtain ⟨_, hcl, hat⟩ := World.cells?_some hc
    have a0 := hat 0 (by omega)
    rw [Go.Deep.add_add, Nat.add_zero] at a0
    have hlen := hn1.1.1
    subst hlen
    exact ⟨a1, cap1, xs, a0, hn1⟩
  have hx : ∃ xss : List (List Nd), xss.length = len ∧ ∀ i, i < len → ∃ (a' : Option Addr) (cap' : Nat), w.cell? (a.add i) = some (.slice a' (nthL xss i).length cap') ∧ IsNodes w a' (nthL xss i).length (nthL xss i) := by
    clear hx hi hcs hb hl hm hmm hlm
    induction len with
    | zero => exact ⟨[], rfl, fun i h => absurd h (by omega)⟩
    | succ len ih =>
      obtain ⟨xss, hxl, hxs⟩ := ih (fun i hi => hcell i (by omega))
      obtain ⟨a', cap', xs, hk, hn⟩ := hcell len (by omega)
      refine ⟨xss ++ [xs], by simp [hxl], fun i hi => ?_⟩
      by_cases e : i = len
      · subst e
        have e1 : nthL (xss ++ [xs]) i = xs := by unfold nthL; simp [List.getD, ← hxl]
        rw [e1]
        exact ⟨a', cap', hk, hn⟩
      · have hil : i < xss.length := by omega
        have e1 : nthL (xss ++ [xs]) i = nthL xss i := by unfold nthL; simp [List.getD, List.getElem?_append_left hil]
        rw [e1]
        exact hxs i (by omega)
  obtain ⟨xss, hxl, hxs⟩ := hx
  refine ⟨some a, len, cap, xss, hcs, ⟨hxl.symm, ?_⟩, by omega, fun j hj => ?_⟩
  · by_cases hz : len = 0
    · exact .inl hz
    · right
      obtain ⟨a', cap', hc, -⟩ := hxs 0 (by omega)
      obtain ⟨b, off, spot⟩ := a
      have hspot : spot = none := by simpa [Addr.add] using World.cell?_spot hc
      subst hspot
      have hadd : ∀ j, (⟨b, off, none⟩ : Addr).add j = ⟨b, off + j, none⟩ := fun j => by unfold Addr.add; split <;> simp_all
      refine ⟨b, off, rfl, ?_, fun j hj => ?_⟩
      · rw [hadd] at hc; exact World.block_lt_of_cell? w _ hc
      · obtain ⟨a', cap', h2, h3⟩ := hxs j hj
        rw [hadd] at h2
        exact ⟨a', cap', h2, h3.1⟩
  · obtain ⟨a', cap', -, h3⟩ := hxs j hj
    exact h3.2
end

end Go.Proofs.Ytomldealpmohhaa

/- Lists that are all formulas. No conditions but those in the theorems. -/
namespace Go.Proofs.Ytomldealpmohhaa
open Go.RowKit

def okAll (xss : List (List Nd)) (j : Nat) : Bool := (List.range j).all fun i => isB (nthL xss i) (nthL xss i).length
theorem okAll_at {xss : List (List Nd)} {j i : Nat} (h : okAll xss j = true) (hi : i < j) : isB (nthL xss i) (nthL xss i).length = true := List.all_eq_true.1 h i (List.mem_range.2 hi)
theorem okAll_succ {xss : List (List Nd)} {j : Nat} (h : okAll xss j = true) (hi : isB (nthL xss j) (nthL xss j).length = true) : okAll xss (j + 1) = true := by
  rw [okAll, List.range_succ, List.all_append, Bool.and_eq_true]
  exact ⟨h, by simp [hi]⟩
theorem okAll_bad {xss : List (List Nd)} {n j : Nat} (h : j < n) (hi : isB (nthL xss j) (nthL xss j).length = false) : okAll xss n = false := by
  cases e : okAll xss n with
  | false => rfl
  | true => rw [okAll_at e h] at hi; cases hi

end Go.Proofs.Ytomldealpmohhaa

/- Contracts of the program's functions that make a formula of others, and of the model's. Conditions: those in the theorems. -/
namespace Go.Proofs.Ytomldealpmohhaa
open Go.RowKit

/-- One list, or two, laid by a call with several arguments. -/
theorem lay1 {w : World} {C : Nat} {a : Option Addr} {len cap : Nat} {xs : List Nd} (h : AtN w a len xs) (t : TypeId) (hC : C = w.heap.size) : AtNN (w.alloc (.cells #[.slice a len cap] t)) (some ⟨C, 0, none⟩) 1 [xs] := by
  subst hC
  refine ⟨rfl, .inr ⟨w.heap.size, 0, rfl, by simp, fun j hj => ?_⟩⟩
  obtain rfl : j = 0 := by omega
  have hl := h.1
  refine ⟨a, cap, ?_, ?_⟩
  · rw [show (nthL [xs] 0).length = len from hl.symm]
    exact World.cell?_alloc_at _ _ _ _ rfl
  · rw [show (nthL [xs] 0).length = len from hl.symm]
    exact h.keep ((Below.refl _ _).alloc (Nat.le_refl _) _) (Nat.le_refl _)
theorem lay2 {w : World} {C : Nat} {a a' : Option Addr} {len cap len' cap' : Nat} {xs ys : List Nd} (h : AtN w a len xs) (h' : AtN w a' len' ys) (t : TypeId) (hC : C = w.heap.size) : AtNN (w.alloc (.cells #[.slice a len cap, .slice a' len' cap'] t)) (some ⟨C, 0, none⟩) 2 [xs, ys] := by
  subst hC
  refine ⟨rfl, .inr ⟨w.heap.size, 0, rfl, by simp, fun j hj => ?_⟩⟩
  have hl := h.1
  have hl' := h'.1
  have hj2 : j = 0 ∨ j = 1 := by omega
  rcases hj2 with rfl | rfl
  · refine ⟨a, cap, ?_, ?_⟩
    · rw [show (nthL [xs, ys] 0).length = len from hl.symm]
      exact World.cell?_alloc_at _ _ _ _ rfl
    · rw [show (nthL [xs, ys] 0).length = len from hl.symm]
      exact h.keep ((Below.refl _ _).alloc (Nat.le_refl _) _) (Nat.le_refl _)
  · refine ⟨a', cap', ?_, ?_⟩
    · rw [show (nthL [xs, ys] 1).length = len' from hl'.symm]
      exact World.cell?_alloc_at _ _ _ _ rfl
    · rw [show (nthL [xs, ys] 1).length = len' from hl'.symm]
      exact h'.keep ((Below.refl _ _).alloc (Nat.le_refl _) _) (Nat.le_refl _)

end Go.Proofs.Ytomldealpmohhaa

/- The program's checks of arguments: lists of formulas, a variable, a node. Conditions: those in the theorems. -/
namespace Go.Proofs.Ytomldealpmohhaa
open Go.RowKit

set_option maxHeartbeats 1000000 in
theorem areF_any (xss : List (List Nd)) (a : Option Addr) (len cap : Nat) (w : World) (hl : len ≤ 2097152) (hi : ∀ j, j < len → (nthL xss j).length ≤ 1048576) (h : AtNN w a len xss) :
    Calls Try.prog 94 #[.slice a len cap] w fun e w' => e = .returned (.bool (okAll xss len)) ∧ Below w.heap.size w w' := by
  have H := Lib.hid h
  have LI := Lib.hid hi
  clear h hi
  go_enter Try.func94, Try.ntmps94
  go_wp2
  go_loopw [7] (fun i wr => ∃ (j : Nat), j ≤ len ∧ i = .int .i64 j ∧ Hid (okAll xss j = true) ∧ Below w.heap.size w wr) (fun i _ => len - (intOf i).toNat)
  case atStart => exact ⟨0, Nat.zero_le _, rfl, (show _ = _ from rfl), Below.refl _ _⟩
  case round =>
    obtain ⟨j, hj, rfl, hok, hbel⟩ := hrel
    have B := Lib.hid hbel
    clear hbel
    by_cases hlt : j < len
    · obtain ⟨b, off, rfl, hb, hc⟩ := H.out.2.resolve_left (by omega)
      obtain ⟨a1, cap1, hc0, hat1⟩ := hc j hlt
      have hc1 : wr.cell? ⟨b, off + j, none⟩ = some (.slice a1 (nthL xss j).length cap1) := (B.out.cell (p := ⟨b, off + j, none⟩) hb).trans hc0
      have hn3 := LI.out j hlt
      obtain ⟨n, hn⟩ : ∃ n, n = (nthL xss j).length := ⟨_, rfl⟩
      rw [← hn] at hc1 hat1 hn3
      have N := Lib.hid hn
      have A1 := Lib.hid (hat1.keep B.out (Nat.le_refl _))
      clear hc hc0 hat1 hn
      cases hbb : isB (nthL xss j) n
      · have BB := Lib.hid hbb
        clear hbb
        have E := Lib.hid (okAll_bad hlt (show isB (nthL xss j) (nthL xss j).length = false by rw [← N.out]; exact BB.out))
        go_wp2_with fail
        refine (implIsF_any _ _ _ _ _ hn3 A1.out).mono ?_
        rw [BB.out]
        rintro e w1 ⟨rfl, hb1⟩
        have B1 := Lib.hid (B.out.trans (hb1.mono B.out.size))
        clear hb1
        go_wp2
        go_ret
        exact ⟨ret_bool E.out.symm, B1.out⟩
      · have BB := Lib.hid hbb
        clear hbb
        have OK := Lib.hid (okAll_succ hok.out (show isB (nthL xss j) (nthL xss j).length = true by rw [← N.out]; exact BB.out))
        go_wp2_with fail
        refine (implIsF_any _ _ _ _ _ hn3 A1.out).mono ?_
        rw [BB.out]
        rintro e w1 ⟨rfl, hb1⟩
        have B1 := Lib.hid (B.out.trans (hb1.mono B.out.size))
        clear hb1
        go_wp2
        go_roundw
        case rel => exact ⟨j + 1, hlt, by go_num, OK, B1.out⟩
        case measure => simp [intOf]; omega
    · obtain rfl : j = len := by omega
      have OK := Lib.hid hok.out
      clear hok
      go_wp2
      go_ret
      exact ⟨ret_bool OK.out.symm, B.out⟩

theorem okAll_1 (xs : List Nd) : okAll [xs] 1 = isB xs xs.length := by simp [okAll, nthL]
theorem okAll_2 (xs ys : List Nd) : okAll [xs, ys] 2 = (isB xs xs.length && isB ys ys.length) := by
  rw [okAll, show List.range 2 = [0, 1] from rfl]
  simp [nthL]
theorem nthL_le1 {xs : List Nd} {n : Nat} (h : xs.length ≤ n) : ∀ j, j < 1 → (nthL [xs] j).length ≤ n := by
  intro j hj
  obtain rfl : j = 0 := by omega
  exact h
theorem nthL_le2 {xs ys : List Nd} {n : Nat} (h : xs.length ≤ n) (h' : ys.length ≤ n) : ∀ j, j < 2 → (nthL [xs, ys] j).length ≤ n := by
  intro j hj
  match j, hj with
  | 0, _ => exact h
  | 1, _ => exact h'

theorem areF1_any (xs : List Nd) (a : Option Addr) (len cap C : Nat) (w : World) (hl : len ≤ 1048576) (h : AtN w a len xs) (t : TypeId) (hC : C = w.heap.size) :
    Calls Try.prog 94 #[.slice (some ⟨C, 0, none⟩) 1 1] (w.alloc (.cells #[.slice a len cap] t)) fun e w' => e = .returned (.bool (isB xs len)) ∧ Below w.heap.size w w' := by
  refine (areF_any [xs] _ 1 1 _ (by omega) (nthL_le1 (by rw [← h.1]; exact hl)) (lay1 h t hC)).mono ?_
  rintro e w' ⟨rfl, hb⟩
  have b0 : Below w.heap.size w (w.alloc (.cells #[.slice a len cap] t)) := (Below.refl _ _).alloc (Nat.le_refl _) _
  exact ⟨by rw [okAll_1, h.1], b0.trans (hb.mono b0.size)⟩
theorem areF2_any (xs ys : List Nd) (a a' : Option Addr) (len cap len' cap' C : Nat) (w : World) (hl : len ≤ 1048576) (hl' : len' ≤ 1048576) (h : AtN w a len xs) (h' : AtN w a' len' ys) (t : TypeId) (hC : C = w.heap.size) :
    Calls Try.prog 94 #[.slice (some ⟨C, 0, none⟩) 2 2] (w.alloc (.cells #[.slice a len cap, .slice a' len' cap'] t)) fun e w' => e = .returned (.bool (isB xs len && isB ys len')) ∧ Below w.heap.size w w' := by
  refine (areF_any [xs, ys] _ 2 2 _ (by omega) (nthL_le2 (by rw [← h.1]; exact hl) (by rw [← h'.1]; exact hl')) (lay2 h h' t hC)).mono ?_
  rintro e w' ⟨rfl, hb⟩
  have b0 : Below w.heap.size w (w.alloc (.cells #[.slice a len cap, .slice a' len' cap'] t)) := (Below.refl _ _).alloc (Nat.le_refl _) _
  exact ⟨by rw [okAll_2, h.1, h'.1], b0.trans (hb.mono b0.size)⟩

/-- The error of a list of lists and a number that has to be one of 0 .. n - 1. -/
def cvI (b : Bool) (n v : Int) : Int := if b then (if decide (0 ≤ v) && decide (v < n) then 0 else 2) else 1

end Go.Proofs.Ytomldealpmohhaa
