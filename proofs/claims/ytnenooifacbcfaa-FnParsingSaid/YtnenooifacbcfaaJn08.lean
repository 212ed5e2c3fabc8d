/- 3 texts in one: ListN, Row, Join. -/
import Derived.Test.YtnenooifacbcfaaConcat
import Derived.Test.YtnenooifacbcfaaWi
/- Lists of lists of nodes that a call owns: the contracts of size, copy, compare and mark over them. Conditions: those in the theorems. -/
namespace Go.Proofs.Ytnenooifacbcfaa
open Go.RowKit

theorem infoNN : (Try.prog.info? 25).map (fun i => (i.zero, i.size, i.bytes)) = some (some (.slice none 0 0), 1, 24) := by kernel_rfl

theorem InN.within {w w' : World} {lo hi lo' hi' : Nat} {v : Value} {xs : List Nd} (h : InN w lo hi v xs) (hw : Within lo' hi' w w') (hd : hi ≤ lo' ∨ hi' ≤ lo) : InN w' lo hi v xs := by
  refine ⟨⟨h.1.1, ?_⟩, Nat.le_trans h.2.1 hw.size, h.2.2⟩
  rcases h.1.2 with h2 | ⟨g, cap, cur, hv, hg, hh, r⟩
  · exact .inl h2
  · have hlt := h.2.2 g (by rw [hv]; rfl)
    have := h.2.1
    exact .inr ⟨g, cap, cur, hv, hg, by rw [hw.block g (by omega) (by omega)]; exact hh, r⟩

/-- The slice value v is the call's own, its blocks lie in lo .. hi - 1, no two lists share one, and it holds the lists xss. -/
def InNN (w : World) (lo hi : Nat) (v : Value) (xss : List (List Nd)) : Prop :=
  ∃ (vs : List Value) (p : Nat → Nat), w.ownsRow lo 25 1 v xss.length vs ∧ (∀ k, v.ownBlock = some k → lo ≤ k ∧ k < p 0) ∧ lo ≤ p 0 ∧
    (∀ j, j < xss.length → p j ≤ p (j + 1) ∧ InN w (p j) (p (j + 1)) (atV vs j) (nthL xss j)) ∧ p xss.length ≤ hi ∧ hi ≤ w.heap.size
theorem InNN.below {w w' : World} {lo hi C : Nat} {v : Value} {xss : List (List Nd)} (h : InNN w lo hi v xss) (hb : Below C w w') (hC : hi ≤ C) : InNN w' lo hi v xss := by
  obtain ⟨vs, p, h1, h2, h3, h4, h5, h6⟩ := h
  have hm : ∀ i j, i ≤ j → j ≤ xss.length → p i ≤ p j := fun i j => mono_to (fun j hj => (h4 j hj).1)
  have h0 := hm 0 xss.length (Nat.zero_le _) (Nat.le_refl _)
  refine ⟨vs, p, ownsRow_below h1 (fun k hk => by have := h2 k hk; omega) hb, h2, h3, fun j hj => ⟨(h4 j hj).1, (h4 j hj).2.below hb ?_⟩, h5, Nat.le_trans h6 hb.size⟩
  have := hm (j + 1) xss.length (by omega) (Nat.le_refl _)
  omega
theorem InNN.size {w : World} {lo hi : Nat} {v : Value} {xss : List (List Nd)} (h : InNN w lo hi v xss) : lo ≤ hi ∧ hi ≤ w.heap.size := by
  obtain ⟨vs, p, h1, h2, h3, h4, h5, h6⟩ := h
  have := mono_to (fun j hj => (h4 j hj).1) (Nat.zero_le xss.length) (Nat.le_refl _)
  exact ⟨by omega, h6⟩
theorem InNN.at {w : World} {lo hi : Nat} {v : Value} {xss : List (List Nd)} (h : InNN w lo hi v xss) : ∃ a cap, v = .slice a xss.length cap ∧ AtNN w a xss.length xss := by
  obtain ⟨vs, p, h1, h2, h3, h4, h5, h6⟩ := h
  have hl := h1.1
  rcases h1.2 with ⟨hv, hn⟩ | ⟨g, cap, cur, hv, hg, hh, hc, hm, hs, ht⟩
  · exact ⟨none, 0, by rw [hv, hn], rfl, .inl hn⟩
  · have hlt : g < w.heap.size := (Array.getElem?_eq_some_iff.1 hh).1
    subst hv
    refine ⟨some ⟨g, 0, none⟩, cap, rfl, rfl, .inr ⟨g, 0, rfl, hlt, fun j hj => ?_⟩⟩
    have e := h1.cellAt j (by omega)
    obtain ⟨a', cap', hv', hat'⟩ := (h4 j hj).2.at
    refine ⟨a', cap', ?_, hat'⟩
    rw [Nat.zero_add, e, atV_some (by omega), hv']

/-- A list of lists of nodes that came in. -/
def IsNodesS (w : World) (a : Option Addr) (len : Nat) (xss : List (List Nd)) : Prop := AtNN w a len xss ∧ len ≤ maxLen ∧ ∀ j, j < len → (nthL xss j).length ≤ maxLen
theorem sz_all {xss : List (List Nd)} {n : Nat} (h : szTo xss n ≤ 1048576) : ∀ j, j < n → (nthL xss j).length ≤ 1048576 := fun j hj => by
  have a1 := szTo_mono xss (show j + 1 ≤ n by omega)
  rw [szTo] at a1
  omega

section
open Go.ChangeShapes Go.WideShapes Go.Deep
variable {H : Type} {enc : TypeId × Value → H} {P : Program} {w : World} {base : Nat} {spare : Nat → Bool} {held : Bool}
theorem open_nodess {t s e : TypeId} {f0 f1 : Field} {fuel : Nat} {cs : List Value} {x : DataW H × List MemPlace} (hs : P.underlying t = some (.slice s)) (ht : P.underlying s = some (.slice e)) (he : P.underlying e = some (.struct #[f0, f1]))
    (h0 : P.underlying f0.type = some (.int .i64)) (h1 : P.underlying f1.type = some (.int .i64)) (hone : oneCellFields P #[f0, f1] = true) (hC : P.cellsOf e = 2) (hC1 : P.cellsOf s = 1) (h : DataW.trod enc P w base spare held fuel t cs = some x) :
    ∃ (a : Option Addr) (len cap : Nat) (xss : List (List Nd)), cs = [.slice a len cap] ∧ IsNodesS w a len xss := by
  rcases open_slice hs h with hz | ⟨a, len, cap, m, n, D, Pl, hcs, hb, hl, hm, hmm, hx, hi⟩
  · exact ⟨none, 0, 0, [], hz.1, ⟨rfl, .inl rfl⟩, by unfold maxLen; omega, fun j hj => absurd hj (by omega)⟩
  have hlm : len ≤ m := by rw [hmm]; split <;> omega
  have hcell : ∀ i, i < len → ∃ (a' : Option Addr) (cap' : Nat) (xs : List Nd), w.cell? (a.add i) = some (.slice a' xs.length cap') ∧ IsNodes w a' xs.length xs := by
    intro i hil
    obtain ⟨cs', hc, ht'⟩ := hi i (by omega)
    obtain ⟨a1, len1, cap1, xs, hcs1, hn1⟩ := open_nodes ht he h0 h1 hone hC ht'
    rw [hC1, Nat.mul_one] at hc
    subst hcs1
    obtain ⟨_, hcl, hat⟩ := World.cells?_some hc
    have a0 := hat 0 (by omega)
    rw [Go.Deep.add_add, Nat.add_zero] at a0
    have hlen := hn1.1.1
    subst hlen
    exact ⟨a1, cap1, xs, a0, hn1⟩
  have hx : ∃ xss : List (List Nd), xss.length = len ∧ ∀ i, i < len → ∃ (a' : Option Addr) (cap' : Nat), w.cell? (a.add i) = some (.slice a' (nthL xss i).length cap') ∧ IsNodes w a' (nthL xss i).length (nthL xss i) := by
    clear hx hi hcs hb hl hm hmm hlm
    induction len with
    | zero => exact ⟨[], rfl, fun i h => absurd h (by omega)⟩
    | succ len ih =>
      obtain ⟨xss, hxl, hxs⟩ := ih (fun i hi => hcell i (by omega))
      obtain ⟨a', cap', xs, hk, hn⟩ := hcell len (by omega)
      refine ⟨xss ++ [xs], by simp [hxl], fun i hi => ?_⟩
      by_cases e : i = len
      · subst e
        have e1 : nthL (xss ++ [xs]) i = xs := by unfold nthL; simp [List.getD, ← hxl]
        rw [e1]
        exact ⟨a', cap', hk, hn⟩
      · have hil : i < xss.length := by omega
        have e1 : nthL (xss ++ [xs]) i = nthL xss i := by unfold nthL; simp [List.getD, List.getElem?_append_left hil]
        rw [e1]
        exact hxs i (by omega)
  obtain ⟨xss, hxl, hxs⟩ := hx
  refine ⟨some a, len, cap, xss, hcs, ⟨hxl.symm, ?_⟩, by omega, fun j hj => ?_⟩
  · by_cases hz : len = 0
    · exact .inl hz
    · right
      obtain ⟨a', cap', hc, -⟩ := hxs 0 (by omega)
      obtain ⟨b, off, spot⟩ := a
      have hspot : spot = none := by simpa [Addr.add] using World.cell?_spot hc
      subst hspot
      have hadd : ∀ j, (⟨b, off, none⟩ : Addr).add j = ⟨b, off + j, none⟩ := fun j => by unfold Addr.add; split <;> simp_all
      refine ⟨b, off, rfl, ?_, fun j hj => ?_⟩
      · rw [hadd] at hc; exact World.block_lt_of_cell? w _ hc
      · obtain ⟨a', cap', h2, h3⟩ := hxs j hj
        rw [hadd] at h2
        exact ⟨a', cap', h2, h3.1⟩
  · obtain ⟨a', cap', -, h3⟩ := hxs j hj
    exact h3.2
end

end Go.Proofs.Ytnenooifacbcfaa

/- Rows that a call owns: what stays when another block turns, told by the blocks' types; an append to a row of slices. Conditions: those in the theorems. -/
namespace Go.Proofs.Ytnenooifacbcfaa
open Go.RowKit

theorem wp_appL {o : Oper} {a : Act} {w : World} {K : Act → World → Prop} {Q : Exit → Act → World → Prop} (s x : Operand)
    (ho : o.op = .call { callee := .builtin .append, args := #[s, x], argTypes := #[46, 46] })
    (B : Nat) (v : Value) (n : Nat) (xs : List Value) (hs : a.eval s = v) (hown : w.ownsRow B 25 1 v n xs)
    (ad : Addr) (c : Nat) (z : Value) (hx : a.eval x = .slice (some ad) 1 c) (hz : w.cell? ad = some z) (h1 : z.oneCell' = true) (hn : n ≤ 1099511627776) (hB : B ≤ w.heap.size)
    (h : ∀ v' w', w'.ownsRow B 25 1 v' (n + 1) (xs ++ [z]) → w.grownBy w' v.ownBlock → K (a.put o.dst v') w') : o.wp Try.prog a w K Q := by
  obtain ⟨i0, hi, hz0, hz1, hz2⟩ := info_parts infoNN
  refine wp_append_own w s x 46 ho B 25 i0 (.slice none 0 0) 1 24 Try.underlying46 hi hz0 hz1 hz2 rfl (by decide) v n xs hs hown ad 1 c [z] hx rfl ?_ ?_ (by unfold maxLen; omega) (by omega) hB (fun v' w' h1 h2 _ => h v' w' h1 h2)
  · intro j u hu
    match j, hu with
    | 0, hu => simp at hu; subst hu; simpa [Addr.add] using hz
  · intro u hu
    simp at hu; subst hu; exact h1
theorem list_appL {ops : Array Oper} {rest : List Oper} {o : Oper} {a : Act} {w : World} {Q : Exit → Act → World → Prop} (hgd : o.guard = none) (s x : Operand)
    (ho : o.op = .call { callee := .builtin .append, args := #[s, x], argTypes := #[46, 46] })
    (B : Nat) (v : Value) (n : Nat) (xs : List Value) (hs : a.eval s = v) (hown : w.ownsRow B 25 1 v n xs)
    (ad : Addr) (c : Nat) (z : Value) (hx : a.eval x = .slice (some ad) 1 c) (hz : w.cell? ad = some z) (h1 : z.oneCell' = true) (hn : n ≤ 1099511627776) (hB : B ≤ w.heap.size)
    (h : ∀ v' w', w'.ownsRow B 25 1 v' (n + 1) (xs ++ [z]) → w.grownBy w' v.ownBlock → wpList Try.prog ops Q rest (a.put o.dst v') w') : wpList Try.prog ops Q (o :: rest) a w :=
  wpList_plain hgd fun _ hK => wp_appL s x ho B v n xs hs hown ad c z hx hz h1 hn hB fun v' w' h1 h2 => hK _ _ (h v' w' h1 h2)

end Go.Proofs.Ytnenooifacbcfaa

/- Contracts of the program's functions that make a formula of others, and of the model's. Conditions: those in the theorems. -/
namespace Go.Proofs.Ytnenooifacbcfaa
open Go.RowKit

set_option maxHeartbeats 400000 in
theorem joinNodes_any (k : Int) (xss : List (List Nd)) (a : Option Addr) (len cap : Nat) (w : World) (hl : len ≤ 1048576) (hs : szTo xss len ≤ 4194304) (hp : ∀ j, j < len → 0 < (nthL xss j).length) (h0 : 0 < len) (h : AtNN w a len xss) :
    Calls Try.prog 83 #[.int .i64 k, .slice a len cap] w fun e w' => ∃ v, e = .returned v ∧ OwnN w' w.heap.size v ((k, 0) :: catTo xss len) ∧ Below w.heap.size w w' := by
  have H := Lib.hid h
  have P := Lib.hid hp
  have S := Lib.hid hs
  clear h hp hs
  have b0 : Below w.heap.size w (w.alloc (.cells #[.int .i64 k, .int .i64 0] 56)) := (Below.refl _ _).alloc (Nat.le_refl _) _
  have B0 := Lib.hid b0
  clear b0
  go_enter Try.func83, Try.ntmps83
  go_wp2_with fail
  refine (concat_any xss a len cap _ hl (by have := S.out; omega) P.out h0 (H.out.keep B0.out (Nat.le_refl _))).mono ?_
  rintro e w1 ⟨v1, rfl, ho1, hb1⟩
  obtain ⟨a1, c1, rfl, at1, -, -, -⟩ := ho1.at
  have hpos : 0 < (catTo xss len).length := by
    have h1 := P.out 0 h0
    have h2 := szTo_mono xss (show 1 ≤ len by omega)
    rw [catTo_len]
    simp only [szTo, Nat.zero_add] at h2
    omega
  have hsz : (catTo xss len).length ≤ 4194304 := by rw [catTo_len]; exact S.out
  have hlit : OwnN w1 w.heap.size (.slice (some ⟨w.heap.size, 0, none⟩) 1 1) [(k, 0)] := (litN w w.heap.size k 0 (Nat.le_refl _)).inn.below hb1 (Nat.le_refl _) |>.1
  have hb2 : Below w.heap.size w w1 := B0.out.trans (hb1.mono B0.out.size)
  have A1 := Lib.hid at1
  have B1 := Lib.hid hb2
  have L1 := Lib.hid hlit
  have HP := Lib.hid hpos
  have HS := Lib.hid hsz
  clear at1 hb1 hb2 hlit ho1 hpos hsz
  go_wp2_with (at_builtin; refine list_appN rfl _ _ rfl w.heap.size _ [(k, 0)] rfl L1.out (catTo xss len) a1 _ c1 rfl A1.out HP.out (by have := HS.out; simp; omega) B1.out.size ?_)
  intro v2 w2 ho2 hg2
  have b2 := below_appN B1.out (Below.refl _ _) B1.out.size L1.out hg2
  have B2 := Lib.hid b2
  have O2 := Lib.hid ho2
  clear b2 ho2 hg2
  go_wp2
  go_ret
  exact ⟨_, rfl, O2.out, B2.out⟩

theorem falseNodes_any (w : World) : Calls Try.prog 57 #[] w fun e w' => ∃ v, e = .returned v ∧ OwnN w' w.heap.size v [(1, 0)] ∧ Below w.heap.size w w' := by
  go_enter Try.func57, Try.ntmps57
  go_wp2
  go_ret
  exact ⟨_, rfl, litN w _ 1 0 (Nat.le_refl _), (Below.refl _ _).alloc (Nat.le_refl _) _⟩

/-- One list, or two, laid by a call with several arguments. -/
theorem lay1 {w : World} {C : Nat} {a : Option Addr} {len cap : Nat} {xs : List Nd} (h : AtN w a len xs) (t : TypeId) (hC : C = w.heap.size) : AtNN (w.alloc (.cells #[.slice a len cap] t)) (some ⟨C, 0, none⟩) 1 [xs] := by
  subst hC
  refine ⟨rfl, .inr ⟨w.heap.size, 0, rfl, by simp, fun j hj => ?_⟩⟩
  obtain rfl : j = 0 := by omega
  have hl := h.1
  refine ⟨a, cap, ?_, ?_⟩
  · rw [show (nthL [xs] 0).length = len from hl.symm]
    exact World.cell?_alloc_at _ _ _ _ rfl
  · rw [show (nthL [xs] 0).length = len from hl.symm]
    exact h.keep ((Below.refl _ _).alloc (Nat.le_refl _) _) (Nat.le_refl _)
theorem lay2 {w : World} {C : Nat} {a a' : Option Addr} {len cap len' cap' : Nat} {xs ys : List Nd} (h : AtN w a len xs) (h' : AtN w a' len' ys) (t : TypeId) (hC : C = w.heap.size) : AtNN (w.alloc (.cells #[.slice a len cap, .slice a' len' cap'] t)) (some ⟨C, 0, none⟩) 2 [xs, ys] := by
  subst hC
  refine ⟨rfl, .inr ⟨w.heap.size, 0, rfl, by simp, fun j hj => ?_⟩⟩
  have hl := h.1
  have hl' := h'.1
  have hj2 : j = 0 ∨ j = 1 := by omega
  rcases hj2 with rfl | rfl
  · refine ⟨a, cap, ?_, ?_⟩
    · rw [show (nthL [xs, ys] 0).length = len from hl.symm]
      exact World.cell?_alloc_at _ _ _ _ rfl
    · rw [show (nthL [xs, ys] 0).length = len from hl.symm]
      exact h.keep ((Below.refl _ _).alloc (Nat.le_refl _) _) (Nat.le_refl _)
  · refine ⟨a', cap', ?_, ?_⟩
    · rw [show (nthL [xs, ys] 1).length = len' from hl'.symm]
      exact World.cell?_alloc_at _ _ _ _ rfl
    · rw [show (nthL [xs, ys] 1).length = len' from hl'.symm]
      exact h'.keep ((Below.refl _ _).alloc (Nat.le_refl _) _) (Nat.le_refl _)

/-- Two parts joined by the program. -/
theorem join2_any (k : Int) (xs ys : List Nd) (a a' : Option Addr) (len len' cap cap' C : Nat) (w : World) (hl : len + len' ≤ 1048576) (hp : 0 < len) (hp' : 0 < len') (h : AtN w a len xs) (h' : AtN w a' len' ys) (t : TypeId) (hC : C = w.heap.size) :
    Calls Try.prog 83 #[.int .i64 k, .slice (some ⟨C, 0, none⟩) 2 2] (w.alloc (.cells #[.slice a len cap, .slice a' len' cap'] t)) fun e w' => ∃ v, e = .returned v ∧ OwnN w' w.heap.size v ((k, 0) :: (xs ++ ys)) ∧ Below w.heap.size w w' := by
  have hl1 := h.1
  have hl2 := h'.1
  refine (joinNodes_any k [xs, ys] _ 2 2 _ (by omega) (by simp [szTo, nthL]; omega) ?_ (by omega) (lay2 h h' t hC)).mono ?_
  · intro j hj
    have hj2 : j = 0 ∨ j = 1 := by omega
    rcases hj2 with rfl | rfl
    · show 0 < xs.length; omega
    · show 0 < ys.length; omega
  · rintro e w' ⟨v, rfl, ho, hb⟩
    refine ⟨v, rfl, ?_, ((Below.refl _ _).alloc (Nat.le_refl _) _).trans (hb.mono (by simp))⟩
    have := ho.mono (B' := w.heap.size) (by simp)
    simpa [catTo, nthL] using this
theorem join1_any (k : Int) (xs : List Nd) (a : Option Addr) (len cap C : Nat) (w : World) (hl : len ≤ 1048576) (hp : 0 < len) (h : AtN w a len xs) (t : TypeId) (hC : C = w.heap.size) :
    Calls Try.prog 83 #[.int .i64 k, .slice (some ⟨C, 0, none⟩) 1 1] (w.alloc (.cells #[.slice a len cap] t)) fun e w' => ∃ v, e = .returned v ∧ OwnN w' w.heap.size v ((k, 0) :: xs) ∧ Below w.heap.size w w' := by
  have hl1 := h.1
  refine (joinNodes_any k [xs] _ 1 1 _ (by omega) (by simp [szTo, nthL]; omega) ?_ (by omega) (lay1 h t hC)).mono ?_
  · intro j hj
    obtain rfl : j = 0 := by omega
    show 0 < xs.length
    omega
  · rintro e w' ⟨v, rfl, ho, hb⟩
    refine ⟨v, rfl, ?_, ((Below.refl _ _).alloc (Nat.le_refl _) _).trans (hb.mono (by simp))⟩
    have := ho.mono (B' := w.heap.size) (by simp)
    simpa [catTo, nthL] using this

set_option maxHeartbeats 400000 in
theorem notNodes_any (xs : List Nd) (a : Option Addr) (len cap : Nat) (w : World) (hl : len ≤ 1048575) (hp : 0 < len) (h : AtN w a len xs) :
    Calls Try.prog 58 #[.slice a len cap] w fun e w' => ∃ v, e = .returned v ∧ OwnN w' w.heap.size v ((4, 0) :: (xs ++ [(1, 0)])) ∧ Below w.heap.size w w' := by
  have H := Lib.hid h
  clear h
  go_enter Try.func58, Try.ntmps58
  go_wp2_with fail
  refine (falseNodes_any _).mono ?_
  rintro e w1 ⟨v1, rfl, ho1, hb1⟩
  obtain ⟨a1, c1, rfl, at1, -, -, -⟩ := ho1.at
  have B1 := Lib.hid hb1
  have A1 := Lib.hid at1
  clear hb1 ho1 at1
  go_wp2_with fail
  refine (join2_any 4 xs [(1, 0)] a a1 len 1 cap c1 _ w1 (by omega) hp (by omega) (H.out.keep B1.out (Nat.le_refl _)) A1.out _ rfl).mono ?_
  rintro e w2 ⟨v2, rfl, ho2, hb2⟩
  have B2 := Lib.hid (B1.out.trans (hb2.mono B1.out.size))
  have O2 := Lib.hid (ho2.mono B1.out.size)
  clear hb2 ho2
  go_wp2
  go_ret
  exact ⟨_, rfl, O2.out, B2.out⟩

end Go.Proofs.Ytnenooifacbcfaa
