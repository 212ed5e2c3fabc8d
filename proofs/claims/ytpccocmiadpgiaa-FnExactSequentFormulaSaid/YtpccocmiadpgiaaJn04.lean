/- 3 texts in one: Concat, ListN, Row. -/
import Derived.Lib.AppendZerosOnto
import Derived.Test.YtpccocmiadpgiaaJn02
import Derived.Test.YtpccocmiadpgiaaJn05
/- Contracts of slices.Grow and slices.Concat at lists of nodes, and of the program's functions that put lists of nodes together. Conditions: those in the theorems. -/
namespace Go.Proofs.Ytpccocmiadpgiaa
open Go.RowKit

theorem list_appZ {ops : Array Oper} {rest : List Oper} {o : Oper} {a : Act} {w : World} {Q : Exit → Act → World → Prop} (hgd : o.guard = none) (s x : Operand)
    (ho : o.op = .call { callee := .builtin .append, args := #[s, x], argTypes := #[32, 3] })
    (n : Nat) (hs : a.eval s = .slice none 0 0) (hx : a.eval x = .int .i64 n) (hn : 0 < n) (hn2 : n ≤ 8388608)
    (h : ∀ (cap : Nat) (cs : Array Value), n ≤ cap → cap ≤ maxLen → cs.size = cap * 2 → wpList Try.prog ops Q rest (a.put o.dst (.slice (some ⟨w.heap.size, 0, none⟩) n cap)) (w.drew.alloc (.cells cs 55))) : wpList Try.prog ops Q (o :: rest) a w := by
  obtain ⟨i0, hi, hz0, hz1, hz2⟩ := info_parts infoNd
  refine wpList_plain hgd fun K hK => ?_
  have hr := Lib.run_append_grow_zeros (P := Try.prog) w 32 3 o.type 55 i0 (.agg #[.int .i64 0, .int .i64 0]) .i64 .i64 Try.underlying32 Try.underlying3 hi hz0 none 0 0 [] (run_firstCells_none w.drew i0.size 0 0 0) n hn (by omega) (by omega) (by omega) (by rw [hz2]; omega)
    (growslice_fits (by omega) (by rw [hz2]; omega))
  simp only [Nat.zero_add] at hr
  unfold Oper.wp execOp
  simp only [ho, resolve, invoke, builtin, Sem.run_bind, Sem.run_pure, Result.andThen_ok, List.map_toArray, List.map_cons, List.map_nil, hs, hx, hr]
  have hg := grownCap_ge w n 0 55
  refine hK _ _ (h _ _ hg (grownCap_le_maxLen w n 0 _ (by unfold maxLen; omega)) ?_)
  have e : (Value.agg #[Value.int .i64 0, Value.int .i64 0]).cells.size = 2 := rfl
  rw [Array.size_append, Array.size_append, size_zeroCells, size_zeroCells, e]
  simp
  omega

set_option maxHeartbeats 400000 in
theorem grow_any (n : Nat) (w : World) (hn : 0 < n) (hn2 : n ≤ 8388608) :
    Calls Try.prog 57 #[.slice none 0 0, .int .i64 n] w fun e w' => ∃ v, e = .returned v ∧ OwnN w' w.heap.size v [] ∧ Below w.heap.size w w' := by
  go_enter Try.func57, Try.ntmps57
  go_wp2_with (at_builtin; refine list_appZ rfl _ _ rfl n rfl rfl hn hn2 ?_)
  intro cap cs h1 h2 h3
  go_wp2
  go_ret
  exact ⟨_, rfl, World.ownsRow_made w.drew cs cap (Nat.le_refl _) h2 h3, ((Below.refl _ _).drew).alloc (Nat.le_refl _) _⟩

def nthL (xss : List (List Nd)) (j : Nat) : List Nd := xss.getD j []
/-- A list of lists of nodes in memory. -/
def AtNN (w : World) (a : Option Addr) (len : Nat) (xss : List (List Nd)) : Prop :=
  len = xss.length ∧ (len = 0 ∨ ∃ b off, a = some ⟨b, off, none⟩ ∧ b < w.heap.size ∧ ∀ j, j < len → ∃ a' cap', w.cell? ⟨b, off + j, none⟩ = some (.slice a' (nthL xss j).length cap') ∧ AtN w a' (nthL xss j).length (nthL xss j))
theorem AtNN.keep {w w' : World} {C : Nat} {a : Option Addr} {len : Nat} {xss : List (List Nd)} (h : AtNN w a len xss) (hb : Below C w w') (hC : w.heap.size ≤ C) : AtNN w' a len xss := by
  refine ⟨h.1, ?_⟩
  rcases h.2 with h2 | ⟨b, off, ha, hlt, hc⟩
  · exact .inl h2
  · refine .inr ⟨b, off, ha, Nat.lt_of_lt_of_le hlt hb.size, fun j hj => ?_⟩
    obtain ⟨a', cap', h3, h4⟩ := hc j hj
    exact ⟨a', cap', (hb.cell (p := ⟨b, off + j, none⟩) (by show b < C; omega)).trans h3, h4.keep hb hC⟩
/-- How many nodes the first k lists have together. -/
def szTo (xss : List (List Nd)) : Nat → Nat
  | 0 => 0
  | k + 1 => szTo xss k + (nthL xss k).length
def catTo (xss : List (List Nd)) : Nat → List Nd
  | 0 => []
  | k + 1 => catTo xss k ++ nthL xss k
theorem catTo_len (xss : List (List Nd)) (k : Nat) : (catTo xss k).length = szTo xss k := by
  induction k with
  | zero => rfl
  | succ k ih => rw [catTo, szTo, List.length_append, ih]
theorem szTo_mono (xss : List (List Nd)) {k l : Nat} (h : k ≤ l) : szTo xss k ≤ szTo xss l := by
  induction l with
  | zero => have : k = 0 := by omega
            subst this; exact Nat.le_refl _
  | succ l ih =>
    by_cases e : k = l + 1
    · subst e; exact Nat.le_refl _
    · have := ih (by omega); rw [szTo]; omega
theorem catTo_cons (x : List Nd) (xss : List (List Nd)) (k : Nat) : catTo (x :: xss) (k + 1) = x ++ catTo xss k := by
  induction k with
  | zero => simp [catTo, nthL]
  | succ k ih => rw [catTo, ih, catTo, List.append_assoc]; rfl
theorem catTo_all (xss : List (List Nd)) : catTo xss xss.length = xss.flatten := by
  induction xss with
  | nil => rfl
  | cons x xss ih => rw [List.length_cons, catTo_cons, ih]; rfl

set_option maxHeartbeats 1000000 in
theorem concat_any2 (xss : List (List Nd)) (a : Option Addr) (len cap : Nat) (w : World) (hl : len ≤ 2097152) (hs : szTo xss len ≤ 6291456) (hp : ∀ j, j < len → 0 < (nthL xss j).length) (h0 : 0 < len) (h : AtNN w a len xss) :
    Calls Try.prog 48 #[.slice a len cap] w fun e w' => ∃ v, e = .returned v ∧ OwnN w' w.heap.size v (catTo xss len) ∧ Below w.heap.size w w' := by
  have H := Lib.hid h
  have P := Lib.hid hp
  have S := Lib.hid hs
  clear h hp hs
  go_enter Try.func48, Try.ntmps48
  go_wp2
  go_loop [3, 11] (fun s i => ∃ k z : Nat, k ≤ len ∧ z ≤ 6291456 ∧ i = .int .i64 k ∧ s = .int .i64 z ∧ z = szTo xss k) (fun _ i => len - (intOf i).toNat)
  case atStart => exact ⟨0, 0, Nat.zero_le _, by omega, rfl, rfl, rfl⟩
  case round =>
    obtain ⟨k, z, hk, hz, rfl, rfl, hzz⟩ := hrel
    have Z := Lib.hid hzz
    clear hzz
    by_cases hlt : k < len
    · obtain ⟨b, off, rfl, hb, hc⟩ := H.out.2.resolve_left (by omega)
      obtain ⟨a1, cap1, hc1, -⟩ := hc k hlt
      clear hc
      obtain ⟨n, hn⟩ : ∃ n, n = (nthL xss k).length := ⟨_, rfl⟩
      rw [← hn] at hc1
      have hn2 : z + n = szTo xss (k + 1) := by rw [szTo, Z.out, hn]
      have hn3 : z + n ≤ 6291456 := by rw [hn2]; exact Nat.le_trans (szTo_mono xss hlt) S.out
      have N2 := Lib.hid hn2
      clear hn hn2
      go_wp2
      go_round
      case rel => exact ⟨k + 1, z + n, hlt, hn3, by go_num, by go_num, N2.out⟩
      case measure => simp [intOf]; omega
    · obtain rfl : k = len := by omega
      have hz0 : 0 < z := by
        have := P.out 0 h0
        have h2 := szTo_mono xss (show 1 ≤ k by omega)
        rw [Z.out]
        simp only [szTo, Nat.zero_add] at h2
        omega
      go_wp2_with fail
      refine (grow_any z _ hz0 (by omega)).mono ?_
      rintro e w1 ⟨v1, rfl, ho1, hb1⟩
      have O1 := Lib.hid ho1
      have B1 := Lib.hid hb1
      clear ho1 hb1
      go_wp2
      go_loopw [6, 27] (fun v i wr => ∃ j : Nat, j ≤ k ∧ i = .int .i64 j ∧ OwnN wr w.heap.size v (catTo xss j) ∧ Below w.heap.size w wr) (fun _ i _ => k - (intOf i).toNat)
      case atStart => exact ⟨0, Nat.zero_le _, rfl, O1.out, B1.out⟩
      case round =>
        obtain ⟨j, hj, rfl, hown, hbel⟩ := hrel
        have O := Lib.hid hown
        have B := Lib.hid hbel
        clear hown hbel
        by_cases hlt2 : j < k
        · obtain ⟨b, off, rfl, hb, hc⟩ := H.out.2.resolve_left (by omega)
          obtain ⟨a1, cap1, hc1, hat1⟩ := hc j hlt2
          have hc2 : wr.cell? ⟨b, off + j, none⟩ = some (.slice a1 (nthL xss j).length cap1) := (B.out.cell (p := ⟨b, off + j, none⟩) hb).trans hc1
          clear hc hc1
          have A1 := Lib.hid (hat1.keep B.out (Nat.le_refl _))
          clear hat1
          have hn0 := P.out j hlt2
          have hlen : (catTo xss j).length + (nthL xss j).length ≤ 8388608 := by
            have h1 := catTo_len xss (j + 1)
            rw [catTo, List.length_append] at h1
            have h2 := szTo_mono xss (show j + 1 ≤ k by omega)
            have := S.out
            omega
          have LN := Lib.hid hlen
          have N0 := Lib.hid hn0
          clear hlen hn0
          go_wp2_with (at_builtin; refine list_appN rfl _ _ rfl w.heap.size _ (catTo xss j) rfl O.out (nthL xss j) a1 _ cap1 rfl A1.out N0.out LN.out B.out.size ?_)
          intro v2 w2 ho2 hg2
          have b2 := below_appN B.out (Below.refl _ _) B.out.size O.out hg2
          have B2 := Lib.hid b2
          have O2 := Lib.hid ho2
          clear b2 ho2 hg2
          go_wp2
          go_roundw
          case rel => exact ⟨j + 1, hlt2, by go_num, O2.out, B2.out⟩
          case measure => simp [intOf]; omega
        · obtain rfl : j = k := by omega
          go_wp2
          go_ret
          exact ⟨_, rfl, O.out, B.out⟩


theorem concat_any (xss : List (List Nd)) (a : Option Addr) (len cap : Nat) (w : World) (hl : len ≤ 1048576) (hs : szTo xss len ≤ 6291456) (hp : ∀ j, j < len → 0 < (nthL xss j).length) (h0 : 0 < len) (h : AtNN w a len xss) :
    Calls Try.prog 48 #[.slice a len cap] w fun e w' => ∃ v, e = .returned v ∧ OwnN w' w.heap.size v (catTo xss len) ∧ Below w.heap.size w w' := concat_any2 xss a len cap w (by omega) hs hp h0 h

end Go.Proofs.Ytpccocmiadpgiaa

/- Lists of lists of nodes that a call owns: the contracts of size, copy, compare and mark over them. Conditions: those in the theorems. -/
namespace Go.Proofs.Ytpccocmiadpgiaa
open Go.RowKit

theorem infoNN : (Try.prog.info? 32).map (fun i => (i.zero, i.size, i.bytes)) = some (some (.slice none 0 0), 1, 24) := by kernel_rfl

theorem InN.within {w w' : World} {lo hi lo' hi' : Nat} {v : Value} {xs : List Nd} (h : InN w lo hi v xs) (hw : Within lo' hi' w w') (hd : hi ≤ lo' ∨ hi' ≤ lo) : InN w' lo hi v xs := by
  refine ⟨⟨h.1.1, ?_⟩, Nat.le_trans h.2.1 hw.size, h.2.2⟩
  rcases h.1.2 with h2 | ⟨g, cap, cur, hv, hg, hh, r⟩
  · exact .inl h2
  · have hlt := h.2.2 g (by rw [hv]; rfl)
    have := h.2.1
    exact .inr ⟨g, cap, cur, hv, hg, by rw [hw.block g (by omega) (by omega)]; exact hh, r⟩

/-- The slice value v is the call's own, its blocks lie in lo .. hi - 1, no two lists share one, and it holds the lists xss. -/
def InNN (w : World) (lo hi : Nat) (v : Value) (xss : List (List Nd)) : Prop :=
  ∃ (vs : List Value) (p : Nat → Nat), w.ownsRow lo 32 1 v xss.length vs ∧ (∀ k, v.ownBlock = some k → lo ≤ k ∧ k < p 0) ∧ lo ≤ p 0 ∧
    (∀ j, j < xss.length → p j ≤ p (j + 1) ∧ InN w (p j) (p (j + 1)) (atV vs j) (nthL xss j)) ∧ p xss.length ≤ hi ∧ hi ≤ w.heap.size
theorem InNN.below {w w' : World} {lo hi C : Nat} {v : Value} {xss : List (List Nd)} (h : InNN w lo hi v xss) (hb : Below C w w') (hC : hi ≤ C) : InNN w' lo hi v xss := by
  obtain ⟨vs, p, h1, h2, h3, h4, h5, h6⟩ := h
  have hm : ∀ i j, i ≤ j → j ≤ xss.length → p i ≤ p j := fun i j => mono_to (fun j hj => (h4 j hj).1)
  have h0 := hm 0 xss.length (Nat.zero_le _) (Nat.le_refl _)
  refine ⟨vs, p, ownsRow_below h1 (fun k hk => by have := h2 k hk; omega) hb, h2, h3, fun j hj => ⟨(h4 j hj).1, (h4 j hj).2.below hb ?_⟩, h5, Nat.le_trans h6 hb.size⟩
  have := hm (j + 1) xss.length (by omega) (Nat.le_refl _)
  omega
theorem InNN.size {w : World} {lo hi : Nat} {v : Value} {xss : List (List Nd)} (h : InNN w lo hi v xss) : lo ≤ hi ∧ hi ≤ w.heap.size := by
  obtain ⟨vs, p, h1, h2, h3, h4, h5, h6⟩ := h
  have := mono_to (fun j hj => (h4 j hj).1) (Nat.zero_le xss.length) (Nat.le_refl _)
  exact ⟨by omega, h6⟩
theorem InNN.at {w : World} {lo hi : Nat} {v : Value} {xss : List (List Nd)} (h : InNN w lo hi v xss) : ∃ a cap, v = .slice a xss.length cap ∧ AtNN w a xss.length xss := by
  obtain ⟨vs, p, h1, h2, h3, h4, h5, h6⟩ := h
  have hl := h1.1
  rcases h1.2 with ⟨hv, hn⟩ | ⟨g, cap, cur, hv, hg, hh, hc, hm, hs, ht⟩
  · exact ⟨none, 0, by rw [hv, hn], rfl, .inl hn⟩
  · have hlt : g < w.heap.size := (Array.getElem?_eq_some_iff.1 hh).1
    subst hv
    refine ⟨some ⟨g, 0, none⟩, cap, rfl, rfl, .inr ⟨g, 0, rfl, hlt, fun j hj => ?_⟩⟩
    have e := h1.cellAt j (by omega)
    obtain ⟨a', cap', hv', hat'⟩ := (h4 j hj).2.at
    refine ⟨a', cap', ?_, hat'⟩
    rw [Nat.zero_add, e, atV_some (by omega), hv']

/-- A list of lists of nodes that came in. -/
def IsNodesS (w : World) (a : Option Addr) (len : Nat) (xss : List (List Nd)) : Prop := AtNN w a len xss ∧ len ≤ maxLen ∧ ∀ j, j < len → (nthL xss j).length ≤ maxLen
theorem sz_all {xss : List (List Nd)} {n : Nat} (h : szTo xss n ≤ 1048576) : ∀ j, j < n → (nthL xss j).length ≤ 1048576 := fun j hj => by
  have a1 := szTo_mono xss (show j + 1 ≤ n by omega)
  rw [szTo] at a1
  omega

section
open Go.ChangeShapes Go.WideShapes Go.Deep
variable {H : Type} {enc : TypeId × Value → H} {P : Program} {w : World} {base : Nat} {spare : Nat → Bool} {held : Bool}
theorem open_nodess {t s e : TypeId} {f0 f1 : Field} {fuel : Nat} {cs : List Value} {x : DataW H × List MemPlace} (hs : P.underlying t = some (.slice s)) (ht : P.underlying s = some (.slice e)) (he : P.underlying e = some (.struct #[f0, f1]))
    (h0 : P.underlying f0.type = some (.int .i64)) (h1 : P.underlying f1.type = some (.int .i64)) (hone : oneCellFields P #[f0, f1] = true) (hC : P.cellsOf e = 2) (hC1 : P.cellsOf s = 1) (h : DataW.trod enc P w base spare held fuel t cs = some x) :
    ∃ (a : Option Addr) (len cap : Nat) (xss : List (List Nd)), cs = [.slice a len cap] ∧ IsNodesS w a len xss := by
  rcases open_slice hs h with hz | ⟨a, len, cap, m, n, D, Pl, hcs, hb, hl, hm, hmm, hx, hi⟩
  · exact ⟨none, 0, 0, [], hz.1, ⟨rfl, .inl rfl⟩, by unfold maxLen; omega, fun j hj => absurd hj (by omega)⟩
  have hlm : len ≤ m := by rw [hmm]; split <;> omega
  have hcell : ∀ i, i < len → ∃ (a' : Option Addr) (cap' : Nat) (xs : List Nd), w.cell? (a.add i) = some (.slice a' xs.length cap') ∧ IsNodes w a' xs.length xs := by
    intro i hil
    obtain ⟨cs', hc, ht'⟩ := hi i (by omega)
    obtain ⟨a1, len1, cap1, xs, hcs1, hn1⟩ := open_nodes ht he h0 h1 hone hC ht'
    rw [hC1, Nat.mul_one] at hc
    subst hcs1
    obtain ⟨_, hcl, hat⟩ := World.cells?_some hc
    have a0 := hat 0 (by omega)
    rw [Go.Deep.add_add, Nat.add_zero] at a0
    have hlen := hn1.1.1
    subst hlen
    exact ⟨a1, cap1, xs, a0, hn1⟩
  have hx : ∃ xss : List (List Nd), xss.length = len ∧ ∀ i, i < len → ∃ (a' : Option Addr) (cap' : Nat), w.cell? (a.add i) = some (.slice a' (nthL xss i).length cap') ∧ IsNodes w a' (nthL xss i).length (nthL xss i) := by
    clear hx hi hcs hb hl hm hmm hlm
    induction len with
    | zero => exact ⟨[], rfl, fun i h => absurd h (by omega)⟩
    | succ len ih =>
      obtain ⟨xss, hxl, hxs⟩ := ih (fun i hi => hcell i (by omega))
      obtain ⟨a', cap', xs, hk, hn⟩ := hcell len (by omega)
      refine ⟨xss ++ [xs], by simp [hxl], fun i hi => ?_⟩
      by_cases e : i = len
      · subst e
        have e1 : nthL (xss ++ [xs]) i = xs := by unfold nthL; simp [List.getD, ← hxl]
        rw [e1]
        exact ⟨a', cap', hk, hn⟩
      · have hil : i < xss.length := by omega
        have e1 : nthL (xss ++ [xs]) i = nthL xss i := by unfold nthL; simp [List.getD, List.getElem?_append_left hil]
        rw [e1]
        exact hxs i (by omega)
  obtain ⟨xss, hxl, hxs⟩ := hx
  refine ⟨some a, len, cap, xss, hcs, ⟨hxl.symm, ?_⟩, by omega, fun j hj => ?_⟩
  · by_cases hz : len = 0
    · exact .inl hz
    · right
      obtain ⟨a', cap', hc, -⟩ := hxs 0 (by omega)
      obtain ⟨b, off, spot⟩ := a
      have hspot : spot = none := by simpa [Addr.add] using World.cell?_spot hc
      subst hspot
      have hadd : ∀ j, (⟨b, off, none⟩ : Addr).add j = ⟨b, off + j, none⟩ := fun j => by unfold Addr.add; split <;> simp_all
      refine ⟨b, off, rfl, ?_, fun j hj => ?_⟩
      · rw [hadd] at hc; exact World.block_lt_of_cell? w _ hc
      · obtain ⟨a', cap', h2, h3⟩ := hxs j hj
        rw [hadd] at h2
        exact ⟨a', cap', h2, h3.1⟩
  · obtain ⟨a', cap', -, h3⟩ := hxs j hj
    exact h3.2
end

end Go.Proofs.Ytpccocmiadpgiaa

/- Rows that a call owns: what stays when another block turns, told by the blocks' types; an append to a row of slices. Conditions: those in the theorems. -/
namespace Go.Proofs.Ytpccocmiadpgiaa
open Go.RowKit

theorem wp_appL {o : Oper} {a : Act} {w : World} {K : Act → World → Prop} {Q : Exit → Act → World → Prop} (s x : Operand)
    (ho : o.op = .call { callee := .builtin .append, args := #[s, x], argTypes := #[50, 50] })
    (B : Nat) (v : Value) (n : Nat) (xs : List Value) (hs : a.eval s = v) (hown : w.ownsRow B 32 1 v n xs)
    (ad : Addr) (c : Nat) (z : Value) (hx : a.eval x = .slice (some ad) 1 c) (hz : w.cell? ad = some z) (h1 : z.oneCell' = true) (hn : n ≤ 1099511627776) (hB : B ≤ w.heap.size)
    (h : ∀ v' w', w'.ownsRow B 32 1 v' (n + 1) (xs ++ [z]) → w.grownBy w' v.ownBlock → K (a.put o.dst v') w') : o.wp Try.prog a w K Q := by
  obtain ⟨i0, hi, hz0, hz1, hz2⟩ := info_parts infoNN
  refine wp_append_own w s x 50 ho B 32 i0 (.slice none 0 0) 1 24 Try.underlying50 hi hz0 hz1 hz2 rfl (by decide) v n xs hs hown ad 1 c [z] hx rfl ?_ ?_ (by unfold maxLen; omega) (by omega) hB (fun v' w' h1 h2 _ => h v' w' h1 h2)
  · intro j u hu
    match j, hu with
    | 0, hu => simp at hu; subst hu; simpa [Addr.add] using hz
  · intro u hu
    simp at hu; subst hu; exact h1
theorem list_appL {ops : Array Oper} {rest : List Oper} {o : Oper} {a : Act} {w : World} {Q : Exit → Act → World → Prop} (hgd : o.guard = none) (s x : Operand)
    (ho : o.op = .call { callee := .builtin .append, args := #[s, x], argTypes := #[50, 50] })
    (B : Nat) (v : Value) (n : Nat) (xs : List Value) (hs : a.eval s = v) (hown : w.ownsRow B 32 1 v n xs)
    (ad : Addr) (c : Nat) (z : Value) (hx : a.eval x = .slice (some ad) 1 c) (hz : w.cell? ad = some z) (h1 : z.oneCell' = true) (hn : n ≤ 1099511627776) (hB : B ≤ w.heap.size)
    (h : ∀ v' w', w'.ownsRow B 32 1 v' (n + 1) (xs ++ [z]) → w.grownBy w' v.ownBlock → wpList Try.prog ops Q rest (a.put o.dst v') w') : wpList Try.prog ops Q (o :: rest) a w :=
  wpList_plain hgd fun _ hK => wp_appL s x ho B v n xs hs hown ad c z hx hz h1 hn hB fun v' w' h1 h2 => hK _ _ (h v' w' h1 h2)

end Go.Proofs.Ytpccocmiadpgiaa
