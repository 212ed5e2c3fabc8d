/- Lists of lists of nodes that a call owns: the contracts of size, copy, compare and mark over them. Conditions: those in the theorems. -/
import Derived.Test.YtnoaaklkbfbdbaaConcat
import Derived.Test.YtnoaaklkbfbdbaaJn02
namespace Go.Proofs.Ytnoaaklkbfbdbaa
open Go.RowKit

theorem infoNN : (Try.prog.info? 32).map (fun i => (i.zero, i.size, i.bytes)) = some (some (.slice none 0 0), 1, 24) := by kernel_rfl

theorem InN.within {w w' : World} {lo hi lo' hi' : Nat} {v : Value} {xs : List Nd} (h : InN w lo hi v xs) (hw : Within lo' hi' w w') (hd : hi ≤ lo' ∨ hi' ≤ lo) : InN w' lo hi v xs := by
  refine ⟨⟨h.1.1, ?_⟩, Nat.le_trans h.2.1 hw.size, h.2.2⟩
  rcases h.1.2 with h2 | ⟨g, cap, cur, hv, hg, hh, r⟩
  · exact .inl h2
  · have hlt := h.2.2 g (by rw [hv]; rfl)
    have := h.2.1
    exact .inr ⟨g, cap, cur, hv, hg, by rw [hw.block g (by omega) (by omega)]; exact hh, r⟩

/-- The slice value v is the call's own, its blocks lie in lo .. hi - 1, no two lists share one, and it holds the lists xss. -/
def InNN (w : World) (lo hi : Nat) (v : Value) (xss : List (List Nd)) : Prop :=
  ∃ (vs : List Value) (p : Nat → Nat), w.ownsRow lo 32 1 v xss.length vs ∧ (∀ k, v.ownBlock = some k → lo ≤ k ∧ k < p 0) ∧ lo ≤ p 0 ∧
    (∀ j, j < xss.length → p j ≤ p (j + 1) ∧ InN w (p j) (p (j + 1)) (atV vs j) (nthL xss j)) ∧ p xss.length ≤ hi ∧ hi ≤ w.heap.size
theorem InNN.below {w w' : World} {lo hi C : Nat} {v : Value} {xss : List (List Nd)} (h : InNN w lo hi v xss) (hb : Below C w w') (hC : hi ≤ C) : InNN w' lo hi v xss := by
  obtain ⟨vs, p, h1, h2, h3, h4, h5, h6⟩ := h
  have hm : ∀ i j, i ≤ j → j ≤ xss.length → p i ≤ p j := fun i j => mono_to (fun j hj => (h4 j hj).1)
  have h0 := hm 0 xss.length (Nat.zero_le _) (Nat.le_refl _)
  refine ⟨vs, p, ownsRow_below h1 (fun k hk => by have := h2 k hk; omega) hb, h2, h3, fun j hj => ⟨(h4 j hj).1, (h4 j hj).2.below hb ?_⟩, h5, Nat.le_trans h6 hb.size⟩
  have := hm (j + 1) xss.length (by omega) (Nat.le_refl _)
  omega
theorem InNN.size {w : World} {lo hi : Nat} {v : Value} {xss : List (List Nd)} (h : InNN w lo hi v xss) : lo ≤ hi ∧ hi ≤ w.heap.size := by
  obtain ⟨vs, p, h1, h2, h3, h4, h5, h6⟩ := h
  have := mono_to (fun j hj => (h4 j hj).1) (Nat.zero_le xss.length) (Nat.le_refl _)
  exact ⟨by omega, h6⟩
theorem InNN.at {w : World} {lo hi : Nat} {v : Value} {xss : List (List Nd)} (h : InNN w lo hi v xss) : ∃ a cap, v = .slice a xss.length cap ∧ AtNN w a xss.length xss := by
  obtain ⟨vs, p, h1, h2, h3, h4, h5, h6⟩ := h
  have hl := h1.1
  rcases h1.2 with ⟨hv, hn⟩ | ⟨g, cap, cur, hv, hg, hh, hc, hm, hs, ht⟩
  · exact ⟨none, 0, by rw [hv, hn], rfl, .inl hn⟩
  · have hlt : g < w.heap.size := (Array.getElem?_eq_some_iff.1 hh).1
    subst hv
    refine ⟨some ⟨g, 0, none⟩, cap, rfl, rfl, .inr ⟨g, 0, rfl, hlt, fun j hj => ?_⟩⟩
    have e := h1.cellAt j (by omega)
    obtain ⟨a', cap', hv', hat'⟩ := (h4 j hj).2.at
    refine ⟨a', cap', ?_, hat'⟩
    rw [Nat.zero_add, e, atV_some (by omega), hv']

set_option maxHeartbeats 400000 in
theorem szNodeSS_any (xss : List (List Nd)) (a : Option Addr) (len cap : Nat) (left : Int) (w : World) (hl : len ≤ maxLen) (h0 : 0 ≤ left) (h1 : left ≤ 1048576) (hi : ∀ j, j < len → (nthL xss j).length ≤ maxLen) (h : AtNN w a len xss) :
    Calls Try.prog 16 #[.slice a len cap, .int .i64 left] w fun e w' => ∃ r : Int, e = .returned (.int .i64 r) ∧ w = w' ∧ (r < 0 ∨ (0 ≤ r ∧ r = left - (len : Int) - (szTo xss len : Int))) := by
  unfold maxLen at hl hi
  have H := Lib.hid h
  have HI := Lib.hid hi
  clear h hi
  by_cases hb : left < (len : Int)
  · go_enter Try.func16, Try.ntmps16
    go_wp2
    go_ret
    exact ⟨-1, rfl, rfl, .inl (by omega)⟩
  · have hn : ¬ (left - (len : Int) < 0) := by omega
    have hw : IntKind.i64.wrap (left - (len : Int)) = left - (len : Int) := by rw [IntKind.wrap_i64]; omega
    go_enter Try.func16, Try.ntmps16
    go_wp2
    go_loop [1, 5] (fun c i => ∃ (k : Nat) (r : Int), k ≤ len ∧ i = .int .i64 k ∧ c = .int .i64 r ∧ 0 ≤ r ∧ r ≤ 1048576 ∧ Hid (r = left - (len : Int) - (szTo xss k : Int))) (fun _ i => len - (intOf i).toNat)
    case atStart => exact ⟨0, left - (len : Int), Nat.zero_le _, rfl, rfl, by omega, by omega, (show _ = _ by simp [szTo])⟩
    case round =>
      obtain ⟨k, r, hk, rfl, rfl, hr0, hr1, hr⟩ := hrel
      by_cases hlt : k < len
      · obtain ⟨b, off, rfl, hb, hc⟩ := H.out.2.resolve_left (by omega)
        obtain ⟨a1, cap1, hc1, -⟩ := hc k hlt
        clear hc
        obtain ⟨n, hn⟩ : ∃ n, n = (nthL xss k).length := ⟨_, rfl⟩
        have hn3 : n ≤ 9223372036854775807 := by rw [hn]; have := HI.out k hlt; omega
        rw [← hn] at hc1
        have hn2 : szTo xss (k + 1) = szTo xss k + n := by rw [szTo, hn]
        have N2 := Lib.hid hn2
        clear hn hn2
        by_cases hb2 : r < (n : Int)
        · go_wp2_with fail
          refine (szNodeS_any _ _ _ _ _ (by unfold maxLen; omega) (by omega) (by omega)).mono ?_
          rw [szI_no hb2]
          rintro e w' ⟨rfl, rfl⟩
          go_wp2
          go_ret
          exact ⟨-1, rfl, rfl, .inl (by omega)⟩
        · go_wp2_with fail
          refine (szNodeS_any _ _ _ _ _ (by unfold maxLen; omega) (by omega) (by omega)).mono ?_
          rw [szI_yes (by omega)]
          rintro e w' ⟨rfl, rfl⟩
          have hb3 : ¬ (r - (n : Int) < 0) := by omega
          go_wp2
          go_round
          case rel => exact ⟨k + 1, r - (n : Int), hlt, by go_num, rfl, by omega, by omega, (show _ = _ by have := hr.out; have := N2.out; omega)⟩
          case measure => simp [intOf]; omega
      · obtain rfl : k = len := by omega
        go_wp2
        go_ret
        exact ⟨r, rfl, rfl, .inr ⟨hr0, hr.out⟩⟩

theorem list_own {w : World} {lo g len : Nat} {us : List Value} (h : w.ownsRow lo 32 1 (.slice (some ⟨g, 0, none⟩) len len) len us) {k : Nat} (hk : k < len) : w.cell? ⟨g, k, none⟩ = some (atV us k) ∧ w.frozen? ⟨g, k, none⟩ = false := by
  have hl := h.1
  exact ⟨(h.cellAt k (by omega)).trans (atV_some (by omega)), h.frozenAt _⟩
set_option maxHeartbeats 1000000 in
theorem toNodeSS_any (xss : List (List Nd)) (a : Option Addr) (len cap : Nat) (w : World) (hl : len ≤ 1048576) (hi : ∀ j, j < len → (nthL xss j).length ≤ 1048576) (h : AtNN w a len xss) :
    Calls Try.prog 18 #[.slice a len cap] w fun e w' => ∃ v, e = .returned v ∧ InNN w' w.heap.size w'.heap.size v xss ∧ Below w.heap.size w w' := by
  obtain ⟨i0, hi0, hz0, hz1, hz2⟩ := info_parts infoNN
  have H := Lib.hid h
  have HI := Lib.hid hi
  clear h hi
  go_enter Try.func18, Try.ntmps18
  go_wp2_with (at_make; refine wpList_make_full _ rfl _ _ 41 rfl w.heap.size 32 i0 (.slice none 0 0) 1 Try.underlying41 hi0 hz0 hz1 _ _ _ _ len rfl rfl rfl rfl ?b2 ?b3 (Nat.le_refl _) ?_)
  case b2 => rw [hz2]; omega
  case b3 => unfold maxLen; omega
  intro w0 hown0 hgrow0
  clear hi0 hz0 hz1 hz2
  have hs0 : w.heap.size < w0.heap.size := by
    rcases hown0.2 with ⟨hv, -⟩ | ⟨g, cap, cur, hv, hg, hh, -⟩
    · cases hv
    · cases hv; exact (Array.getElem?_eq_some_iff.1 hh).1
  have B0 := Lib.hid ((Below.refl w.heap.size w).grown hgrow0 (Nat.le_refl _) (fun k h => by cases h))
  have HO0 := Lib.hid hown0
  clear hown0 hgrow0
  go_wp2
  go_loopw [4] (fun i wr => ∃ (k : Nat) (us : List Value) (p : Nat → Nat), k ≤ len ∧ i = .int .i64 k ∧ Hid (wr.ownsRow w.heap.size 32 1 (.slice (some ⟨w.heap.size, 0, none⟩) len len) len us) ∧ w.heap.size < p 0 ∧ Hid (∀ j, j < k → p j ≤ p (j + 1) ∧ InN wr (p j) (p (j + 1)) (atV us j) (nthL xss j)) ∧ Hid (p k = wr.heap.size) ∧ Below w.heap.size w wr) (fun i _ => len - (intOf i).toNat)
  case atStart => exact ⟨0, _, fun _ => w0.heap.size, Nat.zero_le _, rfl, HO0, hs0, (show ∀ j, _ from fun j hj => absurd hj (by omega)), (show _ = _ from rfl), B0.out⟩
  case round =>
    obtain ⟨k, us, p, hk, rfl, hown, hp0, hin, hps, hbel⟩ := hrel
    by_cases hlt : k < len
    · obtain ⟨b, off, rfl, hb, hc⟩ := H.out.2.resolve_left (by omega)
      obtain ⟨a1, cap1, hc1, hat1⟩ := hc k hlt
      have hc2 : wr.cell? ⟨b, off + k, none⟩ = some (.slice a1 (nthL xss k).length cap1) := (hbel.cell (p := ⟨b, off + k, none⟩) hb).trans hc1
      clear hc hc1
      have A1 := Lib.hid (hat1.keep hbel (Nat.le_refl _))
      clear hat1
      obtain ⟨n, hn⟩ : ∃ n, n = (nthL xss k).length := ⟨_, rfl⟩
      have hn3 : n ≤ 1048576 := by rw [hn]; exact HI.out k hlt
      rw [← hn] at hc2 A1
      clear hn
      have B := Lib.hid hbel
      clear hbel
      go_wp2_with fail
      refine (toNodeS_any (nthL xss k) a1 n cap1 _ hn3 A1.out).mono ?_
      rintro e w1 ⟨v1, rfl, ho1, hb1⟩
      have I1 := Lib.hid ho1.inn
      have hul := hown.out.1
      have O1 := Lib.hid (ownsRow_below hown.out (C := wr.heap.size) (fun k hk => by cases hk; exact Nat.lt_of_lt_of_le hp0 (by have := hps.out; have := mono_to (fun j hj => (hin.out j hj).1) (Nat.zero_le k) (Nat.le_refl _); omega)) hb1)
      have N1 := Lib.hid (fun j hj => (⟨(hin.out j hj).1, (hin.out j hj).2.below hb1 (by have := hps.out; have := mono_to (fun j hj => (hin.out j hj).1) (show j + 1 ≤ k by omega) (Nat.le_refl _); omega)⟩ : p j ≤ p (j + 1) ∧ InN w1 (p j) (p (j + 1)) (atV us j) (nthL xss j)))
      have B1 := Lib.hid (B.out.trans (hb1.mono B.out.size))
      have hz1 := hb1.size
      obtain ⟨hcell, hfro⟩ := list_own O1.out hlt
      have hst := O1.out.stored k v1
      have hkp : ∀ j, j ≤ k → w.heap.size + 1 ≤ p j := fun j hj => by have := mono_to (fun j hj => (N1.out j hj).1) (Nat.zero_le j) hj; omega
      have hzw : (w1.setCell ⟨w.heap.size, k, none⟩ v1).heap.size = w1.heap.size := by simp
      have X1 := Lib.hid hst.1
      have X2 := Lib.hid (show ∀ j, j < k + 1 → (if j ≤ k then p j else w1.heap.size) ≤ (if j + 1 ≤ k then p (j + 1) else w1.heap.size) ∧ InN (w1.setCell ⟨w.heap.size, k, none⟩ v1) (if j ≤ k then p j else w1.heap.size) (if j + 1 ≤ k then p (j + 1) else w1.heap.size) (atV (us.set k v1) j) (nthL xss j) from fun j hj => by
        by_cases e : j = k
        · subst e
          rw [if_pos (Nat.le_refl _), if_neg (by omega), atV_set, if_pos ⟨rfl, by omega⟩, hps.out]
          exact ⟨hz1, I1.out.other (u := .slice (some ⟨w.heap.size, 0, none⟩) len len) (lo' := w.heap.size) (hi' := w.heap.size + 1) (fun k hk => by cases hk; exact ⟨Nat.le_refl _, Nat.lt_succ_self _⟩) hst.2 (.inr (by have := hkp j (Nat.le_refl _); rw [hps.out] at this; exact this))⟩
        · rw [if_pos (by omega), if_pos (by omega), atV_set, if_neg (by omega)]
          exact ⟨(N1.out j (by omega)).1, (N1.out j (by omega)).2.other (u := .slice (some ⟨w.heap.size, 0, none⟩) len len) (lo' := w.heap.size) (hi' := w.heap.size + 1) (fun k hk => by cases hk; exact ⟨Nat.le_refl _, Nat.lt_succ_self _⟩) hst.2 (.inr (hkp j (by omega)))⟩)
      have X3 := Lib.hid (show (if k + 1 ≤ k then p (k + 1) else w1.heap.size) = (w1.setCell ⟨w.heap.size, k, none⟩ v1).heap.size by rw [if_neg (by omega), hzw])
      have X4 := Lib.hid (B1.out.setCell (p := ⟨w.heap.size, k, none⟩) (Nat.le_refl _) v1)
      obtain ⟨a2, c2, rfl, -⟩ := I1.out.at
      clear hown hin hb1 ho1 O1 A1 I1 N1 B1 hst hkp hzw hul
      go_wp2
      go_roundw
      case rel => exact ⟨k + 1, _, fun j => if j ≤ k then p j else w1.heap.size, hlt, by go_num, X1, by simpa using hp0, X2, X3, X4.out⟩
      case measure => simp [intOf]; omega
    · obtain rfl : k = len := by omega
      have hl2 := H.out.1
      go_wp2
      go_ret
      exact ⟨_, rfl, ⟨us, p, by rw [← hl2]; exact hown.out, fun k hk => by cases hk; exact ⟨Nat.le_refl _, hp0⟩, by omega, by rw [← hl2]; exact hin.out, by rw [← hl2, hps.out]; exact Nat.le_refl _, Nat.le_refl _⟩, hbel⟩

set_option maxHeartbeats 1000000 in
theorem eqNodeSS_any (xss : List (List Nd)) (a a' : Option Addr) (len cap cap' : Nat) (w : World) (hl : len ≤ 1048576) (hi : ∀ j, j < len → (nthL xss j).length ≤ 1048576) (h : AtNN w a len xss) (h' : AtNN w a' len xss) :
    Calls Try.prog 20 #[.slice a len cap, .slice a' len cap'] w fun e w' => e = .returned (.bool true) ∧ Below w.heap.size w w' := by
  have H := Lib.hid h
  have H' := Lib.hid h'
  have HI := Lib.hid hi
  clear h h' hi
  go_enter Try.func20, Try.ntmps20
  go_wp2
  go_loopw [5] (fun i wr => ∃ k : Nat, k ≤ len ∧ i = .int .i64 k ∧ Below w.heap.size w wr) (fun i _ => len - (intOf i).toNat)
  case atStart => exact ⟨0, Nat.zero_le _, rfl, Below.refl _ _⟩
  case round =>
    obtain ⟨k, hk, rfl, hbel⟩ := hrel
    by_cases hlt : k < len
    · obtain ⟨b, off, rfl, hb, hc⟩ := H.out.2.resolve_left (by omega)
      obtain ⟨b', off', rfl, hb', hc'⟩ := H'.out.2.resolve_left (by omega)
      obtain ⟨a1, cap1, hc1, hat1⟩ := hc k hlt
      obtain ⟨a2, cap2, hc2, hat2⟩ := hc' k hlt
      have g1 : wr.cell? ⟨b, off + k, none⟩ = some (.slice a1 (nthL xss k).length cap1) := (hbel.cell (p := ⟨b, off + k, none⟩) hb).trans hc1
      have g2 : wr.cell? ⟨b', off' + k, none⟩ = some (.slice a2 (nthL xss k).length cap2) := (hbel.cell (p := ⟨b', off' + k, none⟩) hb').trans hc2
      have A1 := Lib.hid (hat1.keep hbel (Nat.le_refl _))
      have A2 := Lib.hid (hat2.keep hbel (Nat.le_refl _))
      have hn3 : (nthL xss k).length ≤ 1048576 := HI.out k hlt
      obtain ⟨n, hn⟩ : ∃ n, n = (nthL xss k).length := ⟨_, rfl⟩
      rw [← hn] at g1 g2 A1 A2 hn3
      clear hc hc' hc1 hc2 hat1 hat2 hn
      go_wp2
      go_region_with (go_at_call 15; refine (eqNodeS_any (nthL xss k) a1 a2 n cap1 cap2 _ hn3 (show AtN wr.drew a1 n (nthL xss k) from A1.out) (show AtN wr.drew a2 n (nthL xss k) from A2.out)).mono ?_; rintro e w1 ⟨rfl, hb1⟩)
      all_goals
        go_wp2
        go_roundw
        case rel => exact ⟨k + 1, hlt, by go_num, hbel.drew.trans (hb1.mono hbel.size)⟩
        case measure => simp [intOf]; omega
    · obtain rfl : k = len := by omega
      go_wp2
      go_ret
      exact ⟨rfl, hbel⟩
theorem eqNN_in (xss : List (List Nd)) (v v' : Value) (lo hi lo' hi' : Nat) (w : World) (hl : xss.length ≤ 1048576) (hn : ∀ j, j < xss.length → (nthL xss j).length ≤ 1048576) (h : InNN w lo hi v xss) (h' : InNN w lo' hi' v' xss) :
    Calls Try.prog 20 #[v, v'] w fun e w' => e = .returned (.bool true) ∧ Below w.heap.size w w' := by
  obtain ⟨a, cap, rfl, hat⟩ := h.at
  obtain ⟨a', cap', rfl, hat'⟩ := h'.at
  exact eqNodeSS_any xss a a' xss.length cap cap' w hl hn hat hat'

/-- A list of lists of nodes that came in. -/
def IsNodesS (w : World) (a : Option Addr) (len : Nat) (xss : List (List Nd)) : Prop := AtNN w a len xss ∧ len ≤ maxLen ∧ ∀ j, j < len → (nthL xss j).length ≤ maxLen
theorem sz_all {xss : List (List Nd)} {n : Nat} (h : szTo xss n ≤ 1048576) : ∀ j, j < n → (nthL xss j).length ≤ 1048576 := fun j hj => by
  have a1 := szTo_mono xss (show j + 1 ≤ n by omega)
  rw [szTo] at a1
  omega

section
open Go.ChangeShapes Go.WideShapes Go.Deep
variable {H : Type} {enc : TypeId × Value → H} {P : Program} {w : World} {base : Nat} {spare : Nat → Bool} {held : Bool}
theorem open_nodess {t s e : TypeId} {f0 f1 : Field} {fuel : Nat} {cs : List Value} {x : DataW H × List MemPlace} (hs : P.underlying t = some (.slice s)) (ht : P.underlying s = some (.slice e)) (he : P.underlying e = some (.struct #[f0, f1]))
    (h0 : P.underlying f0.type = some (.int .i64)) (h1 : P.underlying f1.type = some (.int .i64)) (hone : oneCellFields P #[f0, f1] = true) (hC : P.cellsOf e = 2) (hC1 : P.cellsOf s = 1) (h : DataW.trod enc P w base spare held fuel t cs = some x) :
    ∃ (a : Option Addr) (len cap : Nat) (xss : List (List Nd)), cs = [.slice a len cap] ∧ IsNodesS w a len xss := by
  rcases open_slice hs h with hz | ⟨a, len, cap, m, n, D, Pl, hcs, hb, hl, hm, hmm, hx, hi⟩
  · exact ⟨none, 0, 0, [], hz.1, ⟨rfl, .inl rfl⟩, by unfold maxLen; omega, fun j hj => absurd hj (by omega)⟩
  have hlm : len ≤ m := by rw [hmm]; split <;> omega
  have hcell : ∀ i, i < len → ∃ (a' : Option Addr) (cap' : Nat) (xs : List Nd), w.cell? (a.add i) = some (.slice a' xs.length cap') ∧ IsNodes w a' xs.length xs := by
    intro i hil
    obtain ⟨cs', hc, ht'⟩ := hi i (by omega)
    obtain ⟨a1, len1, cap1, xs, hcs1, hn1⟩ := open_nodes ht he h0 h1 hone hC ht'
    rw [hC1, Nat.mul_one] at hc
    subst hcs1
    obtain ⟨_, hcl, hat⟩ := World.cells?_some hc
    have a0 := hat 0 (by omega)
    rw [Go.Deep.add_add, Nat.add_zero] at a0
    have hlen := hn1.1.1
    subst hlen
    exact ⟨a1, cap1, xs, a0, hn1⟩
  have hx : ∃ xss : List (List Nd), xss.length = len ∧ ∀ i, i < len → ∃ (a' : Option Addr) (cap' : Nat), w.cell? (a.add i) = some (.slice a' (nthL xss i).length cap') ∧ IsNodes w a' (nthL xss i).length (nthL xss i) := by
    clear hx hi hcs hb hl hm hmm hlm
    induction len with
    | zero => exact ⟨[], rfl, fun i h => absurd h (by omega)⟩
    | succ len ih =>
      obtain ⟨xss, hxl, hxs⟩ := ih (fun i hi => hcell i (by omega))
      obtain ⟨a', cap', xs, hk, hn⟩ := hcell len (by omega)
      refine ⟨xss ++ [xs], by simp [hxl], fun i hi => ?_⟩
      by_cases e : i = len
      · subst e
        have e1 : nthL (xss ++ [xs]) i = xs := by unfold nthL; simp [List.getD, ← hxl]
        rw [e1]
        exact ⟨a', cap', hk, hn⟩
      · have hil : i < xss.length := by omega
        have e1 : nthL (xss ++ [xs]) i = nthL xss i := by unfold nthL; simp [List.getD, List.getElem?_append_left hil]
        rw [e1]
        exact hxs i (by omega)
  obtain ⟨xss, hxl, hxs⟩ := hx
  refine ⟨some a, len, cap, xss, hcs, ⟨hxl.symm, ?_⟩, by omega, fun j hj => ?_⟩
  · by_cases hz : len = 0
    · exact .inl hz
    · right
      obtain ⟨a', cap', hc, -⟩ := hxs 0 (by omega)
      obtain ⟨b, off, spot⟩ := a
      have hspot : spot = none := by simpa [Addr.add] using World.cell?_spot hc
      subst hspot
      have hadd : ∀ j, (⟨b, off, none⟩ : Addr).add j = ⟨b, off + j, none⟩ := fun j => by unfold Addr.add; split <;> simp_all
      refine ⟨b, off, rfl, ?_, fun j hj => ?_⟩
      · rw [hadd] at hc; exact World.block_lt_of_cell? w _ hc
      · obtain ⟨a', cap', h2, h3⟩ := hxs j hj
        rw [hadd] at h2
        exact ⟨a', cap', h2, h3.1⟩
  · obtain ⟨a', cap', -, h3⟩ := hxs j hj
    exact h3.2
end

end Go.Proofs.Ytnoaaklkbfbdbaa
