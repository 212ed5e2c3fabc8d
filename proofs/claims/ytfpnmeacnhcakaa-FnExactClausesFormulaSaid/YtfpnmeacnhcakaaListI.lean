/- Lists of lists of int64 that a call owns: the contracts of size, copy, compare and mark over them. Conditions: those in the theorems. -/
import Derived.Test.YtfpnmeacnhcakaaWi
import Derived.Test.YtfpnmeacnhcakaaOwnI
namespace Go.Proofs.Ytfpnmeacnhcakaa
open Go.RowKit

def nthI (xss : List (List Int)) (j : Nat) : List Int := xss.getD j []
/-- A list of lists of int64 in memory. -/
def AtII (w : World) (a : Option Addr) (len : Nat) (xss : List (List Int)) : Prop :=
  len = xss.length ∧ (len = 0 ∨ ∃ b off, a = some ⟨b, off, none⟩ ∧ b < w.heap.size ∧ ∀ j, j < len → ∃ a' cap', w.cell? ⟨b, off + j, none⟩ = some (.slice a' (nthI xss j).length cap') ∧ At w a' (nthI xss j).length (nthI xss j))
theorem AtII.keep {w w' : World} {C : Nat} {a : Option Addr} {len : Nat} {xss : List (List Int)} (h : AtII w a len xss) (hb : Below C w w') (hC : w.heap.size ≤ C) : AtII w' a len xss := by
  refine ⟨h.1, ?_⟩
  rcases h.2 with h2 | ⟨b, off, ha, hlt, hc⟩
  · exact .inl h2
  · refine .inr ⟨b, off, ha, Nat.lt_of_lt_of_le hlt hb.size, fun j hj => ?_⟩
    obtain ⟨a', cap', h3, h4⟩ := hc j hj
    exact ⟨a', cap', (hb.cell (p := ⟨b, off + j, none⟩) (by show b < C; omega)).trans h3, h4.keep hb hC⟩
/-- How many numbers the first k lists have together. -/
def szJ (xss : List (List Int)) : Nat → Nat
  | 0 => 0
  | k + 1 => szJ xss k + (nthI xss k).length
theorem szJ_mono (xss : List (List Int)) {k l : Nat} (h : k ≤ l) : szJ xss k ≤ szJ xss l := by
  induction l with
  | zero => have : k = 0 := by omega
            subst this; exact Nat.le_refl _
  | succ l ih =>
    by_cases e : k = l + 1
    · subst e; exact Nat.le_refl _
    · have := ih (by omega); rw [szJ]; omega
theorem InI.within {w w' : World} {lo hi lo' hi' : Nat} {v : Value} {xs : List Int} (h : InI w lo hi v xs) (hw : Within lo' hi' w w') (hd : hi ≤ lo' ∨ hi' ≤ lo) : InI w' lo hi v xs := by
  refine ⟨⟨h.1.1, ?_⟩, Nat.le_trans h.2.1 hw.size, h.2.2⟩
  rcases h.1.2 with h2 | ⟨g, cap, cur, hv, hg, hh, r⟩
  · exact .inl h2
  · have hlt := h.2.2 g (by rw [hv]; rfl)
    have := h.2.1
    exact .inr ⟨g, cap, cur, hv, hg, by rw [hw.block g (by omega) (by omega)]; exact hh, r⟩

theorem InI.at {w : World} {lo hi : Nat} {v : Value} {xs : List Int} (h : InI w lo hi v xs) : ∃ a cap, v = .slice a xs.length cap ∧ At w a xs.length xs := by
  obtain ⟨a, cap, hv, hat, -⟩ := h.1.at
  exact ⟨a, cap, hv, hat⟩
def szN (left : Int) (len : Nat) : Int := if left < len then -1 else left - len
theorem szN_no {left : Int} {len : Nat} (h : left < len) : szN left len = -1 := if_pos h
theorem szN_yes {left : Int} {len : Nat} (h : ¬ left < len) : szN left len = left - len := if_neg h

theorem szInt64S_any (a : Option Addr) (len cap : Nat) (left : Int) (w : World) (hl : len ≤ maxLen) (h0 : 0 ≤ left) (h1 : left ≤ 1048576) :
    Calls Try.prog 13 #[.slice a len cap, .int .i64 left] w fun e w' => e = .returned (.int .i64 (szN left len)) ∧ w = w' := by
  unfold maxLen at hl
  by_cases h : left < len
  all_goals
    go_enter Try.func13, Try.ntmps13
    go_wp2
    go_ret
    first | exact ⟨ret_int (szN_no h).symm, rfl⟩ | exact ⟨ret_int (szN_yes (by omega)).symm, rfl⟩

theorem infoII : (Try.prog.info? 33).map (fun i => (i.zero, i.size, i.bytes)) = some (some (.slice none 0 0), 1, 24) := by kernel_rfl

/-- The slice value v is the call's own, its blocks lie in lo .. hi - 1, no two lists share one, and it holds the lists xss. -/
def InII (w : World) (lo hi : Nat) (v : Value) (xss : List (List Int)) : Prop :=
  ∃ (vs : List Value) (p : Nat → Nat), w.ownsRow lo 33 1 v xss.length vs ∧ (∀ k, v.ownBlock = some k → lo ≤ k ∧ k < p 0) ∧ lo ≤ p 0 ∧
    (∀ j, j < xss.length → p j ≤ p (j + 1) ∧ InI w (p j) (p (j + 1)) (atV vs j) (nthI xss j)) ∧ p xss.length ≤ hi ∧ hi ≤ w.heap.size
theorem InII.below {w w' : World} {lo hi C : Nat} {v : Value} {xss : List (List Int)} (h : InII w lo hi v xss) (hb : Below C w w') (hC : hi ≤ C) : InII w' lo hi v xss := by
  obtain ⟨vs, p, h1, h2, h3, h4, h5, h6⟩ := h
  have hm : ∀ i j, i ≤ j → j ≤ xss.length → p i ≤ p j := fun i j => mono_to (fun j hj => (h4 j hj).1)
  have h0 := hm 0 xss.length (Nat.zero_le _) (Nat.le_refl _)
  refine ⟨vs, p, ownsRow_below h1 (fun k hk => by have := h2 k hk; omega) hb, h2, h3, fun j hj => ⟨(h4 j hj).1, (h4 j hj).2.below hb ?_⟩, h5, Nat.le_trans h6 hb.size⟩
  have := hm (j + 1) xss.length (by omega) (Nat.le_refl _)
  omega
theorem InII.size {w : World} {lo hi : Nat} {v : Value} {xss : List (List Int)} (h : InII w lo hi v xss) : lo ≤ hi ∧ hi ≤ w.heap.size := by
  obtain ⟨vs, p, h1, h2, h3, h4, h5, h6⟩ := h
  have := mono_to (fun j hj => (h4 j hj).1) (Nat.zero_le xss.length) (Nat.le_refl _)
  exact ⟨by omega, h6⟩
theorem InII.at {w : World} {lo hi : Nat} {v : Value} {xss : List (List Int)} (h : InII w lo hi v xss) : ∃ a cap, v = .slice a xss.length cap ∧ AtII w a xss.length xss := by
  obtain ⟨vs, p, h1, h2, h3, h4, h5, h6⟩ := h
  have hl := h1.1
  rcases h1.2 with ⟨hv, hn⟩ | ⟨g, cap, cur, hv, hg, hh, hc, hm, hs, ht⟩
  · exact ⟨none, 0, by rw [hv, hn], rfl, .inl hn⟩
  · have hlt : g < w.heap.size := (Array.getElem?_eq_some_iff.1 hh).1
    subst hv
    refine ⟨some ⟨g, 0, none⟩, cap, rfl, rfl, .inr ⟨g, 0, rfl, hlt, fun j hj => ?_⟩⟩
    have e := h1.cellAt j (by omega)
    obtain ⟨a', cap', hv', hat'⟩ := (h4 j hj).2.at
    refine ⟨a', cap', ?_, hat'⟩
    rw [Nat.zero_add, e, atV_some (by omega), hv']

set_option maxHeartbeats 400000 in
theorem szInt64SS_any (xss : List (List Int)) (a : Option Addr) (len cap : Nat) (left : Int) (w : World) (hl : len ≤ maxLen) (h0 : 0 ≤ left) (h1 : left ≤ 1048576) (hi : ∀ j, j < len → (nthI xss j).length ≤ maxLen) (h : AtII w a len xss) :
    Calls Try.prog 4 #[.slice a len cap, .int .i64 left] w fun e w' => ∃ r : Int, e = .returned (.int .i64 r) ∧ w = w' ∧ (r < 0 ∨ (0 ≤ r ∧ r = left - (len : Int) - (szJ xss len : Int))) := by
  unfold maxLen at hl hi
  have H := Lib.hid h
  have HI := Lib.hid hi
  clear h hi
  by_cases hb : left < (len : Int)
  · go_enter Try.func4, Try.ntmps4
    go_wp2
    go_ret
    exact ⟨-1, rfl, rfl, .inl (by omega)⟩
  · have hn : ¬ (left - (len : Int) < 0) := by omega
    have hw : IntKind.i64.wrap (left - (len : Int)) = left - (len : Int) := by rw [IntKind.wrap_i64]; omega
    go_enter Try.func4, Try.ntmps4
    go_wp2
    go_loop [1, 5] (fun c i => ∃ (k : Nat) (r : Int), k ≤ len ∧ i = .int .i64 k ∧ c = .int .i64 r ∧ 0 ≤ r ∧ r ≤ 1048576 ∧ Hid (r = left - (len : Int) - (szJ xss k : Int))) (fun _ i => len - (intOf i).toNat)
    case atStart => exact ⟨0, left - (len : Int), Nat.zero_le _, rfl, rfl, by omega, by omega, (show _ = _ by simp [szJ])⟩
    case round =>
      obtain ⟨k, r, hk, rfl, rfl, hr0, hr1, hr⟩ := hrel
      by_cases hlt : k < len
      · obtain ⟨b, off, rfl, hb, hc⟩ := H.out.2.resolve_left (by omega)
        obtain ⟨a1, cap1, hc1, -⟩ := hc k hlt
        clear hc
        obtain ⟨n, hn⟩ : ∃ n, n = (nthI xss k).length := ⟨_, rfl⟩
        have hn3 : n ≤ 9223372036854775807 := by rw [hn]; have := HI.out k hlt; omega
        rw [← hn] at hc1
        have hn2 : szJ xss (k + 1) = szJ xss k + n := by rw [szJ, hn]
        have N2 := Lib.hid hn2
        clear hn hn2
        by_cases hb2 : r < (n : Int)
        · go_wp2_with fail
          refine (szInt64S_any _ _ _ _ _ (by unfold maxLen; omega) (by omega) (by omega)).mono ?_
          rw [szN_no hb2]
          rintro e w' ⟨rfl, rfl⟩
          go_wp2
          go_ret
          exact ⟨-1, rfl, rfl, .inl (by omega)⟩
        · go_wp2_with fail
          refine (szInt64S_any _ _ _ _ _ (by unfold maxLen; omega) (by omega) (by omega)).mono ?_
          rw [szN_yes (by omega)]
          rintro e w' ⟨rfl, rfl⟩
          have hb3 : ¬ (r - (n : Int) < 0) := by omega
          go_wp2
          go_round
          case rel => exact ⟨k + 1, r - (n : Int), hlt, by go_num, rfl, by omega, by omega, (show _ = _ by have := hr.out; have := N2.out; omega)⟩
          case measure => simp [intOf]; omega
      · obtain rfl : k = len := by omega
        go_wp2
        go_ret
        exact ⟨r, rfl, rfl, .inr ⟨hr0, hr.out⟩⟩

theorem list_ownI {w : World} {lo g len : Nat} {us : List Value} (h : w.ownsRow lo 33 1 (.slice (some ⟨g, 0, none⟩) len len) len us) {k : Nat} (hk : k < len) : w.cell? ⟨g, k, none⟩ = some (atV us k) ∧ w.frozen? ⟨g, k, none⟩ = false := by
  have hl := h.1
  exact ⟨(h.cellAt k (by omega)).trans (atV_some (by omega)), h.frozenAt _⟩
set_option maxHeartbeats 1000000 in
theorem toInt64SS_any (xss : List (List Int)) (a : Option Addr) (len cap : Nat) (w : World) (hl : len ≤ 1048576) (hi : ∀ j, j < len → (nthI xss j).length ≤ 1048576) (h : AtII w a len xss) :
    Calls Try.prog 6 #[.slice a len cap] w fun e w' => ∃ v, e = .returned v ∧ InII w' w.heap.size w'.heap.size v xss ∧ Below w.heap.size w w' := by
  obtain ⟨i0, hi0, hz0, hz1, hz2⟩ := info_parts infoII
  have H := Lib.hid h
  have HI := Lib.hid hi
  clear h hi
  go_enter Try.func6, Try.ntmps6
  go_wp2_with (at_make; refine wpList_make_full _ rfl _ _ 22 rfl w.heap.size 33 i0 (.slice none 0 0) 1 Try.underlying22 hi0 hz0 hz1 _ _ _ _ len rfl rfl rfl rfl ?b2 ?b3 (Nat.le_refl _) ?_)
  case b2 => rw [hz2]; omega
  case b3 => unfold maxLen; omega
  intro w0 hown0 hgrow0
  clear hi0 hz0 hz1 hz2
  have hs0 : w.heap.size < w0.heap.size := by
    rcases hown0.2 with ⟨hv, -⟩ | ⟨g, cap, cur, hv, hg, hh, -⟩
    · cases hv
    · cases hv; exact (Array.getElem?_eq_some_iff.1 hh).1
  have B0 := Lib.hid ((Below.refl w.heap.size w).grown hgrow0 (Nat.le_refl _) (fun k h => by cases h))
  have HO0 := Lib.hid hown0
  clear hown0 hgrow0
  go_wp2
  go_loopw [4] (fun i wr => ∃ (k : Nat) (us : List Value) (p : Nat → Nat), k ≤ len ∧ i = .int .i64 k ∧ Hid (wr.ownsRow w.heap.size 33 1 (.slice (some ⟨w.heap.size, 0, none⟩) len len) len us) ∧ w.heap.size < p 0 ∧ Hid (∀ j, j < k → p j ≤ p (j + 1) ∧ InI wr (p j) (p (j + 1)) (atV us j) (nthI xss j)) ∧ Hid (p k = wr.heap.size) ∧ Below w.heap.size w wr) (fun i _ => len - (intOf i).toNat)
  case atStart => exact ⟨0, _, fun _ => w0.heap.size, Nat.zero_le _, rfl, HO0, hs0, (show ∀ j, _ from fun j hj => absurd hj (by omega)), (show _ = _ from rfl), B0.out⟩
  case round =>
    obtain ⟨k, us, p, hk, rfl, hown, hp0, hin, hps, hbel⟩ := hrel
    by_cases hlt : k < len
    · obtain ⟨b, off, rfl, hb, hc⟩ := H.out.2.resolve_left (by omega)
      obtain ⟨a1, cap1, hc1, hat1⟩ := hc k hlt
      have hc2 : wr.cell? ⟨b, off + k, none⟩ = some (.slice a1 (nthI xss k).length cap1) := (hbel.cell (p := ⟨b, off + k, none⟩) hb).trans hc1
      clear hc hc1
      have A1 := Lib.hid (hat1.keep hbel (Nat.le_refl _))
      clear hat1
      obtain ⟨n, hn⟩ : ∃ n, n = (nthI xss k).length := ⟨_, rfl⟩
      have hn3 : n ≤ 1048576 := by rw [hn]; exact HI.out k hlt
      rw [← hn] at hc2 A1
      clear hn
      have B := Lib.hid hbel
      clear hbel
      go_wp2_with fail
      refine (toInt64S_any (nthI xss k) a1 n cap1 _ hn3 A1.out).mono ?_
      rintro e w1 ⟨v1, rfl, ho1, hb1⟩
      have I1 := Lib.hid ho1.inI
      have hul := hown.out.1
      have O1 := Lib.hid (ownsRow_below hown.out (C := wr.heap.size) (fun k hk => by cases hk; exact Nat.lt_of_lt_of_le hp0 (by have := hps.out; have := mono_to (fun j hj => (hin.out j hj).1) (Nat.zero_le k) (Nat.le_refl _); omega)) hb1)
      have N1 := Lib.hid (fun j hj => (⟨(hin.out j hj).1, (hin.out j hj).2.below hb1 (by have := hps.out; have := mono_to (fun j hj => (hin.out j hj).1) (show j + 1 ≤ k by omega) (Nat.le_refl _); omega)⟩ : p j ≤ p (j + 1) ∧ InI w1 (p j) (p (j + 1)) (atV us j) (nthI xss j)))
      have B1 := Lib.hid (B.out.trans (hb1.mono B.out.size))
      have hz1 := hb1.size
      obtain ⟨hcell, hfro⟩ := list_ownI O1.out hlt
      have hst := O1.out.stored k v1
      have hkp : ∀ j, j ≤ k → w.heap.size + 1 ≤ p j := fun j hj => by have := mono_to (fun j hj => (N1.out j hj).1) (Nat.zero_le j) hj; omega
      have hzw : (w1.setCell ⟨w.heap.size, k, none⟩ v1).heap.size = w1.heap.size := by simp
      have X1 := Lib.hid hst.1
      have X2 := Lib.hid (show ∀ j, j < k + 1 → (if j ≤ k then p j else w1.heap.size) ≤ (if j + 1 ≤ k then p (j + 1) else w1.heap.size) ∧ InI (w1.setCell ⟨w.heap.size, k, none⟩ v1) (if j ≤ k then p j else w1.heap.size) (if j + 1 ≤ k then p (j + 1) else w1.heap.size) (atV (us.set k v1) j) (nthI xss j) from fun j hj => by
        by_cases e : j = k
        · subst e
          rw [if_pos (Nat.le_refl _), if_neg (by omega), atV_set, if_pos ⟨rfl, by omega⟩, hps.out]
          exact ⟨hz1, I1.out.other (u := .slice (some ⟨w.heap.size, 0, none⟩) len len) (lo' := w.heap.size) (hi' := w.heap.size + 1) (fun k hk => by cases hk; exact ⟨Nat.le_refl _, Nat.lt_succ_self _⟩) hst.2 (.inr (by have := hkp j (Nat.le_refl _); rw [hps.out] at this; exact this))⟩
        · rw [if_pos (by omega), if_pos (by omega), atV_set, if_neg (by omega)]
          exact ⟨(N1.out j (by omega)).1, (N1.out j (by omega)).2.other (u := .slice (some ⟨w.heap.size, 0, none⟩) len len) (lo' := w.heap.size) (hi' := w.heap.size + 1) (fun k hk => by cases hk; exact ⟨Nat.le_refl _, Nat.lt_succ_self _⟩) hst.2 (.inr (hkp j (by omega)))⟩)
      have X3 := Lib.hid (show (if k + 1 ≤ k then p (k + 1) else w1.heap.size) = (w1.setCell ⟨w.heap.size, k, none⟩ v1).heap.size by rw [if_neg (by omega), hzw])
      have X4 := Lib.hid (B1.out.setCell (p := ⟨w.heap.size, k, none⟩) (Nat.le_refl _) v1)
      obtain ⟨a2, c2, rfl, -⟩ := I1.out.at
      clear hown hin hb1 ho1 O1 A1 I1 N1 B1 hst hkp hzw hul
      go_wp2
      go_roundw
      case rel => exact ⟨k + 1, _, fun j => if j ≤ k then p j else w1.heap.size, hlt, by go_num, X1, by simpa using hp0, X2, X3, X4.out⟩
      case measure => simp [intOf]; omega
    · obtain rfl : k = len := by omega
      have hl2 := H.out.1
      go_wp2
      go_ret
      exact ⟨_, rfl, ⟨us, p, by rw [← hl2]; exact hown.out, fun k hk => by cases hk; exact ⟨Nat.le_refl _, hp0⟩, by omega, by rw [← hl2]; exact hin.out, by rw [← hl2, hps.out]; exact Nat.le_refl _, Nat.le_refl _⟩, hbel⟩

set_option maxHeartbeats 1000000 in
theorem eqInt64SS_any (xss : List (List Int)) (a a' : Option Addr) (len cap cap' : Nat) (w : World) (hl : len ≤ 1048576) (hi : ∀ j, j < len → (nthI xss j).length ≤ 1048576) (h : AtII w a len xss) (h' : AtII w a' len xss) :
    Calls Try.prog 9 #[.slice a len cap, .slice a' len cap'] w fun e w' => e = .returned (.bool true) ∧ Below w.heap.size w w' := by
  have H := Lib.hid h
  have H' := Lib.hid h'
  have HI := Lib.hid hi
  clear h h' hi
  go_enter Try.func9, Try.ntmps9
  go_wp2
  go_loopw [5] (fun i wr => ∃ k : Nat, k ≤ len ∧ i = .int .i64 k ∧ Below w.heap.size w wr) (fun i _ => len - (intOf i).toNat)
  case atStart => exact ⟨0, Nat.zero_le _, rfl, Below.refl _ _⟩
  case round =>
    obtain ⟨k, hk, rfl, hbel⟩ := hrel
    by_cases hlt : k < len
    · obtain ⟨b, off, rfl, hb, hc⟩ := H.out.2.resolve_left (by omega)
      obtain ⟨b', off', rfl, hb', hc'⟩ := H'.out.2.resolve_left (by omega)
      obtain ⟨a1, cap1, hc1, hat1⟩ := hc k hlt
      obtain ⟨a2, cap2, hc2, hat2⟩ := hc' k hlt
      have g1 : wr.cell? ⟨b, off + k, none⟩ = some (.slice a1 (nthI xss k).length cap1) := (hbel.cell (p := ⟨b, off + k, none⟩) hb).trans hc1
      have g2 : wr.cell? ⟨b', off' + k, none⟩ = some (.slice a2 (nthI xss k).length cap2) := (hbel.cell (p := ⟨b', off' + k, none⟩) hb').trans hc2
      have A1 := Lib.hid (hat1.keep hbel (Nat.le_refl _))
      have A2 := Lib.hid (hat2.keep hbel (Nat.le_refl _))
      have hn3 : (nthI xss k).length ≤ 1048576 := HI.out k hlt
      obtain ⟨n, hn⟩ : ∃ n, n = (nthI xss k).length := ⟨_, rfl⟩
      rw [← hn] at g1 g2 A1 A2 hn3
      clear hc hc' hc1 hc2 hat1 hat2 hn
      go_wp2
      go_region_with (go_at_call 22; refine (eqInt64S_any (nthI xss k) a1 a2 n cap1 cap2 _ hn3 (show At wr.drew a1 n (nthI xss k) from A1.out) (show At wr.drew a2 n (nthI xss k) from A2.out)).mono ?_; rintro e w1 ⟨rfl, q1, rfl⟩)
      all_goals
        go_wp2
        go_roundw
        case rel => exact ⟨k + 1, hlt, by go_num, below_drewN hbel (1 + q1)⟩
        case measure => simp [intOf]; omega
    · obtain rfl : k = len := by omega
      go_wp2
      go_ret
      exact ⟨rfl, hbel⟩
theorem eqII_in (xss : List (List Int)) (v v' : Value) (lo hi lo' hi' : Nat) (w : World) (hl : xss.length ≤ 1048576) (hn : ∀ j, j < xss.length → (nthI xss j).length ≤ 1048576) (h : InII w lo hi v xss) (h' : InII w lo' hi' v' xss) :
    Calls Try.prog 9 #[v, v'] w fun e w' => e = .returned (.bool true) ∧ Below w.heap.size w w' := by
  obtain ⟨a, cap, rfl, hat⟩ := h.at
  obtain ⟨a', cap', rfl, hat'⟩ := h'.at
  exact eqInt64SS_any xss a a' xss.length cap cap' w hl hn hat hat'

set_option maxHeartbeats 1000000 in
theorem markII_in (xss : List (List Int)) (v : Value) (lo hi : Nat) (n : Int) (w : World) (hl : xss.length ≤ 1048576) (hsz : szJ xss xss.length ≤ 1048576) (hn : 0 ≤ n) (hn2 : n ≤ 1073741824) (h : InII w lo hi v xss) :
    Calls Try.prog 10 #[v, .int .i64 n] w fun e w' => ∃ r : Int, e = .returned (.int .i64 r) ∧ 0 ≤ r ∧ r ≤ n + 2097152 ∧ Within lo hi w w' := by
  have hsize := h.size
  obtain ⟨vs, p, h1, h2, h3, h4, h5, h6⟩ := h
  have hvl := h1.1
  obtain ⟨len, hlen⟩ : ∃ len, len = xss.length := ⟨_, rfl⟩
  rw [← hlen] at h1 h4 h5 hvl hl hsz
  have hpm : ∀ i j, i ≤ j → j ≤ len → p i ≤ p j := fun i j => mono_to (fun j hj => (h4 j hj).1)
  have PM := Lib.hid hpm
  have S := Lib.hid hsz
  have HOB := Lib.hid h2
  have hsh : v = .slice none 0 0 ∧ len = 0 ∨ ∃ g cap, v = .slice (some ⟨g, 0, none⟩) len cap := by
    rcases h1.2 with ⟨hv, hn⟩ | ⟨g, cap, cur, hv, -⟩
    · exact .inl ⟨hv, hn⟩
    · exact .inr ⟨g, cap, hv⟩
  have H1 := Lib.hid h1
  have H4 := Lib.hid (show ∀ j, 0 ≤ j → j < len → InI w (p j) (p (j + 1)) (atV vs j) (nthI xss j) from fun j _ hj => (h4 j hj).2)
  have LI := Lib.hid (show ∀ j, j < len → (nthI xss j).length ≤ 1048576 from fun j hj => by
    have a1 := szJ_mono xss (show j + 1 ≤ len by omega)
    rw [szJ] at a1
    omega)
  clear h1 h2 h4 hsz hpm hlen
  have hca : ∃ a cap, v = .slice a len cap := by
    rcases hsh with ⟨rfl, rfl⟩ | ⟨g, cap, rfl⟩
    · exact ⟨_, _, rfl⟩
    · exact ⟨_, _, rfl⟩
  obtain ⟨aa, cap, rfl⟩ := hca
  go_enter Try.func10, Try.ntmps10
  go_wp2
  go_loopw [1, 5] (fun c i wr => ∃ (k : Nat) (r : Int), k ≤ len ∧ i = .int .i64 k ∧ c = .int .i64 r ∧ 0 ≤ r ∧ r ≤ n + 2097152 ∧ Hid (r = n + (szJ xss k : Int)) ∧ Hid (wr.ownsRow lo 33 1 (.slice aa len cap) len vs) ∧ Hid (∀ j, k ≤ j → j < len → InI wr (p j) (p (j + 1)) (atV vs j) (nthI xss j)) ∧ Within lo hi w wr) (fun _ i _ => len - (intOf i).toNat)
  case atStart => exact ⟨0, n, Nat.zero_le _, rfl, rfl, by omega, by omega, (show _ = _ by simp [szJ]), H1, H4, Within.refl _ _ _⟩
  case round =>
    obtain ⟨k, r, hk, rfl, rfl, hr0, hr1, hr, hown, hin, hwi⟩ := hrel
    by_cases hlt : k < len
    · obtain ⟨g, cp, hsl⟩ := hsh.resolve_left (by omega)
      cases hsl
      obtain ⟨a1, c1, hv1, hat1⟩ := (hin.out k (Nat.le_refl _) hlt).at
      have hcell : wr.cell? ⟨g, k, none⟩ = some (.slice a1 (nthI xss k).length c1) := by
        rw [← hv1]
        exact (hown.out.cellAt k (by omega)).trans (atV_some (by omega))
      have I1 := Lib.hid (hin.out k (Nat.le_refl _) hlt)
      rw [hv1] at I1
      have hl1 := LI.out k hlt
      obtain ⟨m, hm⟩ : ∃ m, m = (nthI xss k).length := ⟨_, rfl⟩
      have hS2 : szJ xss (k + 1) ≤ 1048576 := Nat.le_trans (szJ_mono xss hlt) S.out
      have hr2 : r + (m : Int) = n + (szJ xss (k + 1) : Int) := by rw [hr.out, szJ, hm]; omega
      have hr3 : r + (m : Int) ≤ n + 2097152 := by omega
      have R2 := Lib.hid hr2
      have M := Lib.hid hm
      rw [← hm] at hcell I1 hl1
      clear hat1 hm hr2 hr hS2
      go_wp2_with fail
      refine (markI_in (nthI xss k) _ _ _ r _ (by rw [← M.out]; exact hl1) hr0 (by omega) I1.out).mono ?_
      rw [← M.out]
      rintro e w1 ⟨rfl, -, -, hg1⟩
      have hpk := PM.out k (k + 1) (by omega) (by omega)
      have hp0 := PM.out 0 k (by omega) (by omega)
      have hpl := PM.out (k + 1) len (by omega) (by omega)
      have W1 := Lib.hid (hwi.grown hg1 (fun q hq => by have := I1.out.2.2 q hq; omega))
      have O1 := Lib.hid (World.ownsRow.kept hown.out hg1 (by
        right
        intro e
        have h1 := HOB.out g rfl
        have h2 := I1.out.2.2 g e.symm
        omega))
      have N1 := Lib.hid (show ∀ j, k + 1 ≤ j → j < len → InI w1 (p j) (p (j + 1)) (atV vs j) (nthI xss j) from fun j hj hj2 => (hin.out j (by omega) hj2).other I1.out.2.2 hg1 (.inr (PM.out (k + 1) j hj (by omega))))
      clear hown hin hwi I1 hg1
      go_wp2
      go_roundw
      case rel => exact ⟨k + 1, r + (m : Int), hlt, by go_num, rfl, by omega, hr3, R2, O1, N1, W1.out⟩
      case measure => simp [intOf]; omega
    · obtain rfl : k = len := by omega
      go_wp2
      go_ret
      exact ⟨r, rfl, hr0, hr1, hwi⟩


theorem InII.within {w w' : World} {lo hi lo' hi' : Nat} {v : Value} {xss : List (List Int)} (h : InII w lo hi v xss) (hw : Within lo' hi' w w') (hd : hi ≤ lo' ∨ hi' ≤ lo) : InII w' lo hi v xss := by
  obtain ⟨vs, p, h1, h2, h3, h4, h5, h6⟩ := h
  have pm : ∀ i j, i ≤ j → j ≤ xss.length → p i ≤ p j := fun i j => mono_to (fun j hj => (h4 j hj).1)
  have p0 := pm 0 xss.length (by omega) (by omega)
  refine ⟨vs, p, row_within h1 (hi := hi) (fun k hk => ⟨(h2 k hk).1, by have := (h2 k hk).2; omega⟩) hw hd, h2, h3, fun j hj => ⟨(h4 j hj).1, (h4 j hj).2.within hw ?_⟩, h5, Nat.le_trans h6 hw.size⟩
  have a1 := pm 0 j (by omega) (by omega)
  have a2 := pm (j + 1) xss.length (by omega) (by omega)
  omega
theorem InII.other {w w' : World} {lo hi lo' hi' : Nat} {v u : Value} {xss : List (List Int)} (h : InII w lo hi v xss) (hu : ∀ k, u.ownBlock = some k → lo' ≤ k ∧ k < hi') (hg : w.grownBy w' u.ownBlock) (hd : hi ≤ lo' ∨ hi' ≤ lo) : InII w' lo hi v xss :=
  h.within ((Within.refl lo' hi' w).grown hg hu) hd
/-- A list of lists of int64 that came in. -/
def IsIntsS (w : World) (a : Option Addr) (len : Nat) (xss : List (List Int)) : Prop := AtII w a len xss ∧ len ≤ maxLen ∧ ∀ j, j < len → (nthI xss j).length ≤ maxLen
theorem szJ_all {xss : List (List Int)} {n : Nat} (h : szJ xss n ≤ 1048576) : ∀ j, j < n → (nthI xss j).length ≤ 1048576 := fun j hj => by
  have a1 := szJ_mono xss (show j + 1 ≤ n by omega)
  rw [szJ] at a1
  omega

section
open Go.ChangeShapes Go.WideShapes Go.Deep
variable {H : Type} {enc : TypeId × Value → H} {P : Program} {w : World} {base : Nat} {spare : Nat → Bool} {held : Bool}
theorem open_intss {t s e : TypeId} {fuel : Nat} {cs : List Value} {x : DataW H × List MemPlace} (hs : P.underlying t = some (.slice s)) (ht : P.underlying s = some (.slice e)) (he : P.underlying e = some (.int .i64)) (hC : P.cellsOf e = 1) (hC1 : P.cellsOf s = 1) (h : DataW.trod enc P w base spare held fuel t cs = some x) :
    ∃ (a : Option Addr) (len cap : Nat) (xss : List (List Int)), cs = [.slice a len cap] ∧ IsIntsS w a len xss := by
  rcases open_slice hs h with hz | ⟨a, len, cap, m, n, D, Pl, hcs, hb, hl, hm, hmm, hx, hi⟩
  · exact ⟨none, 0, 0, [], hz.1, ⟨rfl, .inl rfl⟩, by unfold maxLen; omega, fun j hj => absurd hj (by omega)⟩
  have hlm : len ≤ m := by rw [hmm]; split <;> omega
  have hcell : ∀ i, i < len → ∃ (a' : Option Addr) (cap' : Nat) (xs : List Int), w.cell? (a.add i) = some (.slice a' xs.length cap') ∧ (At w a' xs.length xs ∧ xs.length ≤ maxLen) := by
    intro i hil
    obtain ⟨cs', hc, ht'⟩ := hi i (by omega)
    rw [hC1, Nat.mul_one] at hc
    obtain ⟨a1, cap1, xs, hcs1, hn1⟩ : ∃ (a1 : Option Addr) (cap1 : Nat) (xs : List Int), cs' = [.slice a1 xs.length cap1] ∧ At w a1 xs.length xs ∧ xs.length ≤ maxLen := by
      rcases open_ints ht he hC ht' with ⟨h1, _⟩ | ⟨p, l, c, zs, h1, _, h2, h3, h4, _, h5, h6⟩
      · exact ⟨none, 0, [], h1, ⟨rfl, .inl rfl⟩, by show 0 ≤ maxLen; unfold maxLen; omega⟩
      · have hzl : l ≤ zs.length := by rw [h4]; split <;> omega
        have hl1 : (zs.take l).length = l := by rw [List.length_take]; omega
        refine ⟨some p, c, zs.take l, by rw [h1, hl1], ?_, by rw [hl1]; omega⟩
        refine ⟨rfl, ?_⟩
        rw [hl1]
        by_cases hz : l = 0
        · exact .inl hz
        · obtain ⟨b, off, spot⟩ := p
          have hc0 := h5 0 (by omega)
          have hspot : spot = none := by simpa [Addr.add] using World.cell?_spot hc0
          subst hspot
          have hadd : ∀ j, (⟨b, off, none⟩ : Addr).add j = ⟨b, off + j, none⟩ := fun j => by unfold Addr.add; split <;> simp_all
          refine .inr ⟨b, off, rfl, ?_, fun j hj => ?_⟩
          · rw [hadd] at hc0; exact World.block_lt_of_cell? w _ hc0
          · have h7 := h5 j (by omega)
            rw [hadd] at h7
            rw [h7]
            have h8 : nth (zs.take l) j = zs.getD j 0 := by unfold nth; simp [List.getD, List.getElem?_take, hj]
            rw [h8]
    subst hcs1
    obtain ⟨_, hcl, hat⟩ := World.cells?_some hc
    have a0 := hat 0 (by omega)
    rw [Go.Deep.add_add, Nat.add_zero] at a0
    exact ⟨a1, cap1, xs, a0, hn1⟩
  have hx : ∃ xss : List (List Int), xss.length = len ∧ ∀ i, i < len → ∃ (a' : Option Addr) (cap' : Nat), w.cell? (a.add i) = some (.slice a' (nthI xss i).length cap') ∧ (At w a' (nthI xss i).length (nthI xss i) ∧ (nthI xss i).length ≤ maxLen) := by
    clear hx hi hcs hb hl hm hmm hlm
    induction len with
    | zero => exact ⟨[], rfl, fun i h => absurd h (by omega)⟩
    | succ len ih =>
      obtain ⟨xss, hxl, hxs⟩ := ih (fun i hi => hcell i (by omega))
      obtain ⟨a', cap', xs, hk, hn⟩ := hcell len (by omega)
      refine ⟨xss ++ [xs], by simp [hxl], fun i hi => ?_⟩
      by_cases e : i = len
      · subst e
        have e1 : nthI (xss ++ [xs]) i = xs := by unfold nthI; simp [List.getD, ← hxl]
        rw [e1]
        exact ⟨a', cap', hk, hn⟩
      · have hil : i < xss.length := by omega
        have e1 : nthI (xss ++ [xs]) i = nthI xss i := by unfold nthI; simp [List.getD, List.getElem?_append_left hil]
        rw [e1]
        exact hxs i (by omega)
  obtain ⟨xss, hxl, hxs⟩ := hx
  refine ⟨some a, len, cap, xss, hcs, ⟨hxl.symm, ?_⟩, by omega, fun j hj => ?_⟩
  · by_cases hz : len = 0
    · exact .inl hz
    · right
      obtain ⟨a', cap', hc, -⟩ := hxs 0 (by omega)
      obtain ⟨b, off, spot⟩ := a
      have hspot : spot = none := by simpa [Addr.add] using World.cell?_spot hc
      subst hspot
      have hadd : ∀ j, (⟨b, off, none⟩ : Addr).add j = ⟨b, off + j, none⟩ := fun j => by unfold Addr.add; split <;> simp_all
      refine ⟨b, off, rfl, ?_, fun j hj => ?_⟩
      · rw [hadd] at hc; exact World.block_lt_of_cell? w _ hc
      · obtain ⟨a', cap', h2, h3⟩ := hxs j hj
        rw [hadd] at h2
        exact ⟨a', cap', h2, h3.1⟩
  · obtain ⟨a', cap', -, h3⟩ := hxs j hj
    exact h3.2
end

end Go.Proofs.Ytfpnmeacnhcakaa
