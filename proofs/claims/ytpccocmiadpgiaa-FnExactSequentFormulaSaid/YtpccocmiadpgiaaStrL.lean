/- Lists of strings that a call owns: the contracts of compare, mark and held over them. Conditions: those in the theorems. -/
import Derived.RegionTactic
import Derived.BigRegion
import Derived.Deep.RegionWith
import Derived.Test.YtpccocmiadpgiaaStrS
import Derived.Test.YtpccocmiadpgiaaJn02
namespace Go.Proofs.Ytpccocmiadpgiaa
open Go.RowKit

def nthS (ss : List (List UInt8)) (j : Nat) : List UInt8 := ss.getD j []
def cS (ss : List (List UInt8)) : List Value := ss.map fun s => .string (stx s)
theorem cS_at {ss : List (List UInt8)} {j : Nat} (h : j < ss.length) : (cS ss)[j]? = some (.string (stx (nthS ss j))) := by simp [cS, nthS, List.getD_eq_getElem?_getD, h]
def OwnS (w : World) (B : Nat) (v : Value) (ss : List (List UInt8)) : Prop := w.ownsRow B 9 1 v ss.length (cS ss)
def AtS (w : World) (a : Option Addr) (len : Nat) (ss : List (List UInt8)) : Prop :=
  len = ss.length ∧ (len = 0 ∨ ∃ b off, a = some ⟨b, off, none⟩ ∧ b < w.heap.size ∧ ∀ j, j < len → w.cell? ⟨b, off + j, none⟩ = some (.string (stx (nthS ss j))))
theorem AtS.keep {w w' : World} {C : Nat} {a : Option Addr} {len : Nat} {ss : List (List UInt8)} (h : AtS w a len ss) (hb : Below C w w') (hC : w.heap.size ≤ C) : AtS w' a len ss := by
  refine ⟨h.1, ?_⟩
  rcases h.2 with h2 | ⟨b, off, ha, hlt, hc⟩
  · exact .inl h2
  · exact .inr ⟨b, off, ha, Nat.lt_of_lt_of_le hlt hb.size, fun j hj => (hb.cell (p := ⟨b, off + j, none⟩) (by show b < C; omega)).trans (hc j hj)⟩
theorem ownS_nil (w : World) (B : Nat) : OwnS w B (.slice none 0 0) [] := World.ownsRow_nil w B 9 1
theorem OwnS.at {w : World} {B : Nat} {v : Value} {ss : List (List UInt8)} (h : OwnS w B v ss) : ∃ a cap, v = .slice a ss.length cap ∧ AtS w a ss.length ss ∧ ss.length ≤ cap := by
  have h' := h
  rcases h.2 with ⟨hv, hn⟩ | ⟨g, cap, cur, hv, hg, hh, hc, hm, hs, ht⟩
  · exact ⟨none, 0, by rw [hv, hn], ⟨rfl, .inl hn⟩, by omega⟩
  · have hlt : g < w.heap.size := (Array.getElem?_eq_some_iff.1 hh).1
    subst hv
    refine ⟨some ⟨g, 0, none⟩, cap, rfl, ⟨rfl, .inr ⟨g, 0, rfl, hlt, fun j hj => ?_⟩⟩, hc⟩
    have e := h'.cellAt j (by omega)
    rw [Nat.zero_add, e, cS_at hj]
theorem OwnS.mono {w : World} {B B' : Nat} {v : Value} {ss : List (List UInt8)} (h : OwnS w B v ss) (hB : B' ≤ B) : OwnS w B' v ss := by
  refine ⟨h.1, ?_⟩
  rcases h.2 with h2 | ⟨g, cap, cur, hv, hg, r⟩
  · exact .inl h2
  · exact .inr ⟨g, cap, cur, hv, Nat.le_trans hB hg, r⟩
/-- The slice value v is the call's own, its block lies in lo .. hi - 1, and it holds ss. -/
def InS (w : World) (lo hi : Nat) (v : Value) (ss : List (List UInt8)) : Prop := OwnS w lo v ss ∧ hi ≤ w.heap.size ∧ ∀ k, v.ownBlock = some k → lo ≤ k ∧ k < hi
theorem OwnS.inS {w : World} {lo : Nat} {v : Value} {ss : List (List UInt8)} (h : OwnS w lo v ss) : InS w lo w.heap.size v ss := ⟨h, Nat.le_refl _, World.ownsRow.lt h⟩
theorem InS.below {w w' : World} {lo hi C : Nat} {v : Value} {ss : List (List UInt8)} (h : InS w lo hi v ss) (hb : Below C w w') (hC : hi ≤ C) : InS w' lo hi v ss := by
  refine ⟨⟨h.1.1, ?_⟩, Nat.le_trans h.2.1 hb.size, h.2.2⟩
  rcases h.1.2 with h2 | ⟨g, cap, cur, hv, hg, hh, r⟩
  · exact .inl h2
  · have hlt := (h.2.2 g (by rw [hv]; rfl)).2
    exact .inr ⟨g, cap, cur, hv, hg, by rw [hb.block g (by omega)]; exact hh, r⟩
theorem InS.other {w w' : World} {lo hi lo' hi' : Nat} {v u : Value} {ss : List (List UInt8)} (h : InS w lo hi v ss) (hu : ∀ k, u.ownBlock = some k → lo' ≤ k ∧ k < hi') (hg : w.grownBy w' u.ownBlock) (hd : hi ≤ lo' ∨ hi' ≤ lo) : InS w' lo hi v ss := by
  refine ⟨World.ownsRow.kept h.1 hg ?_, Nat.le_trans h.2.1 hg.size, h.2.2⟩
  cases hv : v.ownBlock with
  | none => exact .inl rfl
  | some k =>
    right
    intro e
    have h1 := h.2.2 k hv
    have h2 := hu k e.symm
    omega
theorem InS.at {w : World} {lo hi : Nat} {v : Value} {ss : List (List UInt8)} (h : InS w lo hi v ss) : ∃ a cap, v = .slice a ss.length cap ∧ AtS w a ss.length ss := by
  obtain ⟨a, cap, hv, hat, -⟩ := h.1.at
  exact ⟨a, cap, hv, hat⟩

set_option maxHeartbeats 1000000 in
theorem eqStringS_any (ss : List (List UInt8)) (a a' : Option Addr) (len cap cap' : Nat) (w : World) (hl : len ≤ 1048576) (h : AtS w a len ss) (h' : AtS w a' len ss) :
    Calls Try.prog 25 #[.slice a len cap, .slice a' len cap'] w fun e w' => e = .returned (.bool true) ∧ Below w.heap.size w w' := by
  have H := Lib.hid h
  have H' := Lib.hid h'
  clear h h'
  go_enter Try.func25, Try.ntmps25
  go_wp2
  go_loopw [5] (fun i wr => ∃ k : Nat, k ≤ len ∧ i = .int .i64 k ∧ Below w.heap.size w wr) (fun i _ => len - (intOf i).toNat)
  case atStart => exact ⟨0, Nat.zero_le _, rfl, Below.refl _ _⟩
  case round =>
    obtain ⟨k, hk, rfl, hbel⟩ := hrel
    by_cases hlt : k < len
    · obtain ⟨b, off, rfl, hb, hc⟩ := H.out.2.resolve_left (by omega)
      obtain ⟨b', off', rfl, hb', hc'⟩ := H'.out.2.resolve_left (by omega)
      obtain ⟨s, hs⟩ : ∃ s, s = stx (nthS ss k) := ⟨_, rfl⟩
      have g1 : wr.cell? ⟨b, off + k, none⟩ = some (.string s) := by rw [hs]; exact (hbel.cell (p := ⟨b, off + k, none⟩) hb).trans (hc k hlt)
      have g2 : wr.cell? ⟨b', off' + k, none⟩ = some (.string s) := by rw [hs]; exact (hbel.cell (p := ⟨b', off' + k, none⟩) hb').trans (hc' k hlt)
      clear hc hc' hs
      go_wp2
      go_region
      all_goals
        go_wp2
        go_roundw
        case rel => exact ⟨k + 1, hlt, by go_num, hbel.drew⟩
        case measure => simp [intOf]; omega
    · obtain rfl : k = len := by omega
      go_wp2
      go_ret
      exact ⟨rfl, hbel⟩

theorem eqS_in (ss : List (List UInt8)) (v v' : Value) (lo hi lo' hi' : Nat) (w : World) (hl : ss.length ≤ 1048576) (h : InS w lo hi v ss) (h' : InS w lo' hi' v' ss) :
    Calls Try.prog 25 #[v, v'] w fun e w' => e = .returned (.bool true) ∧ Below w.heap.size w w' := by
  obtain ⟨a, cap, rfl, hat⟩ := h.at
  obtain ⟨a', cap', rfl, hat'⟩ := h'.at
  exact eqStringS_any ss a a' ss.length cap cap' w hl hat hat'

/-- The marks n, n + 1, .. -/
def mkS (n : Nat) : Nat → List (List UInt8)
  | 0 => []
  | k + 1 => mkS n k ++ [109 :: dg (n + k)]
theorem mkS_len (n k : Nat) : (mkS n k).length = k := by induction k with | zero => rfl | succ k ih => simp [mkS, ih]
theorem mkS_nth (n k j : Nat) (h : j < k) : nthS (mkS n k) j = 109 :: dg (n + j) := by
  induction k with
  | zero => omega
  | succ k ih =>
    have hl := mkS_len n k
    unfold nthS at *
    by_cases e : j = k
    · subst e; simp [mkS, List.getD, hl]
    · have := ih (by omega)
      simp only [mkS, List.getD_eq_getElem?_getD] at this ⊢
      rw [List.getElem?_append_left (by omega)]
      exact this
def mklS (ss : List (List UInt8)) (n j : Nat) : List (List UInt8) := mkS n j ++ ss.drop j
theorem mklS_len (ss : List (List UInt8)) (n j : Nat) (h : j ≤ ss.length) : (mklS ss n j).length = ss.length := by simp [mklS, mkS_len]; omega
theorem mklS_set (ss : List (List UInt8)) (n j : Nat) (h : j < ss.length) : (cS (mklS ss n j)).set j (.string (stx (109 :: dg (n + j)))) = cS (mklS ss n (j + 1)) := by
  unfold cS
  rw [← List.map_set (f := fun s => Value.string (stx s)) (a := 109 :: dg (n + j))]
  congr 1
  have e : ss.drop j = ss[j] :: ss.drop (j + 1) := List.drop_eq_getElem_cons h
  rw [mklS, mklS, mkS, e, List.set_append_right _ _ (by simp [mkS_len]), mkS_len, Nat.sub_self, List.set_cons_zero, List.append_assoc]
  rfl
theorem mklS_all (ss : List (List UInt8)) (n : Nat) : mklS ss n ss.length = mkS n ss.length := by simp [mklS]

set_option maxHeartbeats 1000000 in
set_option maxRecDepth 100000 in
theorem markStringS_any (ss : List (List UInt8)) (v : Value) (B n : Nat) (w : World) (hl : ss.length ≤ 1048576) (hn : 0 < n) (hn2 : n ≤ 536870912) (h : OwnS w B v ss) :
    Calls Try.prog 35 #[v, .int .i64 n] w fun e w' => e = .returned (.int .i64 ((n + ss.length : Nat) : Int)) ∧ OwnS w' B v (mkS n ss.length) ∧ Below B w w' ∧ w.grownBy w' v.ownBlock := by
  obtain ⟨hlen, ⟨rfl, hn0⟩ | ⟨g, cap, cur, rfl, hg, hh, hcc, hm, hs, ht⟩⟩ := id h
  · obtain rfl : ss = [] := List.eq_nil_of_length_eq_zero hn0
    have H := Lib.hid h
    clear h hlen hn0
    go_enter Try.func35, Try.ntmps35
    go_wp2
    refine wp_loop_rounds 1 ?_
    rw [rounds_succ]
    go_wp2
    go_ret
    exact ⟨ret_int (by simp), H.out, Below.refl _ _, World.grownBy.refl _ _⟩
  · obtain ⟨len, hlen2⟩ : ∃ len, len = ss.length := ⟨_, rfl⟩
    have hlb : len ≤ 1048576 := by omega
    have hgl : g < w.heap.size := (Array.getElem?_eq_some_iff.1 hh).1
    unfold OwnS at h
    rw [← hlen2] at h ⊢
    have HL := Lib.hid hlen2
    clear hlen2 hlen hh hs ht hl hcc
    have hg' := hg
    clear hg
    have HH := Lib.hid (show w.ownsRow B 9 1 (.slice (some ⟨g, 0, none⟩) len cap) len (cS (mklS ss n 0)) from h)
    clear h
    go_enter Try.func35, Try.ntmps35
    go_wp2
    go_loopw [1, 5] (fun c i wr => ∃ k : Nat, k ≤ len ∧ i = .int .i64 k ∧ c = .int .i64 ((n : Int) + k) ∧ wr.ownsRow B 9 1 (.slice (some ⟨g, 0, none⟩) len cap) len (cS (mklS ss n k)) ∧ Below B w wr ∧ w.grownBy wr (some g)) (fun _ i _ => len - (intOf i).toNat)
    case atStart => exact ⟨0, Nat.zero_le _, rfl, by simp, HH.out, Below.refl _ _, World.grownBy.refl _ _⟩
    case round =>
      obtain ⟨k, hk, rfl, rfl, hown, hbel, hgr⟩ := hrel
      by_cases hlt : k < len
      · have OW := Lib.hid hown
        have BL := Lib.hid hbel
        have GR := Lib.hid hgr
        clear hown hbel hgr
        go_wp2_with fail
        have hcall := markText_any (n + k) wr (by omega) (by omega)
        rw [show ((n + k : Nat) : Int) = (n : Int) + (k : Int) by omega] at hcall
        refine hcall.mono ?_
        clear hcall
        rintro e w1 ⟨rfl, hb1⟩
        have hown1 : w1.ownsRow B 9 1 (.slice (some ⟨g, 0, none⟩) len cap) len (cS (mklS ss n k)) := World.ownsRow.kept OW.out (row := none) ⟨hb1.os, hb1.tape, hb1.output, hb1.size, fun i hi _ => hb1.block i hi⟩ (by right; intro e; cases e)
        have hgl1 : g < wr.heap.size := Nat.lt_of_lt_of_le hgl GR.out.size
        obtain ⟨u, hu⟩ : ∃ u, (cS (mklS ss n k))[k]? = some u := ⟨_, List.getElem?_eq_getElem (by simp [cS, mklS_len ss n k (by rw [← HL.out]; exact hk)]; rw [← HL.out]; exact hlt)⟩
        have hcg : w1.cell? ⟨g, k, none⟩ = some u := (hown1.cellAt k (by omega)).trans hu
        have hfg : w1.frozen? ⟨g, k, none⟩ = false := hown1.frozenAt k
        have hs := hown1.stored k (.string (stx (109 :: dg (n + k))))
        rw [mklS_set ss n k (by rw [← HL.out]; exact hlt)] at hs
        have S1 := Lib.hid hs.1
        have hbw : Below B w w1 := BL.out.trans ⟨hb1.os, hb1.tape, hb1.output, hb1.size, fun i hi => hb1.block i (Nat.lt_of_lt_of_le (by omega) (Nat.le_refl _))⟩
        have BS := Lib.hid (hbw.setCell (p := ⟨g, k, none⟩) hg' (.string (stx (109 :: dg (n + k)))))
        have hg1 : w.grownBy w1 (some g) := ⟨hb1.os.trans GR.out.os, hb1.tape.trans GR.out.tape, hb1.output.trans GR.out.output, Nat.le_trans GR.out.size hb1.size, fun j hj hne => (hb1.block j (Nat.lt_of_lt_of_le hj GR.out.size)).trans (GR.out.block j hj hne)⟩
        have GS := Lib.hid (show w.grownBy (w1.setCell ⟨g, k, none⟩ (.string (stx (109 :: dg (n + k))))) (some g) from ⟨hs.2.os.trans hg1.os, hs.2.tape.trans hg1.tape, hs.2.output.trans hg1.output, Nat.le_trans hg1.size hs.2.size, fun j hj hne => (hs.2.block j (Nat.lt_of_lt_of_le hj hg1.size) hne).trans (hg1.block j hj hne)⟩)
        obtain ⟨s, hs2⟩ : ∃ s, s = stx (109 :: dg (n + k)) := ⟨_, rfl⟩
        rw [← hs2] at S1 BS GS ⊢
        clear hown1 hu hs hbw hg1 hs2 hb1
        go_wp2
        go_roundw
        case rel => exact ⟨k + 1, hlt, by go_num, by go_num, S1.out, BS.out, GS.out⟩
        case measure => simp [intOf]; omega
      · obtain rfl : k = len := by omega
        have HO := Lib.hid hown
        clear hown
        go_wp2
        go_ret
        refine ⟨ret_int (by omega), ?_, hbel, hgr⟩
        have ho := HO.out
        have e := HL.out
        rw [e, mklS_all] at ho
        unfold OwnS
        rw [mkS_len, e]
        exact ho

theorem markS_in (ss : List (List UInt8)) (v : Value) (lo hi n : Nat) (w : World) (hl : ss.length ≤ 1048576) (hn : 0 < n) (hn2 : n ≤ 536870912) (h : InS w lo hi v ss) :
    Calls Try.prog 35 #[v, .int .i64 n] w fun e w' => e = .returned (.int .i64 ((n + ss.length : Nat) : Int)) ∧ InS w' lo hi v (mkS n ss.length) ∧ Below lo w w' ∧ w.grownBy w' v.ownBlock :=
  (markStringS_any ss v lo n w hl hn hn2 h.1).mono fun _ _ ⟨h1, h2, h3, h4⟩ => ⟨h1, ⟨h2, Nat.le_trans h.2.1 h3.size, h.2.2⟩, h3, h4⟩

end Go.Proofs.Ytpccocmiadpgiaa
