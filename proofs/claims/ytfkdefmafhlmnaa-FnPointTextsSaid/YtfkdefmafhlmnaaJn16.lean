/- 2 texts in one: StrL, Dmg. -/
import Derived.RegionTactic
import Derived.BigRegion
import Derived.Deep.RegionWith
import Derived.Test.YtfkdefmafhlmnaaStrS
import Derived.Test.YtfkdefmafhlmnaaJn04
import Derived.Test.YtfkdefmafhlmnaaJn03
/- Lists of strings that a call owns: the contracts of compare, mark and held over them. Conditions: those in the theorems. -/
namespace Go.Proofs.Ytfkdefmafhlmnaa
open Go.RowKit

def nthS (ss : List (List UInt8)) (j : Nat) : List UInt8 := ss.getD j []
def cS (ss : List (List UInt8)) : List Value := ss.map fun s => .string (stx s)
theorem cS_at {ss : List (List UInt8)} {j : Nat} (h : j < ss.length) : (cS ss)[j]? = some (.string (stx (nthS ss j))) := by simp [cS, nthS, List.getD_eq_getElem?_getD, h]
def OwnS (w : World) (B : Nat) (v : Value) (ss : List (List UInt8)) : Prop := w.ownsRow B 9 1 v ss.length (cS ss)
def AtS (w : World) (a : Option Addr) (len : Nat) (ss : List (List UInt8)) : Prop :=
  len = ss.length ∧ (len = 0 ∨ ∃ b off, a = some ⟨b, off, none⟩ ∧ b < w.heap.size ∧ ∀ j, j < len → w.cell? ⟨b, off + j, none⟩ = some (.string (stx (nthS ss j))))
theorem AtS.keep {w w' : World} {C : Nat} {a : Option Addr} {len : Nat} {ss : List (List UInt8)} (h : AtS w a len ss) (hb : Below C w w') (hC : w.heap.size ≤ C) : AtS w' a len ss := by
  refine ⟨h.1, ?_⟩
  rcases h.2 with h2 | ⟨b, off, ha, hlt, hc⟩
  · exact .inl h2
  · exact .inr ⟨b, off, ha, Nat.lt_of_lt_of_le hlt hb.size, fun j hj => (hb.cell (p := ⟨b, off + j, none⟩) (by show b < C; omega)).trans (hc j hj)⟩
theorem ownS_nil (w : World) (B : Nat) : OwnS w B (.slice none 0 0) [] := World.ownsRow_nil w B 9 1
theorem OwnS.at {w : World} {B : Nat} {v : Value} {ss : List (List UInt8)} (h : OwnS w B v ss) : ∃ a cap, v = .slice a ss.length cap ∧ AtS w a ss.length ss ∧ ss.length ≤ cap := by
  have h' := h
  rcases h.2 with ⟨hv, hn⟩ | ⟨g, cap, cur, hv, hg, hh, hc, hm, hs, ht⟩
  · exact ⟨none, 0, by rw [hv, hn], ⟨rfl, .inl hn⟩, by omega⟩
  · have hlt : g < w.heap.size := (Array.getElem?_eq_some_iff.1 hh).1
    subst hv
    refine ⟨some ⟨g, 0, none⟩, cap, rfl, ⟨rfl, .inr ⟨g, 0, rfl, hlt, fun j hj => ?_⟩⟩, hc⟩
    have e := h'.cellAt j (by omega)
    rw [Nat.zero_add, e, cS_at hj]
theorem OwnS.mono {w : World} {B B' : Nat} {v : Value} {ss : List (List UInt8)} (h : OwnS w B v ss) (hB : B' ≤ B) : OwnS w B' v ss := by
  refine ⟨h.1, ?_⟩
  rcases h.2 with h2 | ⟨g, cap, cur, hv, hg, r⟩
  · exact .inl h2
  · exact .inr ⟨g, cap, cur, hv, Nat.le_trans hB hg, r⟩
/-- The slice value v is the call's own, its block lies in lo .. hi - 1, and it holds ss. -/
def InS (w : World) (lo hi : Nat) (v : Value) (ss : List (List UInt8)) : Prop := OwnS w lo v ss ∧ hi ≤ w.heap.size ∧ ∀ k, v.ownBlock = some k → lo ≤ k ∧ k < hi
theorem OwnS.inS {w : World} {lo : Nat} {v : Value} {ss : List (List UInt8)} (h : OwnS w lo v ss) : InS w lo w.heap.size v ss := ⟨h, Nat.le_refl _, World.ownsRow.lt h⟩
theorem InS.below {w w' : World} {lo hi C : Nat} {v : Value} {ss : List (List UInt8)} (h : InS w lo hi v ss) (hb : Below C w w') (hC : hi ≤ C) : InS w' lo hi v ss := by
  refine ⟨⟨h.1.1, ?_⟩, Nat.le_trans h.2.1 hb.size, h.2.2⟩
  rcases h.1.2 with h2 | ⟨g, cap, cur, hv, hg, hh, r⟩
  · exact .inl h2
  · have hlt := (h.2.2 g (by rw [hv]; rfl)).2
    exact .inr ⟨g, cap, cur, hv, hg, by rw [hb.block g (by omega)]; exact hh, r⟩
theorem InS.other {w w' : World} {lo hi lo' hi' : Nat} {v u : Value} {ss : List (List UInt8)} (h : InS w lo hi v ss) (hu : ∀ k, u.ownBlock = some k → lo' ≤ k ∧ k < hi') (hg : w.grownBy w' u.ownBlock) (hd : hi ≤ lo' ∨ hi' ≤ lo) : InS w' lo hi v ss := by
  refine ⟨World.ownsRow.kept h.1 hg ?_, Nat.le_trans h.2.1 hg.size, h.2.2⟩
  cases hv : v.ownBlock with
  | none => exact .inl rfl
  | some k =>
    right
    intro e
    have h1 := h.2.2 k hv
    have h2 := hu k e.symm
    omega
theorem InS.at {w : World} {lo hi : Nat} {v : Value} {ss : List (List UInt8)} (h : InS w lo hi v ss) : ∃ a cap, v = .slice a ss.length cap ∧ AtS w a ss.length ss := by
  obtain ⟨a, cap, hv, hat, -⟩ := h.1.at
  exact ⟨a, cap, hv, hat⟩

/-- The marks n, n + 1, .. -/
def mkS (n : Nat) : Nat → List (List UInt8)
  | 0 => []
  | k + 1 => mkS n k ++ [109 :: dgS (n + k)]
theorem mkS_len (n k : Nat) : (mkS n k).length = k := by induction k with | zero => rfl | succ k ih => simp [mkS, ih]
theorem mkS_nth (n k j : Nat) (h : j < k) : nthS (mkS n k) j = 109 :: dgS (n + j) := by
  induction k with
  | zero => omega
  | succ k ih =>
    have hl := mkS_len n k
    unfold nthS at *
    by_cases e : j = k
    · subst e; simp [mkS, List.getD, hl]
    · have := ih (by omega)
      simp only [mkS, List.getD_eq_getElem?_getD] at this ⊢
      rw [List.getElem?_append_left (by omega)]
      exact this
def mklS (ss : List (List UInt8)) (n j : Nat) : List (List UInt8) := mkS n j ++ ss.drop j
theorem mklS_len (ss : List (List UInt8)) (n j : Nat) (h : j ≤ ss.length) : (mklS ss n j).length = ss.length := by simp [mklS, mkS_len]; omega
theorem mklS_set (ss : List (List UInt8)) (n j : Nat) (h : j < ss.length) : (cS (mklS ss n j)).set j (.string (stx (109 :: dgS (n + j)))) = cS (mklS ss n (j + 1)) := by
  unfold cS
  rw [← List.map_set (f := fun s => Value.string (stx s)) (a := 109 :: dgS (n + j))]
  congr 1
  have e : ss.drop j = ss[j] :: ss.drop (j + 1) := List.drop_eq_getElem_cons h
  rw [mklS, mklS, mkS, e, List.set_append_right _ _ (by simp [mkS_len]), mkS_len, Nat.sub_self, List.set_cons_zero, List.append_assoc]
  rfl
theorem mklS_all (ss : List (List UInt8)) (n : Nat) : mklS ss n ss.length = mkS n ss.length := by simp [mklS]

end Go.Proofs.Ytfkdefmafhlmnaa

/- What the model's l01Damage and DrawParseFormula draw: some text that is not long. Conditions: those in the theorems. -/
namespace Go.Proofs.Ytfkdefmafhlmnaa
open Go.RowKit

def sgL : List (List UInt8) := [[112], [113], [70], [84], [126], [38], [124], [62], [40], [41], [91, 93], [60, 62], [32], [44], [59], [48], [49], [46], [91], [60], [120], [10]]
theorem sg_len : ∀ k : Nat, k < 22 → (nthS sgL k).length ≤ 2 := by decide
theorem ret_str {s t : ByteArray} (h : s = t) : Ending.returned (.string s) = .returned (.string t) := by rw [h]

set_option maxHeartbeats 4000000 in
theorem l01Damage_any (b : Nat) (a : Option Addr) (len cap : Nat) (t : ByteArray) (w : World) (B : Nat) (hBb : B ≤ b) (hBw : B ≤ w.heap.size) (ht : t.size ≤ 1000000) (hs : Src w b a len cap) (hc : Code B w a len) :
    Calls Try.prog 42 #[.pointer (some ⟨b, 0, none⟩), .string t] w fun e w' => (∃ u : ByteArray, e = .returned (.string u) ∧ u.size ≤ t.size + 2) ∧ Src w' b a len cap ∧ w.grownBy w' (some b) := by
  obtain ⟨W1, hW1⟩ : ∃ W1, W1 = w.alloc (.cells #[.string ⟨#[112]⟩, .string ⟨#[113]⟩, .string ⟨#[70]⟩, .string ⟨#[84]⟩, .string ⟨#[126]⟩, .string ⟨#[38]⟩, .string ⟨#[124]⟩, .string ⟨#[62]⟩, .string ⟨#[40]⟩, .string ⟨#[41]⟩, .string ⟨#[91, 93]⟩, .string ⟨#[60, 62]⟩, .string ⟨#[32]⟩, .string ⟨#[44]⟩, .string ⟨#[59]⟩, .string ⟨#[48]⟩, .string ⟨#[49]⟩, .string ⟨#[46]⟩, .string ⟨#[91]⟩, .string ⟨#[60]⟩, .string ⟨#[120]⟩, .string ⟨#[10]⟩] 9) := ⟨_, rfl⟩
  have O1 := Lib.hid (show OwnS W1 w.heap.size (.slice (some ⟨w.heap.size, 0, none⟩) 22 22) sgL by rw [hW1]; exact World.ownsRow_lit w _ 22 (Nat.le_refl _) (by decide) rfl)
  have hlt := hs.lt
  have G1 := Lib.hid (show w.grownBy W1 (some b) by rw [hW1]; exact World.grownBy_alloc w _ (some b))
  have S1 := Lib.hid (show Src W1 b a len cap by rw [hW1]; exact hs.alloc _)
  have C1 := Lib.hid (show Code B W1 a len from hc.grown G1.out hBb hBw)
  have HW1 := Lib.hid hW1
  have L1 := G1.out.size
  clear hs hc hW1
  go_enter Try.func42, Try.ntmps42
  go_wp2_with fail
  rw [← HW1.out]
  refine (l01Next_any b a len cap 22 _ B hBb S1.out C1.out).mono ?_
  rintro e w2 ⟨k, rfl, hk, hs, hg⟩
  have hk22 : k < 22 := by omega
  have O2 := Lib.hid (show OwnS w2 w.heap.size (.slice (some ⟨w.heap.size, 0, none⟩) 22 22) sgL from World.ownsRow.kept O1.out hg (.inr (by show (some w.heap.size : Option Nat) ≠ some b; intro e; cases e; omega)))
  obtain ⟨c, hcc⟩ : ∃ c, c = stx (nthS sgL k) := ⟨_, rfl⟩
  have g1 : w2.cell? ⟨w.heap.size, k, none⟩ = some (.string c) := by
    obtain ⟨a0, cap0, e0, hat, -⟩ := O2.out.at
    cases e0
    obtain ⟨b1, off1, e1, -, hc1⟩ := hat.2.resolve_left (by decide)
    cases e1
    have q := hc1 k hk22
    rw [hcc]
    simpa using q
  have CL := Lib.hid (show c.size ≤ 2 by rw [hcc]; exact sg_len k hk22)
  have G2 := Lib.hid (grown_trans G1.out hg)
  have S2 := Lib.hid hs
  have C2 := Lib.hid (C1.out.grown hg hBb (Nat.le_trans hBw L1))
  clear hs hg hk hcc O1 O2
  by_cases hz : t.size = 0
  · have h0 : ((t.size : Int) == 0) = true := by simp [hz]
    go_wp2_with fail
    go_ret
    exact ⟨⟨c, rfl, by have := CL.out; omega⟩, S2.out, G2.out⟩
  have h0 : ((t.size : Int) == 0) = false := by simp [hz]
  go_wp2_with fail
  refine (l01Next_any b a len cap t.size _ B hBb S2.out C2.out).mono ?_
  rintro e w3 ⟨k, rfl, hk, hs, hg⟩
  have hkt : k < t.size := by omega
  have L2 := G2.out.size
  have G3 := Lib.hid (grown_trans G2.out hg)
  have S3 := Lib.hid hs
  have C3 := Lib.hid (C2.out.grown hg hBb (Nat.le_trans hBw L2))
  clear hs hg hk L2 hk22 g1
  go_wp2_with fail
  refine (l01Next_any b a len cap 3 _ B hBb S3.out C3.out).mono ?_
  rintro e w4 ⟨j, rfl, hj, hs, hg⟩
  have G4 := Lib.hid (grown_trans G3.out hg)
  have S4 := Lib.hid hs
  clear hs hg
  have hj3 : j = 0 ∨ j = 1 ∨ j = 2 := by omega
  clear hj
  have hk1 : (k : Int) ≤ t.size := by omega
  have hk2 : (k : Int) + 1 ≤ t.size := by omega
  have hA : ¬ 9223372036854775807 < min k t.size + c.size := by have := CL.out; omega
  have hA1 : ¬ 9223372036854775807 < min k t.size + c.size + (t.size - (k + 1)) := by have := CL.out; omega
  have hA2 : ¬ 9223372036854775807 < min k t.size + c.size + (t.size - k) := by have := CL.out; omega
  have hA3 : ¬ 9223372036854775807 < min k t.size + (t.size - (k + 1)) := by have := CL.out; omega
  rcases hj3 with rfl | rfl | rfl
  · go_wp2
    go_region
    all_goals
      go_wp2
      go_ret
      exact ⟨⟨_, rfl, by have := CL.out; simp; omega⟩, S4.out, ⟨G4.out.os, G4.out.tape, G4.out.output, G4.out.size, G4.out.block⟩⟩
  · go_wp2
    go_region
    all_goals
      go_wp2
      go_ret
      exact ⟨⟨_, rfl, by have := CL.out; simp; omega⟩, S4.out, ⟨G4.out.os, G4.out.tape, G4.out.output, G4.out.size, G4.out.block⟩⟩
  · go_wp2
    go_region
    all_goals
      go_wp2
      go_ret
      exact ⟨⟨_, rfl, by have := CL.out; simp; omega⟩, S4.out, ⟨G4.out.os, G4.out.tape, G4.out.output, G4.out.size, G4.out.block⟩⟩

end Go.Proofs.Ytfkdefmafhlmnaa
