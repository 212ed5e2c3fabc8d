/- The logics of a frame, by the program; LogicsOfFrame of both sides. Conditions: those in the theorems. -/
import Derived.Test.YtbaeacppojpplaaAm
namespace Go.Proofs.Ytbaeacppojpplaa
open Go.RowKit

/-- The mask of those among the first k numbers that p tells. -/
def mkTo (p : Nat → Bool) : Nat → Int
  | 0 => 0
  | k + 1 => if p k then bits .or .i64 (mkTo p k) (one (k : Int)) else mkTo p k
theorem mkTo_in (p : Nat → Bool) : ∀ k, k ≤ 16 → InMk 16 (mkTo p k) ∧ ∀ j, T (mkTo p k) j = (decide (j < k) && p j) := by
  intro k
  induction k with
  | zero => exact fun _ => ⟨InMk.zero 16, fun j => by rw [mkTo, T_zero]; simp⟩
  | succ k ih =>
    intro hk
    obtain ⟨h1, h2⟩ := ih (by omega)
    rw [mkTo]
    cases hp : p k
    · rw [if_neg (by decide)]
      refine ⟨h1, fun j => ?_⟩
      rw [h2]
      by_cases e : j = k
      · subst e; rw [hp]; simp
      · have : (decide (j < k + 1)) = decide (j < k) := decide_eq_decide.2 (by omega)
        rw [this]
    · rw [if_pos rfl]
      refine ⟨h1.or (by decide) (InMk.one (by decide) (by omega)), fun j => ?_⟩
      rw [T_or (by decide) h1 (InMk.one (by decide) (by omega)), h2, T_one (by omega)]
      by_cases e : j = k
      · subst e; rw [hp]; simp
      · have : (decide (j < k + 1)) = decide (j < k) := decide_eq_decide.2 (by omega)
        rw [this, decide_eq_false (show ¬ k = j from fun h => e h.symm), Bool.or_false]
theorem mkTo_yes {p : Nat → Bool} {k : Nat} (h : p k = true) : mkTo p (k + 1) = bits .or .i64 (mkTo p k) (one (k : Int)) := by rw [mkTo, if_pos h]
theorem mkTo_no {p : Nat → Bool} {k : Nat} (h : p k = false) : mkTo p (k + 1) = mkTo p k := by rw [mkTo, if_neg (by rw [h]; decide)]
theorem mkTo_bit (p : Nat → Bool) (j : Nat) (hj : j < 16) : bitB (mkTo p 16) j = p j := by
  obtain ⟨h1, h2⟩ := mkTo_in p 16 (Nat.le_refl _)
  rw [bitB_T (h1.bd (by decide)), h2, decide_eq_true hj, Bool.true_and]

set_option maxHeartbeats 4000000 in
set_option maxRecDepth 100000 in
theorem logics_any (n : Int) (xs : List Int) (a : Option Addr) (cap : Nat) (w : World) (h8 : xs.length ≤ 8) (hr : Rel xs.length (nth xs)) (h : At w a xs.length xs) :
    Calls Try.prog 51 #[.agg #[.int .i64 n, .slice a xs.length cap]] w fun e w' => e = .returned (.int .i64 (mkTo (fun j => lgB j xs) 16)) ∧ Below w.heap.size w w' := by
  obtain ⟨W, hW, HB, X⟩ : ∃ W : World, W = w.alloc (.cells #[.int .i64 n, .slice a xs.length cap] 31) ∧ Hid (Below w.heap.size w W) ∧ Hid (Bx W w.heap.size n a xs.length cap) := ⟨_, rfl, Lib.hid (alloc_keep _ _).1, Lib.hid (Bx.new _ _ _ _ _ _)⟩
  have HW := Lib.hid hW
  have H := Lib.hid (h.keep HB.out (Nat.le_refl _))
  have REL := Lib.hid hr
  clear h hW hr
  go_enter Try.func51, Try.ntmps51
  go_wp2_with fail
  rw [← HW.out]
  refine (logicTable_any _).mono ?_
  rintro e w1 ⟨b, rfl, -, ht, hb⟩
  have HT := Lib.hid ht
  have B1 := Lib.hid hb
  have hbs := ht.1
  clear ht hb
  go_wp2
  go_loopw [3, 8] (fun v i wr => ∃ k : Nat, k ≤ 16 ∧ i = .int .i64 k ∧ v = .int .i64 (mkTo (fun j => lgB j xs) k) ∧ Hid (Below W.heap.size W wr) ∧ Hid (Below w1.heap.size w1 wr)) (fun _ i _ => 16 - (intOf i).toNat)
  case atStart => exact ⟨0, by omega, rfl, rfl, B1, Lib.hid (Below.refl _ _)⟩
  case round =>
    obtain ⟨k, hk, rfl, rfl, BW, B2⟩ := hrel
    obtain ⟨m, hm⟩ : ∃ m, m = mkTo (fun j => lgB j xs) k := ⟨_, rfl⟩
    have HM := Lib.hid hm
    rw [← hm]
    clear hm
    by_cases hlt : k < 16
    · obtain ⟨h1, h2, h3, -⟩ := (HT.out.keep B2.out).2 k hlt
      obtain ⟨t, ht⟩ : ∃ t, t = stx (nthS nmL k) := ⟨_, rfl⟩
      obtain ⟨a', cap', hv, hat, -⟩ := h3.at
      obtain ⟨ns, hns⟩ : ∃ ns, ns = lax k := ⟨_, rfl⟩
      have hl3 : ns.length ≤ 3 := by rw [hns]; exact lax_len k
      have AA := Lib.hid (show AreA ns by rw [hns]; exact areA_lax k hlt)
      rw [hv] at h2
      rw [← ht] at h1
      rw [← hns] at h2 hat
      obtain ⟨r, hr⟩ : ∃ r, r = lgB k xs := ⟨_, rfl⟩
      have RR := Lib.hid (show hxB ns xs ns.length = r by rw [hr, hns]; rfl)
      have RES := Lib.hid (show (fun j => lgB j xs) k = r from hr.symm)
      obtain ⟨W5, hW5⟩ : ∃ W5, W5 = wr.alloc (.cells #[.string t, .slice a' ns.length cap'] 82) := ⟨_, rfl⟩
      have HW5 := Lib.hid hW5
      have k5 : Below wr.heap.size wr W5 := by rw [hW5]; exact (alloc_keep _ _).1
      have c0 : W5.cell? ⟨wr.heap.size, 0, none⟩ = some (.string t) := by rw [hW5]; exact World.cell?_alloc_new _ _ _ 0
      have c1 : W5.cell? ⟨wr.heap.size, 1, none⟩ = some (.slice a' ns.length cap') := by rw [hW5]; exact World.cell?_alloc_new _ _ _ 1
      have BW5 := Lib.hid (BW.out.trans (k5.mono BW.out.size))
      have B25 := Lib.hid (B2.out.trans (k5.mono B2.out.size))
      have HAT := Lib.hid (hat.keep k5 (Nat.le_refl _))
      obtain ⟨lt, x0, x1⟩ := X.out.keep BW.out
      clear ht hns hr hv hat h3 hW5 k5
      go_wp2_with fail
      rw [← HW5.out]
      refine (hasAxioms_any n xs a cap ns a' cap' _ h8 REL.out hl3 AA.out (H.out.keep BW5.out (Nat.le_refl _)) HAT.out).mono ?_
      rw [RR.out]
      rintro e w6 ⟨rfl, hb⟩
      have BW6 := Lib.hid (BW5.out.trans (hb.mono BW5.out.size))
      have B26 := Lib.hid (B25.out.trans (hb.mono B25.out.size))
      clear hb x0 x1 c0 c1 h1 h2
      cases r
      · have Q := Lib.hid (show mkTo (fun j => lgB j xs) (k + 1) = m by rw [mkTo_no (p := fun j => lgB j xs) (k := k) RES.out, HM.out])
        go_wp2
        go_roundw
        case rel => exact ⟨k + 1, hlt, by go_num, by rw [Q.out], BW6, B26⟩
        case measure => simp [intOf]; omega
      · have Q := Lib.hid (show mkTo (fun j => lgB j xs) (k + 1) = bits .or .i64 m (one (k : Int)) by rw [mkTo_yes (p := fun j => lgB j xs) (k := k) RES.out, HM.out])
        have ON := Lib.hid (show wrap64 (2 ^ k) = one (k : Int) by rw [one]; rfl)
        go_wp2
        go_roundw
        case rel => exact ⟨k + 1, hlt, by go_num, by rw [Q.out, ← ON.out], BW6, B26⟩
        case measure => simp [intOf]; omega
    · obtain rfl : k = 16 := by omega
      go_wp2
      go_ret
      exact ⟨ret_int HM.out, HB.out.trans (BW.out.mono HB.out.size)⟩

set_option maxHeartbeats 4000000 in
set_option maxRecDepth 100000 in
theorem namesOfLogics_any (m : Int) (p : Nat → Bool) (hp : ∀ j : Nat, j < 16 → bitB m (j : Int) = p j) (w : World) :
    Calls Try.prog 50 #[.int .i64 m] w fun e w' => ∃ v, e = .returned v ∧ OwnS w' w.heap.size v (lnTo p 16) ∧ Below w.heap.size w w' := by
  have HP := Lib.hid hp
  clear hp
  go_enter Try.func50, Try.ntmps50
  go_wp2_with fail
  refine (logicTable_any _).mono ?_
  rintro e w1 ⟨b, rfl, -, ht, hb⟩
  have HT := Lib.hid ht
  have B1 := Lib.hid hb
  clear ht hb
  go_wp2
  go_loopw [3, 8] (fun v i wr => ∃ k : Nat, k ≤ 16 ∧ i = .int .i64 k ∧ Hid (OwnS wr w1.heap.size v (lnTo p k)) ∧ Hid (Below w1.heap.size w1 wr)) (fun _ i _ => 16 - (intOf i).toNat)
  case atStart => exact ⟨0, by omega, rfl, Lib.hid (ownS_nil _ _), Lib.hid (Below.refl _ _)⟩
  case round =>
    obtain ⟨k, hk, rfl, O, B2⟩ := hrel
    by_cases hlt : k < 16
    · obtain ⟨h1, h2, h3, -⟩ := (HT.out.keep B2.out).2 k hlt
      have hkk : (k : Int) < 16 := by omega
      obtain ⟨t, ht⟩ : ∃ t, t = stx (nthS nmL k) := ⟨_, rfl⟩
      have TT := Lib.hid ht
      obtain ⟨a', cap', hv, -⟩ := h3.at
      rw [hv] at h2
      rw [← ht] at h1
      generalize (lax k).length = nn at h2
      obtain ⟨W5, hW5⟩ : ∃ W5, W5 = wr.alloc (.cells #[.string t, .slice a' nn cap'] 82) := ⟨_, rfl⟩
      have HW5 := Lib.hid hW5
      have k5 : Below wr.heap.size wr W5 := by rw [hW5]; exact (alloc_keep _ _).1
      have c0 : W5.cell? ⟨wr.heap.size, 0, none⟩ = some (.string t) := by rw [hW5]; exact World.cell?_alloc_new _ _ _ 0
      have B5 := Lib.hid (B2.out.trans (k5.mono B2.out.size))
      have O5 := Lib.hid (show OwnS W5 w1.heap.size _ _ from (O.out.inS.below k5 (Nat.le_refl _)).1)
      have LL := Lib.hid (lnTo_len p k)
      have E := HP.out k hlt
      obtain ⟨r, hr⟩ : ∃ r, r = p k := ⟨_, rfl⟩
      rw [← hr] at E
      have EE := Lib.hid E
      have PK := Lib.hid hr
      clear ht hv h3 hW5 k5 E hr O
      go_wp2_with fail
      rw [← HW5.out]
      refine (hasMember_any m (k : Int) _ (by omega) (by omega)).mono ?_
      rw [EE.out]
      rintro e w6 ⟨rfl, rfl⟩
      cases r
      · have Q := Lib.hid (show lnTo p (k + 1) = lnTo p k from lnTo_no PK.out.symm)
        clear c0 h1 h2
        go_wp2
        go_roundw
        case rel => exact ⟨k + 1, hlt, by go_num, by rw [Q.out]; exact O5, B5⟩
        case measure => simp [intOf]; omega
      · have Q := Lib.hid (show lnTo p (k + 1) = lnTo p k ++ [nthS nmL k] from lnTo_yes PK.out.symm)
        obtain ⟨W6, hW6⟩ : ∃ W6, W6 = W5.alloc (.cells #[.string t] 9) := ⟨_, rfl⟩
        have HW6 := Lib.hid hW6
        have k6 : Below W5.heap.size W5 W6 := by rw [hW6]; exact (alloc_keep _ _).1
        have B6 := Lib.hid (B5.out.trans (k6.mono B5.out.size))
        have O6 := Lib.hid (show OwnS W6 w1.heap.size _ _ from (O5.out.inS.below k6 (Nat.le_refl _)).1)
        have C6 := Lib.hid (show W6.cell? ⟨W5.heap.size, 0, none⟩ = some (.string (stx (nthS nmL k))) by rw [hW6, ← TT.out]; exact World.cell?_alloc_new _ _ _ 0)
        clear hW6 k6 O5 B5 h1 h2
        go_wp2_with (at_builtin; rw [← HW6.out]; refine list_appSat rfl _ _ rfl w1.heap.size _ _ rfl O6.out (nthS nmL k) ⟨W5.heap.size, 0, none⟩ 1 rfl C6.out (by have := LL.out; omega) B6.out.size ?_)
        intro v7 w7 ho7 hg7 hp7
        have O7 := Lib.hid (show OwnS w7 w1.heap.size v7 (lnTo p (k + 1)) by rw [Q.out]; exact ho7)
        have B7 := Lib.hid (B6.out.grown hg7 B6.out.size (fun g hg => OwnS.ge O6.out g hg))
        clear ho7 hg7 hp7 O6 B6 C6 c0
        go_wp2
        go_roundw
        case rel => exact ⟨k + 1, hlt, by go_num, O7, B7⟩
        case measure => simp [intOf]; omega
    · obtain rfl : k = 16 := by omega
      go_wp2
      go_ret
      exact ⟨_, rfl, O.out.mono B1.out.size, B1.out.trans (B2.out.mono B1.out.size)⟩

end Go.Proofs.Ytbaeacppojpplaa
