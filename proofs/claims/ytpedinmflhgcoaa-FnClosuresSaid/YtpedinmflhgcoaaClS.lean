/- Contracts of the model's CloseFrame. Conditions: those in the theorems. -/
import Derived.Test.YtpedinmflhgcoaaClo
namespace Go.Proofs.Ytpedinmflhgcoaa
open Go.RowKit

def syF (xs : List Int) (k t : Nat) : Int := if t < k then bits .or .i64 (nth xs t) (nth (bsL xs) t) else nth xs t
theorem sy_zero (xs : List Int) : tab xs.length (syF xs 0) = xs := by
  have e : syF xs 0 = nth xs := by funext t; unfold syF; rw [if_neg (by omega)]
  rw [e, tab_self]
theorem sy_all (xs : List Int) : tab xs.length (syF xs xs.length) = opL .or xs (bsL xs) xs.length := by
  apply List.ext_getElem?
  intro j
  by_cases hj : j < xs.length
  · have h1 : (tab xs.length (syF xs xs.length))[j]? = some (bits .or .i64 (nth xs j) (nth (bsL xs) j)) := by simp [tab, hj, syF]
    have h2 : j < (opL .or xs (bsL xs) xs.length).length := by rw [opL_len]; exact hj
    rw [h1, ← opL_nth .or xs (bsL xs) xs.length j hj, nth, List.getD, List.getElem?_eq_getElem h2]
    rfl
  · rw [List.getElem?_eq_none (by rw [tab_len]; omega), List.getElem?_eq_none (by rw [opL_len]; omega)]
theorem sy_set (xs : List Int) (k t : Nat) : (if t = k then bits .or .i64 (nth xs k) (nth (bsL xs) k) else syF xs k t) = syF xs (k + 1) t := by
  unfold syF
  by_cases e : t = k
  · subst e; rw [if_pos rfl, if_pos (by omega)]
  · rw [if_neg e]
    by_cases h2 : t < k
    · have h3 : t < k + 1 := by omega
      rw [if_pos h2, if_pos h3]
    · have h3 : ¬ t < k + 1 := by omega
      rw [if_neg h2, if_neg h3]
theorem sy_at (xs : List Int) (k : Nat) : syF xs k k = nth xs k := by unfold syF; rw [if_neg (by omega)]

/-- The row that the model closes in place. -/
def RowO (w : World) (B : Nat) (v : Value) (n : Nat) (F : Nat → Int) : Prop := w.ownsRow B 2 1 v n ((tab n F).map (Value.int .i64))
theorem RowO.cell {w : World} {B g c n : Nat} {F : Nat → Int} (h : RowO w B (.slice (some ⟨g, 0, none⟩) n c) n F) {j : Nat} (hj : j < n) : w.cell? ⟨g, j, none⟩ = some (.int .i64 (F j)) ∧ w.frozen? ⟨g, j, none⟩ = false :=
  ⟨(World.ownsRow.cellAt h j (by omega)).trans (tab_get hj), World.ownsRow.frozenAt h j⟩
theorem RowO.set {w : World} {B g c n : Nat} {F G : Nat → Int} {z : Int} {j : Nat} (h : RowO w B (.slice (some ⟨g, 0, none⟩) n c) n F) (e : ∀ t, (if t = j then z else F t) = G t) : RowO (w.setCell ⟨g, j, none⟩ (.int .i64 z)) B (.slice (some ⟨g, 0, none⟩) n c) n G := by
  unfold RowO
  rw [← tab_set e]
  exact (World.ownsRow.stored h j _).1
theorem RowO.drewN {w : World} {B n : Nat} {v : Value} {F : Nat → Int} (h : RowO w B v n F) (q : Nat) : RowO (w.drewN q) B v n F := h
theorem RowO.own {w : World} {B n : Nat} {v : Value} {F : Nat → Int} (h : RowO w B v n F) : Own w B v (tab n F) := by unfold Own; rw [tab_len]; exact h

/-- What the search through the pairs has seen. -/
def Seen (F : Nat → Int) (n k j : Nat) : Prop := ∀ x y, y < n → (x < k ∨ (x = k ∧ y < j)) → T (F x) y = true → bits .andNot .i64 (F x) (F y) = 0

set_option maxHeartbeats 4000000 in
set_option maxRecDepth 100000 in
theorem specCloseEu_any (xs E : List Int) (a : Option Addr) (cap : Nat) (w : World) (hl : xs.length ≤ 1048576) (hf : frB xs.length xs = true) (hE : EuSpec xs E) (h : At w a xs.length xs) (hca : a = none → cap = 0) :
    Calls Try.prog 31 #[.agg #[.int .i64 xs.length, .slice a xs.length cap], .int .i64 4] w fun e w' => RF w' w.heap.size E.length 0 E e ∧ Below w.heap.size w w' := by
  obtain ⟨W, hW, HB, X, Z, hWs⟩ := boxF1 w xs.length a xs.length cap
  have H := Lib.hid (h.keep HB.out (Nat.le_refl _))
  have hz0 : w.heap.size + 1 + 1 ≤ W.heap.size := by omega
  have HW := Lib.hid hW
  have HE := Lib.hid hE
  have F0 := Lib.hid hf
  have CA := Lib.hid hca
  obtain ⟨-, h8, -, hr⟩ := frB_ok hf
  have HR := Lib.hid hr
  clear h hWs hW hE hf hr hca
  go_enter Try.func31, Try.ntmps31
  go_wp2_with fail
  rw [← HW.out]
  refine (l05Is_any _ xs _ _ _ _ hl H.out).mono ?_
  rw [F0.out]
  rintro e w1 ⟨rfl, hb⟩
  have B1 := Lib.hid (HB.out.trans (hb.mono HB.out.size))
  have Z1 := Lib.hid (Z.out.keep hb)
  have H1 := Lib.hid (H.out.keep hb (Nat.le_refl _))
  have hz1 := hb.size
  obtain ⟨lt, x0, x0'⟩ := X.out.keep hb
  clear hb
  go_wp2_with fail
  clear x0 x0'
  refine (l01Own_any xs _ _ _ _ (by omega) H1.out CA.out).mono ?_
  rintro e w2 ⟨g, cap', rfl, hg, hown, hb⟩
  have hown' : RowO w2 w1.heap.size (.slice (some ⟨g, 0, none⟩) xs.length cap') xs.length (nth xs) := by unfold RowO; rw [tab_self]; exact hown
  have O2 := Lib.hid hown'
  have B2 := Lib.hid hb
  have EI := Lib.hid (Eui.start HR.out)
  have T0 := Lib.hid (show tot (nth xs) xs.length < xs.length * 256 + 1 from Nat.lt_succ_of_le (tot_bd _ _))
  clear hown hown' hb
  go_wp2
  go_loopg [9] (xs.length * 256 + 2) (fun n more wr => ∃ (F : Nat → Int) (b : Bool), more = .bool b ∧ Hid (RowO wr w1.heap.size (.slice (some ⟨g, 0, none⟩) xs.length cap') xs.length F) ∧ Hid (Eui xs F) ∧ Hid ((b = true → tot F xs.length + 1 < n) ∧ (b = false → Seen F xs.length xs.length 0)) ∧ Hid (Below w1.heap.size w1 wr))
  case atStart => exact ⟨nth xs, true, rfl, O2, EI, Lib.hid ⟨fun _ => by have := T0.out; omega, fun h => by cases h⟩, B2⟩
  case round =>
    rename World => wo
    obtain ⟨F0', b0, rfl, O, EU, BT, B⟩ := hrel
    clear O2 B2 EI T0
    cases b0
    · have EF := Lib.hid (show tab xs.length F0' = E from EU.out.stop HR.out (fun x y hx hy hxy => (andNot_zero (by omega) (EU.out.rel x hx) (EU.out.rel y hy)).1 (BT.out.2 rfl x y hy (.inl hx) hxy)) HE.out)
      have OE := Lib.hid (show Own wo w1.heap.size (.slice (some ⟨g, 0, none⟩) xs.length cap') E by rw [← EF.out]; exact O.out.own)
      obtain ⟨a5, k5, e5, hat5, -, hn5, -⟩ := OE.out.at
      have EL := Lib.hid HE.out.1
      rw [EL.out] at e5 hat5
      cases e5
      have H5 := Lib.hid hat5
      have Z5 := Lib.hid (Z1.out.keep B.out)
      have B5 := Lib.hid (B1.out.trans (B.out.mono B1.out.size))
      have hsz := B.out.size
      clear hat5 hn5
      go_wp2_with fail
      refine (l05Make_any E _ _ _ _ hl H5.out (fun h => by cases h)).mono ?_
      rintro e w3 ⟨v3, rfl, ho, hb⟩
      obtain ⟨a3, k3, rfl⟩ := ho.form
      obtain ⟨lt, z0, z1, z2, z3⟩ := Z5.out.keep hb
      have B6 := Lib.hid (B5.out.trans (hb.mono B5.out.size))
      have O3 := Lib.hid ho
      clear ho hb
      go_wp2
      exact bodyPost_ret (v := .tuple #[.agg #[.int .i64 E.length, .slice a3 E.length k3], .int .i64 0]) (by simp [results, Try.results31, go_sem, z0, z1]) rfl ⟨RF.good rfl rfl rfl (O3.out.out2 (by omega)) (by omega), (B6.out.setCell (by show _ ≤ _; simp) _).setCell (by show _ ≤ _; simp) _⟩
    · obtain ⟨m, hm⟩ : ∃ m, gk = m + 1 := ⟨gk - 1, by have := BT.out.1 rfl; omega⟩
      have GK := Lib.hid hm
      have TM := Lib.hid (show tot F0' xs.length < m by have := BT.out.1 rfl; omega)
      clear hm
      go_wp2
      go_loopw [9, 10] (fun more i wr => ∃ (k : Nat) (F : Nat → Int) (b : Bool), k ≤ xs.length ∧ i = .int .i64 k ∧ more = .bool b ∧ Hid (RowO wr w1.heap.size (.slice (some ⟨g, 0, none⟩) xs.length cap') xs.length F) ∧ Hid (Eui xs F) ∧ Hid (tot F xs.length < m ∧ (b = true → tot F xs.length + 1 < m) ∧ (b = false → Seen F xs.length k 0)) ∧ Hid (Below w1.heap.size w1 wr)) (fun _ i _ => xs.length - (intOf i).toNat)
      case atStart => exact ⟨0, F0', false, Nat.zero_le _, rfl, rfl, O, EU, Lib.hid ⟨TM.out, (fun h => by cases h), (fun _ x y _ hh => by omega)⟩, B⟩
      case round =>
        obtain ⟨k, F1, b1, hk, rfl, rfl, O1, EU1, BT1, B1'⟩ := hrel
        by_cases hlt : k < xs.length
        · obtain ⟨wp, rfl⟩ : ∃ wp : World, wp = wr := ⟨_, rfl⟩
          go_wp2
          go_loopw [9, 11] (fun more i wr => ∃ (j : Nat) (F : Nat → Int) (b : Bool), j ≤ xs.length ∧ i = .int .i64 j ∧ more = .bool b ∧ Hid (RowO wr w1.heap.size (.slice (some ⟨g, 0, none⟩) xs.length cap') xs.length F) ∧ Hid (Eui xs F) ∧ Hid (tot F xs.length < m ∧ (b = true → tot F xs.length + 1 < m) ∧ (b = false → Seen F xs.length k j)) ∧ Hid (Below w1.heap.size w1 wr)) (fun _ i _ => xs.length - (intOf i).toNat)
          case atStart => exact ⟨0, F1, b1, Nat.zero_le _, rfl, rfl, O1, EU1, BT1, B1'⟩
          case round =>
            obtain ⟨j, F, b, hj, rfl, rfl, O5, EU5, BT5, B5⟩ := hrel
            by_cases hlty : j < xs.length
            · obtain ⟨cx, fx⟩ := O5.out.cell hlt
              obtain ⟨cy, fy⟩ := O5.out.cell hlty
              have hbT := bitB_T ((EU5.out.rel k hlt).bd (by omega)) j
              cases hbit : bitB (F k) j
              · have HB3 := Lib.hid (show T (F k) j = false by rw [← hbT]; exact hbit)
                have HBIT := Lib.hid hbit
                clear hbT hbit
                go_wp2
                go_quiet ((go_at_call 77; exact q_same ((l01Bit_any _ _ _ (by omega) (by omega)).mono fun _ _ h => ⟨h.1.trans (ret_bool HBIT.out), h.2⟩) rfl))
                rename Nat => nq1
                go_wp2
                go_roundw
                case rel =>
                  refine ⟨j + 1, F, b, hlty, by go_num, rfl, Lib.hid (O5.out.drewN _), EU5, Lib.hid ⟨BT5.out.1, BT5.out.2.1, fun hb x y hy hh hT => ?_⟩, Lib.hid (below_drewN B5.out _)⟩
                  by_cases e : x = k ∧ y = j
                  · obtain ⟨rfl, rfl⟩ := e
                    rw [HB3.out] at hT; cases hT
                  · exact BT5.out.2.2 hb x y hy (by omega) hT
                case measure => simp [intOf]; omega
              · have HB3 := Lib.hid (show T (F k) j = true by rw [← hbT]; exact hbit)
                have HBIT := Lib.hid hbit
                clear hbT hbit
                cases hv : (bits .andNot .i64 (F k) (F j) != 0)
                · have HV := Lib.hid (show bits .andNot .i64 (F k) (F j) = 0 by simpa using hv)
                  go_wp2
                  go_quiet ((go_at_call 77; exact q_same ((l01Bit_any _ _ _ (by omega) (by omega)).mono fun _ _ h => ⟨h.1.trans (ret_bool HBIT.out), h.2⟩) rfl))
                  go_wp2
                  go_roundw
                  case rel =>
                    refine ⟨j + 1, F, b, hlty, by go_num, rfl, Lib.hid (O5.out.drewN _), EU5, Lib.hid ⟨BT5.out.1, BT5.out.2.1, fun hb x y hy hh hT => ?_⟩, Lib.hid (below_drewN B5.out _)⟩
                    by_cases e : x = k ∧ y = j
                    · obtain ⟨rfl, rfl⟩ := e
                      exact HV.out
                    · exact BT5.out.2.2 hb x y hy (by omega) hT
                  case measure => simp [intOf]; omega
                · have UE := Lib.hid (EU5.out.upd (by omega) hlt hlty HB3.out)
                  have UL := Lib.hid (upd_lt h8 EU5.out hlt hlty HB3.out (by simpa using hv))
                  go_wp2
                  go_quiet ((go_at_call 77; exact q_same ((l01Bit_any _ _ _ (by omega) (by omega)).mono fun _ _ h => ⟨h.1.trans (ret_bool HBIT.out), h.2⟩) rfl))
                  rename Nat => nq1
                  go_wp2
                  go_region
                  all_goals
                    go_wp2
                    go_roundw
                    case rel => exact ⟨j + 1, upd F k j, true, hlty, by go_num, rfl, Lib.hid (RowO.set (show RowO _ w1.heap.size (.slice (some ⟨g, 0, none⟩) xs.length cap') xs.length F from O5.out) (fun t => by unfold upd; rfl)), UE, Lib.hid ⟨by have := UL.out; have := BT5.out.1; omega, fun _ => by have := UL.out; have := BT5.out.1; omega, fun h => by cases h⟩, Lib.hid (Below.setCell (below_drewN (below_drewN B5.out nq1) 1) (by exact hg) _)⟩
                    case measure => simp [intOf]; omega
            · obtain rfl : j = xs.length := by omega
              go_wp2
              go_roundw
              case rel =>
                refine ⟨k + 1, F, b, hlt, by go_num, rfl, O5, EU5, Lib.hid ⟨BT5.out.1, BT5.out.2.1, fun hb x y hy hh hT => BT5.out.2.2 hb x y hy (by omega) hT⟩, B5⟩
              case measure => simp [intOf]; omega
        · obtain rfl : k = xs.length := by omega
          go_wp2
          go_roundg m
          case measure => rw [GK.out]; omega
          case rel => exact ⟨F1, b1, rfl, O1, EU1, Lib.hid ⟨BT1.out.2.1, BT1.out.2.2⟩, B1'⟩

end Go.Proofs.Ytpedinmflhgcoaa
