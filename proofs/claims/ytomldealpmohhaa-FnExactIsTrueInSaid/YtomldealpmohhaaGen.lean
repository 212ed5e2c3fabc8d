/- Contracts of the reach of a frame and of GeneratedWorlds, of the model and of the program. Conditions: those in the theorems. -/
import Derived.Test.YtomldealpmohhaaIsFr
namespace Go.Proofs.Ytomldealpmohhaa
open Go.RowKit

theorem bx1 {w w1 : World} {n : Int} {a : Option Addr} {len cap : Nat} (hb : Below (w.alloc (.cells #[.int .i64 n, .slice a len cap] 32)).heap.size (w.alloc (.cells #[.int .i64 n, .slice a len cap] 32)) w1) : Bx w1 w.heap.size n a len cap :=
  (Bx.new w n a len cap 32).keep hb

set_option maxHeartbeats 400000 in
theorem reach_any (n : Int) (xs : List Int) (a : Option Addr) (len cap : Nat) (w : World) (hl : len ≤ 30) (h : At w a len xs) :
    Calls Try.prog 71 #[.agg #[.int .i64 n, .slice a len cap]] w fun e w' => ∃ v, e = .returned v ∧ Own w' w.heap.size v (rcL xs) ∧ Below w.heap.size w w' := by
  have HB := Lib.hid (boxF (w := w) n a len cap)
  have H := Lib.hid (h.keep HB.out (Nat.le_refl _))
  obtain rfl := h.1
  clear h
  go_enter Try.func71, Try.ntmps71
  go_wp2_with fail
  refine (frRel_any _ _ _ _ _).mono ?_
  rintro e w1 ⟨rfl, hb1⟩
  have H1 := Lib.hid (H.out.keep hb1 (Nat.le_refl _))
  have B1 := Lib.hid (HB.out.trans (hb1.mono HB.out.size))
  clear hb1
  go_wp2_with fail
  refine (transitive_any xs _ _ _ _ hl H1.out).mono ?_
  rintro e w2 ⟨v2, rfl, ho, hb⟩
  obtain ⟨a2, c2, rfl, hat, -, -, -⟩ := ho.at
  have H2 := Lib.hid (show At w2 a2 (csL xs).length (csL xs) from hat)
  have B2 := Lib.hid (B1.out.trans (hb.mono B1.out.size))
  have L2 := Lib.hid (show (csL xs).length = xs.length from tab_len _ _)
  have hl2 : (tab xs.length (tcTo xs xs.length xs.length)).length ≤ 30 := by rw [tab_len]; exact hl
  clear ho hb hat
  go_wp2_with fail
  refine (reflexive_any (csL xs) _ _ _ _ hl2 H2.out).mono ?_
  rintro e w3 ⟨v3, rfl, ho, hb⟩
  have e3 : rfTo (csL xs) (tab xs.length (tcTo xs xs.length xs.length)).length = rcL xs := by rw [rcL, tab_len]
  rw [e3] at ho
  have O3 := Lib.hid (ho.mono B2.out.size)
  have B3 := Lib.hid (B2.out.trans (hb.mono B2.out.size))
  clear ho hb e3
  go_wp2
  go_ret
  exact ⟨_, rfl, O3.out, B3.out⟩

set_option maxHeartbeats 400000 in
theorem l05Reach_any (n m : Int) (xs : List Int) (a : Option Addr) (len cap : Nat) (w : World) (hl : len ≤ 8) (hr : Rel len (nth xs)) (hm : InMk len m) (h : At w a len xs) :
    Calls Try.prog 65 #[.agg #[.int .i64 n, .slice a len cap], .int .i64 m] w fun e w' => e = .returned (.int .i64 (rchV xs m)) ∧ Below w.heap.size w w' := by
  have HB := Lib.hid (boxF (w := w) n a len cap)
  have H := Lib.hid (h.keep HB.out (Nat.le_refl _))
  obtain rfl := h.1
  clear h
  have HR := Lib.hid hr
  have HM := Lib.hid hm
  clear hr hm
  go_enter Try.func65, Try.ntmps65
  go_wp2
  go_loop [1] (fun c => ∃ mk : Int, c = .int .i64 mk ∧ Hid (Rsr xs m mk)) (fun c => (256 - intOf c).toNat)
  case atStart => exact ⟨m, rfl, Lib.hid (Rsr.start (by omega) HR.out HM.out)⟩
  case round =>
    obtain ⟨mk, rfl, R⟩ := hrel
    by_cases h0 : bits .andNot .i64 (imgTo xs mk xs.length) mk = 0
    · have h1 : (bits .andNot .i64 (imgTo xs mk xs.length) mk != 0) = false := by simpa using h0
      have S := Lib.hid (R.out.stop (by omega) HR.out HM.out h0)
      clear h0
      go_wp2_with (go_at_call 102; refine (l01Image_any xs _ _ _ _ _ (by omega) H.out).mono ?_; rintro e w' ⟨rfl, rfl⟩)
      go_ret
      exact ⟨ret_int S.out, HB.out⟩
    · have h1 : (bits .andNot .i64 (imgTo xs mk xs.length) mk != 0) = true := by simpa using h0
      have S := Lib.hid (R.out.step (by omega) HR.out HM.out)
      have G := Lib.hid (or_gt (by omega) R.out.small (img_in (by omega) HR.out R.out.small) h0)
      have hlt := R.out.small.lt8 hl
      clear h0
      go_wp2_with (go_at_call 102; refine (l01Image_any xs _ _ _ _ _ (by omega) H.out).mono ?_; rintro e w' ⟨rfl, rfl⟩)
      go_round
      case rel => exact ⟨_, rfl, S⟩
      case measure => have g := G.out; simp [intOf]; omega

def gwV (n : Int) (xs : List Int) (m : Int) : Int := if cwV n xs m = 0 then rchV xs m else 0
theorem gw_ok {n m : Int} {xs : List Int} (h : cwV n xs m = 0) : Ending.returned (.tuple #[.int .i64 (rchV xs m), .int .i64 0]) = .returned (.tuple #[.int .i64 (gwV n xs m), .int .i64 (cwV n xs m)]) := by rw [gwV, if_pos h, h]
theorem gw_bad {n m c : Int} {xs : List Int} (h : ¬ cwV n xs m = 0) (hc : c = cwV n xs m) : Ending.returned (.tuple #[.int .i64 0, .int .i64 c]) = .returned (.tuple #[.int .i64 (gwV n xs m), .int .i64 (cwV n xs m)]) := by rw [gwV, if_neg h, hc]

end Go.Proofs.Ytomldealpmohhaa
