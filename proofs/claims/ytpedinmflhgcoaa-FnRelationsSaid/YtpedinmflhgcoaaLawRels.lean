/- The walk of the law FnRelations. Conditions: those in the theorems. -/
import Derived.Test.YtpedinmflhgcoaaRelFacts
import Derived.Test.YtpedinmflhgcoaaDraw3
import Derived.Test.YtpedinmflhgcoaaTrans
namespace Go.Proofs.Ytpedinmflhgcoaa
open Go.RowKit

theorem bigR_no (a : Option Addr) (len cap : Nat) (w : World) (h : len ≤ 4096) : Calls Try.prog 17 #[.slice a len cap] w fun e w' => e = .returned (.bool false) ∧ w = w' := by
  go_enter Try.func17, Try.ntmps17
  go_wp2
  go_ret
  exact ⟨ret_bool (decide_eq_false (by omega)), rfl⟩
theorem bigR_yes (a : Option Addr) (len cap : Nat) (w : World) (h : 4096 < len) : Calls Try.prog 17 #[.slice a len cap] w fun e w' => e = .returned (.bool true) ∧ w = w' := by
  go_enter Try.func17, Try.ntmps17
  go_wp2
  go_ret
  exact ⟨ret_bool (decide_eq_true (by omega)), rfl⟩

theorem full9_any (n : Nat) (hn : n ≤ 30) (w : World) :
    Calls Try.prog 22 #[.int .i64 n] w fun e w' => e = .returned (.int .i64 (full n)) ∧ w = w' := by
  go_enter Try.func22, Try.ntmps22
  go_wp2
  go_ret
  exact ⟨rfl, rfl⟩

theorem own_slice {w : World} {B n : Nat} {v : Value} {xs : List Int} (h : Own w B v xs) (hn : xs.length = n) : ∃ a c, v = .slice a n c := by
  obtain ⟨a, c, hv, -, -, -, -⟩ := h.at
  exact ⟨a, c, by rw [hv, hn]⟩
theorem OwnIn.atw {w : World} {lo hi n c : Nat} {a : Option Addr} {xs : List Int} (h : OwnIn w lo hi (.slice a n c) xs) (hn : xs.length = n) : At w a n xs := by
  obtain ⟨a', c', e', hat', -, -, -⟩ := h.1.at
  injection e' with e1 e2 e3
  subst e1
  rw [hn] at hat'
  exact hat'

set_option maxHeartbeats 4000000 in
set_option maxRecDepth 100000 in
theorem lawRelations (a : Option Addr) (len cap : Nat) (zs : List Int) (w : World) (h : IsRow .u8 w a len cap zs) :
    Calls Try.prog 4 #[.slice a len cap] w fun e w' => e = .returned (.bool true) ∧ Below w.heap.size w w' := by
  by_cases hbig : 4096 < len
  · clear h
    go_enter Try.func4, Try.ntmps4
    go_wp2_with (go_at_call 17; refine (bigR_yes _ _ _ _ hbig).mono ?_; rintro e w' ⟨rfl, rfl⟩)
    go_ret
    exact ⟨rfl, Below.refl _ _⟩
  · have hl : len ≤ 4096 := by omega
    have HC := Lib.hid (Code.of_row h hl)
    clear h hbig
    go_enter Try.func4, Try.ntmps4
    go_wp2_with (go_at_call 17; refine (bigR_no _ _ _ _ hl).mono ?_; rintro e w' ⟨rfl, rfl⟩)
    refine (DrawImageMask_any a len cap w HC.out).mono ?_
    rintro e w1 ⟨⟨v, m, xs, rfl, ho, hx31⟩, B1⟩
    obtain ⟨av, capv, hv, hat, -, hnil, -⟩ := ho.at
    subst hv
    have OA := Lib.hid ho.inn
    have HAT := Lib.hid hat
    have HNIL := Lib.hid hnil
    clear ho hat hnil
    have hxl : xs.length ≤ 1048576 := by omega
    by_cases h0 : bothI xs xs.length m = 0
    · have F := Lib.hid (rel_facts h0)
      have hsm := F.out.small
      have him : imgV xs xs.length m = imgTo xs m xs.length := by rw [imgV, if_pos h0]
      have HIM := Lib.hid him
      have H0 := Lib.hid h0
      clear h0 him
      go_wp2_with fail
      refine (implImageMask_any xs m _ _ _ _ hxl HAT.out).mono ?_
      rw [H0.out, HIM.out]
      rintro e w2 ⟨rfl, rfl⟩
      go_wp2_with fail
      refine (specImageMask_any xs m _ _ _ _ hxl HAT.out).mono ?_
      rw [H0.out, HIM.out]
      rintro e w3 ⟨rfl, q3, rfl⟩
      have B3 : Below w.heap.size w (w1.drewN q3) := below_drewN B1 q3
      have OA3 := Lib.hid (OA.out.drewN q3)
      clear OA HAT
      generalize w1.drewN q3 = W3 at B3 OA3 ⊢
      have hbl : (bsL xs).length = xs.length := tab_len _ _
      have hcl : (csL xs).length = xs.length := tab_len _ _
      have HBL := Lib.hid hbl
      have HCL := Lib.hid hcl
      have HTL := Lib.hid (cpTo_len (csL xs) (csL xs) xs.length)
      have HSL := Lib.hid (cpTo_len xs (csL xs) xs.length)
      have HV1 : Hid (boxV xs xs.length (imgTo xs m xs.length) = boxTo xs (imgTo xs m xs.length) xs.length) := if_pos F.out.b1
      have HV2 : Hid (boxV (bsL xs) xs.length m = insV xs m) := if_pos F.out.b2
      have HV3 : Hid (imgV xs xs.length (insV xs m) = imgTo xs (insV xs m) xs.length) := if_pos F.out.b3
      have HV4 : Hid (imgV (bsL xs) xs.length (insV xs m) = imgTo (bsL xs) (insV xs m) xs.length) := if_pos F.out.b4
      clear hbl hcl
      go_wp2_with fail
      refine (implInverseRelation_any xs _ _ _ _ hxl (OA3.out.atw rfl)).mono ?_
      rw [F.out.chk]
      rintro e w4 ⟨vb, rfl, hob, hb4⟩
      have hob' : Own w4 W3.heap.size vb (bsL xs) := hob
      obtain ⟨ab, cb, hvb⟩ := own_slice hob' HBL.out
      subst hvb
      have B4 : Below w.heap.size w w4 := B3.trans (hb4.mono B3.size)
      have OA4 := Lib.hid (OA3.out.below hb4 OA3.out.2.1)
      have OB4 := Lib.hid hob'.inn
      clear hob hob' hb4 OA3
      go_wp2_with fail
      refine (implBoxMask_any xs (imgTo xs m xs.length) _ _ _ _ hxl (OA4.out.atw rfl)).mono ?_
      rw [F.out.b1, HV1.out]
      rintro e w5 ⟨rfl, rfl⟩
      go_wp2_with fail
      refine (implBoxMask_any (bsL xs) m _ _ _ _ hxl (OB4.out.atw HBL.out)).mono ?_
      rw [F.out.b2, HV2.out]
      rintro e w6 ⟨rfl, rfl⟩
      go_wp2_with fail
      refine (implImageMask_any xs (insV xs m) _ _ _ _ hxl (OA4.out.atw rfl)).mono ?_
      rw [F.out.b3, HV3.out]
      rintro e w7 ⟨rfl, rfl⟩
      have n1 := F.out.n1
      go_wp2_with fail
      clear n1
      refine (implImageMask_any (bsL xs) (insV xs m) _ _ _ _ hxl (OB4.out.atw HBL.out)).mono ?_
      rw [F.out.b4, HV4.out]
      rintro e w8 ⟨rfl, rfl⟩
      have n2 := F.out.n2
      have n3 := F.out.n3
      go_wp2_with (go_at_call 22; refine (full9_any _ hsm _).mono ?_; rintro e w' ⟨rfl, rfl⟩)
      clear n2 n3
      refine (implTransitiveClosure_any xs _ _ _ _ hxl (OA4.out.atw rfl)).mono ?_
      rw [F.out.chk]
      rintro e w9 ⟨vc, rfl, hoc, hb9⟩
      have hoc' : Own w9 w4.heap.size vc (csL xs) := hoc
      obtain ⟨ac, cc, hvc⟩ := own_slice hoc' HCL.out
      subst hvc
      have B9 : Below w.heap.size w w9 := B4.trans (hb9.mono B4.size)
      have OA9 := Lib.hid (OA4.out.below hb9 OA4.out.2.1)
      have OC9 := Lib.hid hoc'.inn
      clear hoc hoc' hb9 OA4 OB4
      go_wp2_with fail
      refine (implComposeRelations_any (csL xs) (csL xs) _ _ _ _ _ _ _ hxl hxl (OC9.out.atw HCL.out) (OC9.out.atw HCL.out)).mono ?_
      rw [F.out.c1]
      rintro e w10 ⟨vt, rfl, hot, hb10⟩
      have hot' : Own w10 w9.heap.size vt (cpTo (csL xs) (csL xs) xs.length) := hot
      obtain ⟨at', ct, hvt⟩ := own_slice hot' HTL.out
      subst hvt
      have B10 : Below w.heap.size w w10 := B9.trans (hb10.mono B9.size)
      have OA10 := Lib.hid (OA9.out.below hb10 OA9.out.2.1)
      have OC10 := Lib.hid (OC9.out.below hb10 OC9.out.2.1)
      have OT10 := Lib.hid hot'.inn
      clear hot hot' hb10 OA9 OC9
      go_wp2_with fail
      refine (implComposeRelations_any xs (csL xs) _ _ _ _ _ _ _ hxl hxl (OA10.out.atw rfl) (OC10.out.atw HCL.out)).mono ?_
      rw [F.out.c2]
      rintro e w11 ⟨vs, rfl, hos, hb11⟩
      have hos' : Own w11 w10.heap.size vs (cpTo xs (csL xs) xs.length) := hos
      obtain ⟨as', cs', hvs⟩ := own_slice hos' HSL.out
      subst hvs
      have B11 : Below w.heap.size w w11 := B10.trans (hb11.mono B10.size)
      have AA := Lib.hid ((OA10.out.below hb11 OA10.out.2.1).atw rfl)
      have AC := Lib.hid ((OC10.out.below hb11 OC10.out.2.1).atw HCL.out)
      have AT := Lib.hid ((OT10.out.below hb11 OT10.out.2.1).atw HTL.out)
      have AS := Lib.hid (hos'.inn.atw HSL.out)
      clear hos hos' hb11 OA10 OC10 OT10
      go_wp2
      go_loopw [26] (fun i wr => ∃ k q : Nat, k ≤ xs.length ∧ i = .int .i64 k ∧ wr = w11.drewN q) (fun i _ => xs.length - (intOf i).toNat)
      case atStart => exact ⟨0, 0, Nat.zero_le _, rfl, rfl⟩
      case round =>
        obtain ⟨k, q, hk, rfl, rfl⟩ := hrel
        by_cases hlt : k < xs.length
        · obtain ⟨ba, oa, rfl, -, ha⟩ := AA.out.2.resolve_left (by omega)
          obtain ⟨bc, oc, rfl, -, hc⟩ := AC.out.2.resolve_left (by omega)
          obtain ⟨bt, ot, rfl, -, ht⟩ := AT.out.2.resolve_left (by omega)
          obtain ⟨bs, os, rfl, -, hs⟩ := AS.out.2.resolve_left (by omega)
          have ha' := ha k hlt
          have hc' := hc k hlt
          have ht' := ht k hlt
          have hs' := hs k hlt
          have e1 := F.out.e1 k hlt
          have e2 := F.out.e2 k hlt
          obtain ⟨xk, hxk⟩ : ∃ z, z = nth xs k := ⟨_, rfl⟩
          obtain ⟨ck, hck⟩ : ∃ z, z = nth (csL xs) k := ⟨_, rfl⟩
          obtain ⟨tk, htk⟩ : ∃ z, z = nth (cpTo (csL xs) (csL xs) xs.length) k := ⟨_, rfl⟩
          obtain ⟨sk, hsk⟩ : ∃ z, z = nth (cpTo xs (csL xs) xs.length) k := ⟨_, rfl⟩
          rw [← hxk] at ha' e1
          rw [← hck] at hc' e1 e2
          rw [← htk] at ht' e2
          rw [← hsk] at hs' e1
          clear ha hc ht hs hxk hck htk hsk
          have g1 : (ck == bits .or .i64 xk sk) = true := by rw [e1]; simp
          have g2 : (ck != bits .or .i64 xk sk) = false := by rw [e1]; simp
          have g3 : (bits .andNot .i64 tk ck == 0) = true := by rw [e2]; rfl
          have g4 : (bits .andNot .i64 tk ck != 0) = false := by rw [e2]; rfl
          clear e1 e2
          go_wp2
          go_quiet (fail)
          go_wp2
          go_roundw
          case rel => exact ⟨k + 1, _, hlt, by go_num, rfl⟩
          case measure => simp [intOf]; omega
        · obtain rfl : k = xs.length := by omega
          go_wp2
          go_ret
          exact ⟨rfl, below_drewN B11 q⟩
    · obtain ⟨c, hc⟩ : ∃ c, c = bothI xs xs.length m := ⟨_, rfl⟩
      have him : imgV xs xs.length m = 0 := by rw [imgV, if_neg h0]
      rw [← hc] at h0
      have d0 : (c == 0) = false := by simpa using h0
      have d1 : (c != 0) = true := by simpa using h0
      have HIM := Lib.hid him
      have HC2 := Lib.hid hc
      clear h0 hc him
      go_wp2_with fail
      refine (implImageMask_any xs m _ _ _ _ hxl HAT.out).mono ?_
      rw [← HC2.out, HIM.out]
      rintro e w2 ⟨rfl, rfl⟩
      go_wp2_with fail
      refine (specImageMask_any xs m _ _ _ _ hxl HAT.out).mono ?_
      rw [← HC2.out, HIM.out]
      rintro e w3 ⟨rfl, q3, rfl⟩
      go_wp2
      go_ret
      exact ⟨rfl, below_drewN B1 q3⟩

end Go.Proofs.Ytpedinmflhgcoaa
