/- Contracts of the program's closureOf and CloseFrame. Conditions: those in the theorems. -/
import Derived.Test.YtpedinmflhgcoaaEuc
import Derived.Test.YtpedinmflhgcoaaPrt2
namespace Go.Proofs.Ytpedinmflhgcoaa
open Go.RowKit

def knF (f : Int) : Bool := decide (f = 0) || decide (f = 2) || decide (f = 3) || decide (f = 4)
def clR (xs E : List Int) (f : Int) : List Int := if f = 0 then rfTo xs xs.length else if f = 2 then csL xs else if f = 3 then opL .or xs (bsL xs) xs.length else E
theorem clR_len {xs E : List Int} (hE : EuSpec xs E) (f : Int) : (clR xs E f).length = xs.length := by
  unfold clR
  split
  · exact rfTo_len _ _
  · split
    · exact tab_len _ _
    · split
      · exact opL_len _ _ _ _
      · exact hE.1
def clC (n : Int) (xs : List Int) (f : Int) : Int := if frB n xs then (if knF f then 0 else 2) else 1
def clL (n : Int) (xs E : List Int) (f : Int) : List Int := if clC n xs f = 0 then clR xs E f else []
theorem clC_1 {n f : Int} {xs : List Int} (h : frB n xs = false) : clC n xs f = 1 := by rw [clC, h]; rfl
theorem clC_2 {n f : Int} {xs : List Int} (h : frB n xs = true) (h2 : knF f = false) : clC n xs f = 2 := by rw [clC, h, h2]; rfl
theorem clC_0 {n f : Int} {xs : List Int} (h : frB n xs = true) (h2 : knF f = true) : clC n xs f = 0 := by rw [clC, h, h2]; rfl
theorem clL_no {n f : Int} {xs E : List Int} (h : ¬ clC n xs f = 0) : clL n xs E f = [] := if_neg h
theorem clL_ok {n f : Int} {xs E : List Int} (h : clC n xs f = 0) : clL n xs E f = clR xs E f := if_pos h
theorem kn_cases {f : Int} (h : knF f = true) : f = 0 ∨ f = 2 ∨ f = 3 ∨ f = 4 := by
  unfold knF at h
  simp at h
  omega
theorem kn_not {f : Int} (h : knF f = false) : (f == 0) = false ∧ (f == 2) = false ∧ (f == 3) = false ∧ (f == 4) = false := by
  unfold knF at h
  simp at h
  simp
  omega

set_option maxHeartbeats 1000000 in
theorem closureOf_ok (xs E : List Int) (f : Int) (hf : knF f = true) (a : Option Addr) (cap : Nat) (w : World) (h8 : xs.length ≤ 8) (hr : Rel xs.length (nth xs)) (hE : EuSpec xs E) (h : At w a xs.length xs) :
    Calls Try.prog 79 #[.slice a xs.length cap, .int .i64 f] w fun e w' => ∃ v, e = .returned (.tuple #[v, .bool true]) ∧ Own w' w.heap.size v (clR xs E f) ∧ Below w.heap.size w w' := by
  have h30 : xs.length ≤ 30 := by omega
  have H := Lib.hid h
  have HR := Lib.hid hr
  have HE := Lib.hid hE
  clear h hr hE
  rcases kn_cases hf with rfl | rfl | rfl | rfl
  · clear hf
    go_enter Try.func79, Try.ntmps79
    go_wp2_with fail
    refine (reflexive_any xs _ _ _ _ h30 H.out).mono ?_
    rintro e w1 ⟨v1, rfl, ho, hb⟩
    have O := Lib.hid ho
    clear ho
    go_wp2
    go_ret2
    exact ⟨_, rfl, O.out, hb⟩
  · clear hf
    go_enter Try.func79, Try.ntmps79
    go_wp2_with fail
    refine (transitive_any xs _ _ _ _ h30 H.out).mono ?_
    rintro e w1 ⟨v1, rfl, ho, hb⟩
    have O := Lib.hid ho
    clear ho
    go_wp2
    go_ret2
    exact ⟨_, rfl, O.out, hb⟩
  · clear hf
    go_enter Try.func79, Try.ntmps79
    go_wp2_with fail
    refine (inverse_any xs _ _ _ _ h30 H.out).mono ?_
    rintro e w4 ⟨v4, rfl, ho, hb⟩
    obtain ⟨a4, c4, e4, hat, -, -, -⟩ := (show Own w4 _ v4 (bsL xs) from ho).at
    subst e4
    rw [bsL_len] at hat
    rw [bsL_len]
    have A4 := Lib.hid hat
    have X4 := Lib.hid (H.out.keep hb (Nat.le_refl _))
    have B4 := Lib.hid hb
    clear ho hb hat
    go_wp2_with fail
    refine (union_any xs (bsL xs) xs.length _ _ _ _ _ h30 X4.out A4.out).mono ?_
    rintro e w6 ⟨v6, rfl, ho, hb⟩
    have O := Lib.hid (ho.mono B4.out.size)
    have B6 := Lib.hid (B4.out.trans (hb.mono B4.out.size))
    clear ho hb
    go_wp2
    go_ret2
    exact ⟨_, rfl, O.out, B6.out⟩
  · clear hf
    go_enter Try.func79, Try.ntmps79
    go_wp2_with fail
    refine (euclid_any xs E _ _ _ h8 HR.out HE.out H.out).mono ?_
    rintro e w1 ⟨v1, rfl, ho, hb⟩
    have O := Lib.hid ho
    clear ho
    go_wp2
    go_ret2
    exact ⟨_, rfl, O.out, hb⟩

set_option maxHeartbeats 400000 in
theorem closureOf_no (f : Int) (hf : knF f = false) (a : Option Addr) (len cap : Nat) (w : World) :
    Calls Try.prog 79 #[.slice a len cap, .int .i64 f] w fun e w' => e = .returned (.tuple #[.slice none 0 0, .bool false]) ∧ w = w' := by
  obtain ⟨f0, f2, f3, f4⟩ := kn_not hf
  clear hf
  go_enter Try.func79, Try.ntmps79
  go_wp2
  go_ret2
  exact ⟨rfl, rfl⟩

set_option maxHeartbeats 1000000 in
theorem implCloseFrame_any (n f : Int) (xs E : List Int) (a : Option Addr) (len cap : Nat) (w : World) (hl : len ≤ 1048576) (hE : frB n xs = true → EuSpec xs E) (h : At w a len xs) :
    Calls Try.prog 32 #[.agg #[.int .i64 n, .slice a len cap], .int .i64 f] w fun e w' => RF w' w.heap.size (clL n xs E f).length (clC n xs f) (clL n xs E f) e ∧ Below w.heap.size w w' := by
  obtain ⟨W, hW, HB, X, Z, hWs⟩ := boxF1 w n a len cap
  have H := Lib.hid (h.keep HB.out (Nat.le_refl _))
  have hz0 : w.heap.size + 1 + 1 ≤ W.heap.size := by omega
  obtain rfl := h.1
  have HW := Lib.hid hW
  have HE := Lib.hid hE
  clear h hWs hW hE
  cases h0 : frB n xs
  · have F0 := Lib.hid h0
    have C := Lib.hid (clC_1 (f := f) h0)
    have L := Lib.hid (show clL n xs E f = [] from clL_no (by rw [C.out]; decide))
    clear h0
    go_enter Try.func32, Try.ntmps32
    go_wp2_with fail
    rw [← HW.out]
    refine (implIsFrame_any n xs _ _ _ _ hl H.out).mono ?_
    rw [F0.out]
    rintro e w1 ⟨rfl, hb⟩
    have B1 := Lib.hid (HB.out.trans (hb.mono HB.out.size))
    obtain ⟨lt, z0, z1, z2, z3⟩ := Z.out.keep hb
    clear hb
    go_wp2
    exact bodyPost_ret (v := .tuple #[.agg #[.int .i64 0, .slice none 0 0], .int .i64 1]) (by simp [results, Try.results32, go_sem, z0, z1]) rfl ⟨RF.bad C.out (by rw [L.out]; rfl) L.out, (B1.out.setCell (by show _ ≤ _; simp) _).setCell (by show _ ≤ _; simp) _⟩
  · have F0 := Lib.hid h0
    have EE := Lib.hid (HE.out h0)
    obtain ⟨rfl, h8, -, hr⟩ := frB_ok h0
    have HR := Lib.hid hr
    clear hr
    cases hk : knF f
    · have C := Lib.hid (clC_2 h0 hk)
      have L := Lib.hid (show clL xs.length xs E f = [] from clL_no (by rw [C.out]; decide))
      have KF := Lib.hid hk
      clear h0 hk
      go_enter Try.func32, Try.ntmps32
      go_wp2_with fail
      rw [← HW.out]
      refine (implIsFrame_any _ xs _ _ _ _ hl H.out).mono ?_
      rw [F0.out]
      rintro e w1 ⟨rfl, hb⟩
      have B1 := Lib.hid (HB.out.trans (hb.mono HB.out.size))
      have Z1 := Lib.hid (Z.out.keep hb)
      obtain ⟨lt, x0, x0'⟩ := X.out.keep hb
      clear hb
      go_wp2_with fail
      clear x0 x0'
      refine (frRel_any _ _ _ _ _).mono ?_
      rintro e w2 ⟨rfl, hb⟩
      have B2 := Lib.hid (B1.out.trans (hb.mono B1.out.size))
      obtain ⟨lt, z0, z1, z2, z3⟩ := Z1.out.keep hb
      clear hb
      go_wp2_with fail
      refine (closureOf_no f KF.out _ _ _ _).mono ?_
      rintro e w3 ⟨rfl, rfl⟩
      go_wp2
      exact bodyPost_ret (v := .tuple #[.agg #[.int .i64 0, .slice none 0 0], .int .i64 2]) (by simp [results, Try.results32, go_sem, z0, z1]) rfl ⟨RF.bad C.out (by rw [L.out]; rfl) L.out, (B2.out.setCell (by show _ ≤ _; simp) _).setCell (by show _ ≤ _; simp) _⟩
    · have C := Lib.hid (clC_0 h0 hk)
      have L := Lib.hid (clL_ok (E := E) C.out)
      have KF := Lib.hid hk
      have RL := Lib.hid (clR_len EE.out f)
      clear h0 hk
      go_enter Try.func32, Try.ntmps32
      go_wp2_with fail
      rw [← HW.out]
      refine (implIsFrame_any _ xs _ _ _ _ hl H.out).mono ?_
      rw [F0.out]
      rintro e w1 ⟨rfl, hb⟩
      have B1 := Lib.hid (HB.out.trans (hb.mono HB.out.size))
      have Z1 := Lib.hid (Z.out.keep hb)
      have H1 := Lib.hid (H.out.keep hb (Nat.le_refl _))
      have hz1 := hb.size
      obtain ⟨lt, x0, x0'⟩ := X.out.keep hb
      clear hb
      go_wp2_with fail
      clear x0 x0'
      refine (frRel_any _ _ _ _ _).mono ?_
      rintro e w2 ⟨rfl, hb⟩
      have B2 := Lib.hid (B1.out.trans (hb.mono B1.out.size))
      have Z2 := Lib.hid (Z1.out.keep hb)
      have H2 := Lib.hid (H1.out.keep hb (Nat.le_refl _))
      have hz2 := hb.size
      clear hb
      go_wp2_with fail
      refine (closureOf_ok xs E f KF.out _ _ _ h8 HR.out EE.out H2.out).mono ?_
      rintro e w3 ⟨v3, rfl, ho, hb⟩
      have B3 := Lib.hid (B2.out.trans (hb.mono B2.out.size))
      have Z3 := Lib.hid (Z2.out.keep hb)
      have O3 := Lib.hid ho
      obtain ⟨a3, k3, e3, -, -, -, -⟩ := ho.at
      subst e3
      have hl3 : (clR xs E f).length ≤ 1048576 := by rw [RL.out]; omega
      clear ho hb
      go_wp2_with fail
      refine (frameOf_any _ _ _ _ hl3).mono ?_
      rintro e w4 ⟨rfl, hb⟩
      obtain ⟨lt, z0, z1, z2, z3⟩ := Z3.out.keep hb
      have B4 := Lib.hid (B3.out.trans (hb.mono B3.out.size))
      have O4 := Lib.hid (OwnF.mk (n := (clR xs E f).length) (O3.out.keep hb (Nat.le_refl _)))
      clear hb O3
      go_wp2
      exact bodyPost_ret (v := .tuple #[.agg #[.int .i64 (clR xs E f).length, .slice a3 (clR xs E f).length k3], .int .i64 0]) (by simp [results, Try.results32, go_sem, z0, z1]) rfl ⟨RF.good C.out (by rw [L.out]) L.out (O4.out.out2 (by omega)) (by omega), (B4.out.setCell (by show _ ≤ _; simp) _).setCell (by show _ ≤ _; simp) _⟩

end Go.Proofs.Ytpedinmflhgcoaa
