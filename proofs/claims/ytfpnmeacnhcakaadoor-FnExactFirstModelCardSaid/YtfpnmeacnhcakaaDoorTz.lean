/- FirstModel of the model and of the program. Conditions: the package's table and that of math/bits for the program, and those in the theorems. -/
import Derived.Test.YtfpnmeacnhcakaaDoorFs
import Derived.Test.YtfpnmeacnhcakaaDoorTzB
namespace Go.Proofs.YtfpnmeacnhcakaaDoor
open Go.RowKit

theorem fs_first {bs : List Bool} {v : Bool} {c : Nat} (hc : c < bs.length) (h1 : bs.getD c false = v) (h2 : ∀ i, i < c → bs.getD i false ≠ v) : fs bs v 0 = c := by
  have : ∀ k, k ≤ c → fs bs v 0 = fs (bs.drop k) v k := by
    intro k
    induction k with
    | zero => intro _; rfl
    | succ k ih => intro hk; exact fs_go (ih (by omega)) (by omega : k < bs.length) rfl (h2 k (by omega))
  exact fs_hit (this c (Nat.le_refl _)) hc rfl h1
theorem ctz_fs (f : Fm) (hf : f.ok) (h0 : f.mw.toNat ≠ 0) : fs (tbl f 64) true 0 = ((Lib.ctz 64 f.mw.toNat : Nat) : Int) := by
  obtain ⟨m, hm, hc⟩ := Lib.ctzFrom_spec 64 f.mw.toNat (Nat.pos_of_ne_zero h0) f.mw.isLt
  have e : Lib.ctz 64 f.mw.toNat = Lib.ctzFrom 64 f.mw.toNat := if_neg h0
  rw [e]
  generalize Lib.ctzFrom 64 f.mw.toNat = c at hm hc
  have hb : ∀ i, i < 64 → f.ev i = (2 ^ c * (2 * m + 1)).testBit i := fun i hi => by
    rw [← Fm.mw_row f hf i hi, ← hm]; rfl
  refine fs_first (by rw [tbl_len]; exact hc) ?_ ?_
  · rw [tbl_at f hc, hb c hc, Nat.mul_comm, Nat.testBit_mul_two_pow]
    simp [Nat.testBit_zero]
  · intro i hi
    rw [tbl_at f (by omega : i < 64), hb i (by omega), Nat.mul_comm, Nat.testBit_mul_two_pow]
    simp; omega
theorem fs_none (f : Fm) (hf : f.ok) : fs (tbl f 64) true 0 < 0 ↔ f.mw = 0#64 := by
  rw [fs_tbl]
  constructor
  · intro h
    refine word_ext fun r hr => ?_
    rw [Fm.mw_row f hf r hr]
    simpa using h r hr
  · intro h r hr
    rw [← Fm.mw_row f hf r hr, h]; simp

noncomputable def fmV (xs : List Nd) : Int := if ck xs = 0 then (if fs (tbl (toFm xs) 64) true 0 < 0 then 0 else fs (tbl (toFm xs) 64) true 0) else 0
noncomputable def fmC (xs : List Nd) : Int := if ck xs = 0 then (if fs (tbl (toFm xs) 64) true 0 < 0 then 4 else 0) else ck xs
theorem fm_bad {xs : List Nd} (h : ck xs ≠ 0) : fmV xs = 0 ∧ fmC xs = ck xs := ⟨if_neg h, if_neg h⟩
theorem fm_none {xs : List Nd} (h : ck xs = 0) (h2 : fs (tbl (toFm xs) 64) true 0 < 0) : fmV xs = 0 ∧ fmC xs = 4 := by
  unfold fmV fmC; rw [if_pos h, if_pos h, if_pos h2, if_pos h2]; exact ⟨rfl, rfl⟩
theorem fm_some {xs : List Nd} (h : ck xs = 0) (h2 : ¬ fs (tbl (toFm xs) 64) true 0 < 0) : fmV xs = fs (tbl (toFm xs) 64) true 0 ∧ fmC xs = 0 := by
  unfold fmV fmC; rw [if_pos h, if_pos h, if_neg h2, if_neg h2]; exact ⟨rfl, rfl⟩

set_option maxHeartbeats 1000000 in
theorem specFirstModel_v (x0 : List Nd) (v : Value) (lo hi : Nat) (w : World) (hl : x0.length ≤ 1048576) (h : InN w lo hi v x0) :
    Calls Tryd.prog 22 #[v] w fun e w' => e = .returned (.tuple #[.int .i64 (fmV x0), .int .i64 (fmC x0)]) ∧ Below w.heap.size w w' := by
  obtain ⟨a, cap, rfl, hat, hca, hcb⟩ := h.at'
  have CN := code1_any x0 a x0.length cap w.heap.size w hl hat 26 rfl
  have H := Lib.hid hat
  clear h hat
  by_cases hc : ck x0 = 0
  · obtain ⟨b, off, rfl, hf, f1, f4, h40⟩ := plain_at hc H.out hca hcb
    have C := Lib.hid (hc ▸ CN)
    have F := Lib.hid hf
    have F1 := Lib.hid f1
    have F4 := Lib.hid f4
    have NONE := Lib.hid (fun h2 => fm_none (xs := x0) hc h2)
    have SOME := Lib.hid (fun h2 => fm_some (xs := x0) hc h2)
    clear CN hf f1 f4 hc H
    generalize toFm x0 = f at F F1 F4 NONE SOME
    generalize fmV x0 = rv at NONE SOME ⊢
    generalize fmC x0 = rc at NONE SOME ⊢
    go_enter Tryd.func22, Tryd.ntmps22
    go_wp2_with fail
    refine C.out.mono ?_
    rintro e w1 ⟨rfl, hb1⟩
    have B1 := Lib.hid hb1
    clear hb1 C
    go_wp2_with fail
    refine (l04Table_any f F1.out F4.out b off _ cap _ hl (F.out.keep B1.out (Nat.le_refl _))).mono ?_
    rintro e w2 ⟨v2, rfl, ho2, hb2⟩
    obtain ⟨a2, cap2, rfl, hat2⟩ := OwnB.at ho2
    have A2 := Lib.hid hat2
    have B2 := Lib.hid (B1.out.trans (hb2.mono B1.out.size))
    have hln := tbl_len f 64
    clear hb2 ho2 hat2
    go_wp2_with fail
    refine (l04First_any (tbl f 64) true a2 _ cap2 w2 (by omega) A2.out).mono ?_
    obtain ⟨z, hz⟩ : ∃ z, z = fs (tbl f 64) true 0 := ⟨_, rfl⟩
    rw [← hz]
    rintro e w' ⟨rfl, rfl⟩
    by_cases h2 : z < 0
    · obtain ⟨rfl, rfl⟩ := NONE.out (by rw [← hz]; omega)
      clear hz NONE SOME
      go_wp2
      go_ret2
      exact ⟨rfl, B2.out⟩
    · obtain ⟨e1, rfl⟩ := SOME.out (by rw [← hz]; omega)
      have e3 : rv = z := e1.trans hz.symm
      subst e3
      clear hz NONE SOME e1
      go_wp2
      go_ret2
      exact ⟨rfl, B2.out⟩
  · obtain ⟨e1, e2⟩ := fm_bad hc
    rw [e1, e2]
    have C := Lib.hid CN
    have hne : (ck x0 == 0) = false := by simpa using hc
    generalize ck x0 = z at C hne ⊢
    clear CN hc e1 e2
    go_enter Tryd.func22, Tryd.ntmps22
    go_wp2_with fail
    refine C.out.mono ?_
    rintro e w1 ⟨rfl, hb1⟩
    have B1 := Lib.hid hb1
    clear hb1
    go_wp2
    go_ret2
    exact ⟨rfl, B1.out⟩

set_option maxHeartbeats 1000000 in
theorem implFirstModel_v (x0 : List Nd) (v : Value) (lo hi : Nat) (w : World) (hl : x0.length ≤ 1048576) (h : InN w lo hi v x0) (hT : Tb w) (hB : Db w) :
    Calls Tryd.prog 23 #[v] w fun e w' => e = .returned (.tuple #[.int .i64 (fmV x0), .int .i64 (fmC x0)]) ∧ Below w.heap.size w w' := by
  obtain ⟨a, cap, rfl, hat, hca, hcb⟩ := h.at'
  have MM := modelsOf_any x0 a cap w hl hat hT
  have DB := Lib.hid hB
  clear h hat hT hB
  by_cases hc : ck x0 = 0
  · have f1 := (toFm_of (ck_good hc).1).1
    rw [hc, mwR_good hc] at MM
    have C := Lib.hid MM
    by_cases h2 : fs (tbl (toFm x0) 64) true 0 < 0
    · obtain ⟨e1, e2⟩ := fm_none hc h2
      rw [e1, e2]
      have hz := (fs_none _ f1).1 h2
      rw [hz] at C
      clear MM hc h2 hz f1 e1 e2
      go_enter Tryd.func23, Tryd.ntmps23
      go_wp2_with fail
      refine C.out.mono ?_
      rintro e w1 ⟨rfl, hb1⟩
      rw [← U_zero]
      have B1 := Lib.hid hb1
      clear hb1
      go_wp2
      go_ret2
      exact ⟨rfl, B1.out⟩
    · obtain ⟨e1, e2⟩ := fm_some hc h2
      have h0 : (toFm x0).mw.toNat ≠ 0 := fun h => h2 ((fs_none _ f1).2 (BitVec.eq_of_toNat_eq (by simpa using h)))
      have hlt := (toFm x0).mw.isLt
      rw [e1, e2, ctz_fs _ f1 h0]
      unfold U at C
      generalize (toFm x0).mw.toNat = x at C h0 hlt ⊢
      have hne : ((x : Int) == 0) = false := by simp; omega
      have TZ := Lib.hid (fun W h => tz_any x hlt h0 W h)
      clear MM hc h2 f1 e1 e2
      go_enter Tryd.func23, Tryd.ntmps23
      go_wp2_with fail
      refine C.out.mono ?_
      rintro e w1 ⟨rfl, hb1⟩
      have B1 := Lib.hid hb1
      clear hb1
      go_wp2_with fail
      refine (TZ.out w1 (DB.out.keep B1.out (Nat.le_refl _))).mono ?_
      rintro e w' ⟨rfl, rfl⟩
      go_wp2
      go_ret2
      exact ⟨rfl, B1.out⟩
  · obtain ⟨e1, e2⟩ := fm_bad hc
    rw [e1, e2]
    rw [mwR_bad hc] at MM
    have C := Lib.hid MM
    have hne : (ck x0 == 0) = false := by simpa using hc
    generalize ck x0 = z at C hne ⊢
    clear MM hc e1 e2
    go_enter Tryd.func23, Tryd.ntmps23
    go_wp2_with fail
    refine C.out.mono ?_
    rintro e w1 ⟨rfl, hb1⟩
    have B1 := Lib.hid hb1
    clear hb1
    go_wp2
    go_ret2
    exact ⟨rfl, B1.out⟩

end Go.Proofs.YtfpnmeacnhcakaaDoor
