/- FirstModel of the model and of the program. Conditions: the package's table and that of math/bits for the program, and those in the theorems. -/
import Derived.Shelf.Spec.TrailingZeros
import Derived.Test.YtfkahkhmnchnjaaDoorJn09
namespace Go.Proofs.YtfkahkhmnchnjaaDoor
open Go.RowKit

/-- The table of math/bits reads as its text lays it. -/
def Db (w : World) : Prop := ∀ j, j < 64 → w.cell? ⟨0, j, none⟩ = some (.int .u8 ((Lib.deBruijn64tab.getD j 0 : Nat) : Int))
theorem Db.lt {w : World} (h : Db w) : 0 < w.heap.size := World.block_lt_of_cell? _ _ (h 0 (by decide))
theorem Db.keep {w w' : World} {C : Nat} (h : Db w) (hb : Below C w w') (hC : w.heap.size ≤ C) : Db w' := fun s hs =>
  (hb.cell (p := ⟨0, s, none⟩) (Nat.lt_of_lt_of_le h.lt hC)).trans (h s hs)

set_option maxHeartbeats 1000000 in
theorem tz_core (x k idx : Nat) (w : World) (hx0 : ((x : Int) == 0) = false)
    (key : IntKind.u64.wrap (bits BinOp.and IntKind.u64 (x : Int) (IntKind.u64.wrap (-(x : Int))) * 285870213051353865) / 288230376151711744 = (idx : Int))
    (hi : idx < 64) (hk : k < 64) (hcell : w.cell? ⟨0, idx, none⟩ = some (.int .u8 k)) :
    Calls Tryd.prog 22 #[.int .u64 x] w fun e w' => e = .returned (.int .i64 k) ∧ w = w' := by
  go_enter Tryd.func22, Tryd.ntmps22
  go_wp2_with (simp only [key])
  go_ret
  exact ⟨rfl, rfl⟩
theorem tz_any (x : Nat) (hx : x < 18446744073709551616) (hx0 : x ≠ 0) (w : World) (hT : Db w) :
    Calls Tryd.prog 22 #[.int .u64 x] w fun e w' => e = .returned (.int .i64 ((Lib.ctz 64 x : Nat) : Int)) ∧ w = w' := by
  obtain ⟨hlow, hk⟩ := Lib.lowest_bit 64 x hx0 hx
  obtain ⟨hi, htab⟩ := Lib.deBruijn64_at _ hk
  have hcell := hT _ hi
  rw [htab] at hcell
  exact tz_core x _ _ w (by simp; omega) (tz64_key x _ hx hx0 hlow) hi hk hcell

theorem fs_first {bs : List Bool} {v : Bool} {c : Nat} (hc : c < bs.length) (h1 : bs.getD c false = v) (h2 : ∀ i, i < c → bs.getD i false ≠ v) : fs bs v 0 = c := by
  have : ∀ k, k ≤ c → fs bs v 0 = fs (bs.drop k) v k := by
    intro k
    induction k with
    | zero => intro _; rfl
    | succ k ih => intro hk; exact fs_go (ih (by omega)) (by omega : k < bs.length) rfl (h2 k (by omega))
  exact fs_hit (this c (Nat.le_refl _)) hc rfl h1
theorem ctz_fs (f : Fm) (hf : f.ok) (h0 : f.mw.toNat ≠ 0) : fs (tbl f 64) true 0 = ((Lib.ctz 64 f.mw.toNat : Nat) : Int) := by
  obtain ⟨m, hm, hc⟩ := Lib.ctzFrom_spec 64 f.mw.toNat (Nat.pos_of_ne_zero h0) f.mw.isLt
  have e : Lib.ctz 64 f.mw.toNat = Lib.ctzFrom 64 f.mw.toNat := if_neg h0
  rw [e]
  generalize Lib.ctzFrom 64 f.mw.toNat = c at hm hc
  have hb : ∀ i, i < 64 → f.ev i = (2 ^ c * (2 * m + 1)).testBit i := fun i hi => by
    rw [← Fm.mw_row f hf i hi, ← hm]; rfl
  refine fs_first (by rw [tbl_len]; exact hc) ?_ ?_
  · rw [tbl_at f hc, hb c hc, Nat.mul_comm, Nat.testBit_mul_two_pow]
    simp [Nat.testBit_zero]
  · intro i hi
    rw [tbl_at f (by omega : i < 64), hb i (by omega), Nat.mul_comm, Nat.testBit_mul_two_pow]
    simp; omega
theorem fs_none (f : Fm) (hf : f.ok) : fs (tbl f 64) true 0 < 0 ↔ f.mw = 0#64 := by
  rw [fs_tbl]
  constructor
  · intro h
    refine word_ext fun r hr => ?_
    rw [Fm.mw_row f hf r hr]
    simpa using h r hr
  · intro h r hr
    rw [← Fm.mw_row f hf r hr, h]; simp

noncomputable def fmV (xs : List Nd) : Int := if ck xs = 0 then (if fs (tbl (toFm xs) 64) true 0 < 0 then 0 else fs (tbl (toFm xs) 64) true 0) else 0
noncomputable def fmC (xs : List Nd) : Int := if ck xs = 0 then (if fs (tbl (toFm xs) 64) true 0 < 0 then 4 else 0) else ck xs
theorem fm_bad {xs : List Nd} (h : ck xs ≠ 0) : fmV xs = 0 ∧ fmC xs = ck xs := ⟨if_neg h, if_neg h⟩
theorem fm_none {xs : List Nd} (h : ck xs = 0) (h2 : fs (tbl (toFm xs) 64) true 0 < 0) : fmV xs = 0 ∧ fmC xs = 4 := by
  unfold fmV fmC; rw [if_pos h, if_pos h, if_pos h2, if_pos h2]; exact ⟨rfl, rfl⟩
theorem fm_some {xs : List Nd} (h : ck xs = 0) (h2 : ¬ fs (tbl (toFm xs) 64) true 0 < 0) : fmV xs = fs (tbl (toFm xs) 64) true 0 ∧ fmC xs = 0 := by
  unfold fmV fmC; rw [if_pos h, if_pos h, if_neg h2, if_neg h2]; exact ⟨rfl, rfl⟩

set_option maxHeartbeats 1000000 in
theorem implFirstModel_v (x0 : List Nd) (v : Value) (lo hi : Nat) (w : World) (hl : x0.length ≤ 1048576) (h : InN w lo hi v x0) (hT : Tb w) (hB : Db w) :
    Calls Tryd.prog 11 #[v] w fun e w' => e = .returned (.tuple #[.int .i64 (fmV x0), .int .i64 (fmC x0)]) ∧ Below w.heap.size w w' := by
  obtain ⟨a, cap, rfl, hat, hca, hcb⟩ := h.at'
  have MM := modelsOf_any x0 a cap w hl hat hT
  have DB := Lib.hid hB
  clear h hat hT hB
  by_cases hc : ck x0 = 0
  · have f1 := (toFm_of (ck_good hc).1).1
    rw [hc, mwR_good hc] at MM
    have C := Lib.hid MM
    by_cases h2 : fs (tbl (toFm x0) 64) true 0 < 0
    · obtain ⟨e1, e2⟩ := fm_none hc h2
      rw [e1, e2]
      have hz := (fs_none _ f1).1 h2
      rw [hz] at C
      clear MM hc h2 hz f1 e1 e2
      go_enter Tryd.func11, Tryd.ntmps11
      go_wp2_with fail
      refine C.out.mono ?_
      rintro e w1 ⟨rfl, hb1⟩
      rw [← U_zero]
      have B1 := Lib.hid hb1
      clear hb1
      go_wp2
      go_ret2
      exact ⟨rfl, B1.out⟩
    · obtain ⟨e1, e2⟩ := fm_some hc h2
      have h0 : (toFm x0).mw.toNat ≠ 0 := fun h => h2 ((fs_none _ f1).2 (BitVec.eq_of_toNat_eq (by simpa using h)))
      have hlt := (toFm x0).mw.isLt
      rw [e1, e2, ctz_fs _ f1 h0]
      unfold U at C
      generalize (toFm x0).mw.toNat = x at C h0 hlt ⊢
      have hne : ((x : Int) == 0) = false := by simp; omega
      have TZ := Lib.hid (fun W h => tz_any x hlt h0 W h)
      clear MM hc h2 f1 e1 e2
      go_enter Tryd.func11, Tryd.ntmps11
      go_wp2_with fail
      refine C.out.mono ?_
      rintro e w1 ⟨rfl, hb1⟩
      have B1 := Lib.hid hb1
      clear hb1
      go_wp2_with fail
      refine (TZ.out w1 (DB.out.keep B1.out (Nat.le_refl _))).mono ?_
      rintro e w' ⟨rfl, rfl⟩
      go_wp2
      go_ret2
      exact ⟨rfl, B1.out⟩
  · obtain ⟨e1, e2⟩ := fm_bad hc
    rw [e1, e2]
    rw [mwR_bad hc] at MM
    have C := Lib.hid MM
    have hne : (ck x0 == 0) = false := by simpa using hc
    generalize ck x0 = z at C hne ⊢
    clear MM hc e1 e2
    go_enter Tryd.func11, Tryd.ntmps11
    go_wp2_with fail
    refine C.out.mono ?_
    rintro e w1 ⟨rfl, hb1⟩
    have B1 := Lib.hid hb1
    clear hb1
    go_wp2
    go_ret2
    exact ⟨rfl, B1.out⟩

end Go.Proofs.YtfkahkhmnchnjaaDoor
