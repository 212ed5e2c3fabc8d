/- 2 texts in one: TrP, TrV. -/
import Derived.Test.YtecjmibnoldpgabJn09
import Derived.Test.YtecjmibnoldpgabJn08
import Derived.Test.YtecjmibnoldpgabJn13
import Derived.Test.YtecjmibnoldpgabJn12
import Derived.Test.YtecjmibnoldpgabJn10
/- What the program answers for the truth set of a formula in a model. Conditions: those in the theorems. -/
namespace Go.Proofs.Ytecjmibnoldpgab
open Go.RowKit

end Go.Proofs.Ytecjmibnoldpgab

/- Contracts of TruthSet, IsTrueAt and IsTrueIn of the model and of the program, at every argument. Conditions: those in the theorems. -/
namespace Go.Proofs.Ytecjmibnoldpgab
open Go.RowKit

def mdC (b1 b2 : Bool) : Int := if b1 && b2 then 0 else 1

set_option maxHeartbeats 1000000 in
theorem checkModel_any (n : Int) (xs ys : List Int) (a : Option Addr) (len cap : Nat) (b : Option Addr) (m d : Nat) (zss : List (List Nd)) (c : Option Addr) (l cl : Nat) (w : World) (hl : len ≤ 1048576) (hm : m ≤ 1048576) (hz : l ≤ 2097152) (hi : ∀ j, j < l → (nthL zss j).length ≤ 1048576) (h : At w a len xs) (h' : At w b m ys) (h'' : AtNN w c l zss) :
    Calls Try.prog 89 #[.agg #[.int .i64 n, .slice a len cap, .slice b m d], .slice c l cl] w fun e w' => e = .returned (.int .i64 (mdC (isM n xs ys) (okAll zss l))) ∧ Below w.heap.size w w' := by
  obtain ⟨W, hW, hb0, hx, hWs⟩ := boxM (w := w) n a len cap b m d 32
  have HB := Lib.hid hb0
  have H := Lib.hid (h.keep hb0 (Nat.le_refl _))
  have H' := Lib.hid (h'.keep hb0 (Nat.le_refl _))
  have H2 := Lib.hid (h''.keep hb0 (Nat.le_refl _))
  have HI := Lib.hid hi
  have HW := Lib.hid hW
  clear h h' h'' hb0 hx hW hi
  cases h1 : isM n xs ys
  · have F := Lib.hid h1
    clear h1
    go_enter Try.func89, Try.ntmps89
    go_wp2_with fail
    rw [← HW.out]
    refine (implIsModel_any n xs ys _ _ _ _ _ _ _ hl hm H.out H'.out).mono ?_
    rw [F.out]
    rintro e w1 ⟨rfl, hb⟩
    have B1 := Lib.hid (HB.out.trans (hb.mono HB.out.size))
    clear hb
    go_wp2
    go_ret
    exact ⟨rfl, B1.out⟩
  · have F := Lib.hid h1
    cases h2 : okAll zss l
    all_goals
      have F2 := Lib.hid h2
      clear h2
      go_enter Try.func89, Try.ntmps89
      go_wp2_with fail
      rw [← HW.out]
      refine (implIsModel_any n xs ys _ _ _ _ _ _ _ hl hm H.out H'.out).mono ?_
      rw [F.out]
      rintro e w1 ⟨rfl, hb⟩
      have B1 := Lib.hid (HB.out.trans (hb.mono HB.out.size))
      have A1 := Lib.hid (H2.out.keep hb (Nat.le_refl _))
      clear hb
      go_wp2_with fail
      refine (areF_any zss _ _ _ _ hz HI.out A1.out).mono ?_
      rw [F2.out]
      rintro e w2 ⟨rfl, hb⟩
      have B2 := Lib.hid (B1.out.trans (hb.mono B1.out.size))
      clear hb
      go_wp2
      go_ret
      exact ⟨rfl, B2.out⟩

/-! TruthSet -/
noncomputable def tsV (n : Int) (xs ys : List Int) (zs : List Nd) : Int := if mdC (isM n xs ys) (isB zs zs.length) = 0 then (toFm zs).tr xs ys else 0
theorem ts_ok {n : Int} {xs ys : List Int} {zs : List Nd} (h1 : isM n xs ys = true) (h2 : isB zs zs.length = true) : Ending.returned (.tuple #[.int .i64 ((toFm zs).tr xs ys), .int .i64 0]) = .returned (.tuple #[.int .i64 (tsV n xs ys zs), .int .i64 (mdC (isM n xs ys) (isB zs zs.length))]) := by rw [tsV, h1, h2]; rfl
theorem ts_no {n : Int} {xs ys : List Int} {zs : List Nd} {b1 b2 : Bool} (h : isM n xs ys = b1) (h' : isB zs zs.length = b2) (hb : (b1 && b2) = false) : Ending.returned (.tuple #[.int .i64 0, .int .i64 1]) = .returned (.tuple #[.int .i64 (tsV n xs ys zs), .int .i64 (mdC (isM n xs ys) (isB zs zs.length))]) := by rw [tsV, h, h', mdC, hb]; rfl
theorem Mo.of {w : World} {n : Int} {xs ys : List Int} {a a' : Option Addr} (h : isM n xs ys = true) (h1 : At w a xs.length xs) (h2 : At w a' ys.length ys) : Mo w n a a' xs ys := by
  obtain ⟨-, e1, e2, e3, e4, e5⟩ := isM_ok h
  exact ⟨e1, e2, ⟨e3, e5⟩, e4, h1, h2⟩

end Go.Proofs.Ytecjmibnoldpgab
