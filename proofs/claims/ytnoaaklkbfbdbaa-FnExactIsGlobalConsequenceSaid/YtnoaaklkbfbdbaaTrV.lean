/- Contracts of TruthSet, IsTrueAt and IsTrueIn of the model and of the program, at every argument. Conditions: those in the theorems. -/
import Derived.Test.YtnoaaklkbfbdbaaTrP
import Derived.Test.YtnoaaklkbfbdbaaJn14
namespace Go.Proofs.Ytnoaaklkbfbdbaa
open Go.RowKit

def mdC (b1 b2 : Bool) : Int := if b1 && b2 then 0 else 1

set_option maxHeartbeats 400000 in
theorem truth_any (f : Fm) (hf : f.ok) (n : Int) (xs ys : List Int) (a : Option Addr) (cap : Nat) (a' : Option Addr) (cap' : Nat) (b off len cp : Nat) (w : World) (hl : len ≤ 1048576) (hm : Mo w n a a' xs ys) (h : AtF w b off len cp f) :
    Calls Try.prog 86 #[.agg #[.int .i64 n, .slice a xs.length cap, .slice a' ys.length cap'], .slice (some ⟨b, off, none⟩) len cp] w fun e w' => e = .returned (.int .i64 (f.tr xs ys)) ∧ Below w.heap.size w w' := by
  obtain ⟨W, hW, hb0, hx, hWs⟩ := boxM (w := w) n a xs.length cap a' ys.length cap' 65
  have HB := Lib.hid hb0
  have T := truthAt_any f hf n xs ys a cap a' cap' f.enc b off len cp 0 [] W hl (hm.keep hb0) (h.1.keep hb0 (Nat.le_refl _)) (by simp)
  obtain ⟨en, hen⟩ : ∃ en : Int, en = ((0 + f.sz : Nat) : Int) := ⟨_, rfl⟩
  rw [← hen] at T
  have T1 := Lib.hid T
  have HW := Lib.hid hW
  clear h hm hb0 hx hW T hen
  go_enter Try.func86, Try.ntmps86
  go_wp2_with fail
  rw [← HW.out]
  refine T1.out.mono ?_
  rintro e w1 ⟨rfl, hb⟩
  have B1 := Lib.hid (HB.out.trans (hb.mono HB.out.size))
  clear hb
  go_wp2
  go_ret
  exact ⟨rfl, B1.out⟩

set_option maxHeartbeats 2000000 in
set_option maxRecDepth 100000 in
theorem falsity_any (f : Fm) (hf : f.ok) (n : Int) (xs ys : List Int) (a : Option Addr) (cap : Nat) (a' : Option Addr) (cap' : Nat) (b off len cp : Nat) (w : World) (hl : len ≤ 1048576) (hm : Mo w n a a' xs ys) (h : AtF w b off len cp f) :
    Calls Try.prog 46 #[.agg #[.int .i64 n, .slice a xs.length cap, .slice a' ys.length cap'], .slice (some ⟨b, off, none⟩) len cp] w fun e w' => e = .returned (.int .i64 (bits .andNot .i64 (full n) (f.tr xs ys))) ∧ Below w.heap.size w w' := by
  obtain ⟨W, hW, hb0, hx, hWs⟩ := boxM (w := w) n a xs.length cap a' ys.length cap' 65
  have HB := Lib.hid hb0
  have X := Lib.hid hx
  have T := Lib.hid (show ∀ w1 : World, Below W.heap.size W w1 → _ from fun w1 hw => truth_any f hf n xs ys a cap a' cap' b off len cp w1 hl ((hm.keep hb0).keep hw) ((h.keep hb0 (Nat.le_refl _)).keep hw (Nat.le_refl _)))
  obtain ⟨hn, h8, -⟩ := hm
  have hn0 : 0 ≤ n := by omega
  have hn30 : n ≤ 30 := by omega
  obtain ⟨lt, x0, x1, x2⟩ := hx
  have HW := Lib.hid hW
  clear h hb0 hW hn h8
  go_enter Try.func46, Try.ntmps46
  go_wp2
  rw [← HW.out]
  go_region_held3 (fun w' => w'.cell? ⟨w.heap.size, 0, none⟩ = some (.int .i64 n) ∧ w'.cell? ⟨w.heap.size, 1, none⟩ = some (.slice a xs.length cap) ∧ w'.cell? ⟨w.heap.size, 2, none⟩ = some (.slice a' ys.length cap')) (first | exact ⟨z0, z1, z2⟩ | exact ⟨y0, y1, y2⟩ | exact ⟨x0, x1, x2⟩ | go_keep) (first | (go_at_call 54; refine (allWorlds_any n _ _ _ _ hn0 hn30).mono ?_; rintro e w1 ⟨rfl, hb⟩; have T1 := Lib.hid (show Below W.heap.size W w1 from below_of_drew hb); clear hb; obtain ⟨ly, y0, y1, y2⟩ := X.out.keep T1.out) | (go_at_call 86; refine (T.out _ T1.out).mono ?_; rintro e w2 ⟨rfl, hb⟩; have T2 := Lib.hid (show Below W.heap.size W w2 from T1.out.trans (hb.mono T1.out.size)); clear hb; obtain ⟨lz, z0, z1, z2⟩ := X.out.keep T2.out))
  all_goals
    go_wp2
    go_ret
    exact ⟨rfl, HB.out.trans (T2.out.mono HB.out.size)⟩

/-! TruthSet -/
noncomputable def tsV (n : Int) (xs ys : List Int) (zs : List Nd) : Int := if mdC (isM n xs ys) (isB zs zs.length) = 0 then (toFm zs).tr xs ys else 0
theorem ts_ok {n : Int} {xs ys : List Int} {zs : List Nd} (h1 : isM n xs ys = true) (h2 : isB zs zs.length = true) : Ending.returned (.tuple #[.int .i64 ((toFm zs).tr xs ys), .int .i64 0]) = .returned (.tuple #[.int .i64 (tsV n xs ys zs), .int .i64 (mdC (isM n xs ys) (isB zs zs.length))]) := by rw [tsV, h1, h2]; rfl
theorem ts_no {n : Int} {xs ys : List Int} {zs : List Nd} {b1 b2 : Bool} (h : isM n xs ys = b1) (h' : isB zs zs.length = b2) (hb : (b1 && b2) = false) : Ending.returned (.tuple #[.int .i64 0, .int .i64 1]) = .returned (.tuple #[.int .i64 (tsV n xs ys zs), .int .i64 (mdC (isM n xs ys) (isB zs zs.length))]) := by rw [tsV, h, h', mdC, hb]; rfl

end Go.Proofs.Ytnoaaklkbfbdbaa
