/- Contracts of the program's functions over maps between frames: the map's check, morphisms. Conditions: those in the theorems. -/
import Derived.Test.YtbfnagmjnaacoaaJn07
namespace Go.Proofs.Ytbfnagmjnaacoaa
open Go.RowKit

theorem ism1_any (x n1 : Int) (R : Nat) (w : World) (h : w.cell? ⟨R, 0, none⟩ = some (.int .i64 n1)) :
    Calls Try.prog 109 #[.int .i64 x, .pointer (some ⟨R, 0, none⟩)] w fun e w' => e = .returned (.bool (!(wlB n1 x))) ∧ w = w' := by
  go_enter Try.func109, Try.ntmps109
  go_wp2_with (go_at_call 110; refine (isBelow_any _ _ _).mono ?_; rintro e w' ⟨rfl, rfl⟩)
  go_ret
  exact ⟨rfl, rfl⟩

theorem mapB_al (n : Int) (ls : List Int) (k : Nat) : alB (fun j => wlB n (nth ls j)) k = mapB n ls k := by
  induction k with
  | zero => rfl
  | succ k ih => rw [alB, mapB, ih]
theorem mksTo_al (n : Int) (ls : List Int) (k : Nat) : alB (fun j => mskB n (nth ls j)) k = mksTo n ls k := by
  induction k with
  | zero => rfl
  | succ k ih => rw [alB, mksTo, ih]

set_option maxHeartbeats 1000000 in
theorem areBelow_any (ls : List Int) (n : Int) (al : Option Addr) (cl : Nat) (w : World) (hll : ls.length ≤ 1048576) (hL : At w al ls.length ls) :
    Calls Try.prog 53 #[.slice al ls.length cl, .int .i64 n] w fun e w' => e = .returned (.bool (mapB n ls ls.length)) ∧ Below w.heap.size w w' := by
  obtain ⟨W, hW⟩ : ∃ W, W = w.alloc (.cells #[.int .i64 n] 2) := ⟨_, rfl⟩
  have hWb : Below w.heap.size w W := by rw [hW]; exact (Below.refl _ _).alloc (Nat.le_refl _) _
  have hWc : W.cell? ⟨w.heap.size, 0, none⟩ = some (.int .i64 n) := by rw [hW]; exact World.cell?_alloc_new _ _ _ 0
  have hWs : w.heap.size < W.heap.size := by rw [hW]; simp
  have HL := Lib.hid (hL.keep hWb (Nat.le_refl _))
  have HC := Lib.hid (fun W' (hb : Below W.heap.size W W') => (hb.cell (p := ⟨w.heap.size, 0, none⟩) hWs).trans hWc)
  have CT := Lib.hid (ctI1_any (fun j => wlB n (nth ls j)) ls w.heap.size al cl W hll HL.out (fun k hk W' hW' => ism1_any _ n _ W' (HC.out W' hW')))
  have MB := Lib.hid (mapB_al n ls ls.length)
  have HB := Lib.hid hWb
  have HW := Lib.hid hW
  clear hL hW hWb hWc hWs
  go_enter Try.func53, Try.ntmps53
  go_wp2_with fail
  rw [← HW.out]
  refine CT.out.mono ?_
  rw [MB.out]
  rintro e w2 ⟨rfl, rfl⟩
  go_wp2
  go_ret
  exact ⟨ret_bool (by simp), HB.out⟩

end Go.Proofs.Ytbfnagmjnaacoaa
