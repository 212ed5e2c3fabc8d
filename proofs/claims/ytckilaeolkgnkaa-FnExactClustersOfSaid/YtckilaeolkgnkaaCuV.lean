/- Contracts of ClustersOf of the model and of the program, at every argument. Conditions: those in the theorems. -/
import Derived.Test.YtckilaeolkgnkaaCuP
import Derived.Test.YtckilaeolkgnkaaNuN
import Derived.Test.YtckilaeolkgnkaaCuN
namespace Go.Proofs.Ytckilaeolkgnkaa
open Go.RowKit

def cuC (n : Int) (xs : List Int) : Int := if frB n xs then 0 else 1
def cuR (n : Int) (xs : List Int) : List Int := if frB n xs then ckL xs else []
theorem cu_bad {n : Int} {xs : List Int} (h : frB n xs = false) : cuR n xs = [] ∧ cuC n xs = 1 := by unfold cuR cuC; rw [h]; exact ⟨rfl, rfl⟩
theorem cu_good {n : Int} {xs : List Int} (h : frB n xs = true) : cuR n xs = ckL xs ∧ cuC n xs = 0 := by unfold cuR cuC; rw [h]; exact ⟨rfl, rfl⟩
theorem ClustersOf_len (n : Int) (xs : List Int) : (cuR n xs).length ≤ 1048576 := by
  cases h : frB n xs
  · rw [(cu_bad h).1]; simp
  · obtain ⟨-, h8, -, hr⟩ := frB_ok h
    rw [(cu_good h).1, ckL_len (by omega) hr]; omega

set_option maxHeartbeats 400000 in
theorem specClustersOf_v (n : Int) (xs : List Int) (v : Value) (lo hi : Nat) (w : World) (hl : xs.length ≤ 1048576) (h : InF w lo hi v n xs) :
    Calls Try.prog 8 #[v] w fun e w' => ∃ v', e = .returned (.tuple #[v', .int .i64 (cuC n xs)]) ∧ Own w' w.heap.size v' (cuR n xs) ∧ Below w.heap.size w w' := by
  obtain ⟨a, cap, rfl, hat, -⟩ := h.at
  have HB := Lib.hid (boxF (w := w) n a xs.length cap)
  have X := Lib.hid (Bx.new w n a xs.length cap 28)
  have H := Lib.hid (hat.keep HB.out (Nat.le_refl _))
  clear h hat
  cases hb : frB n xs
  · obtain ⟨e1, e2⟩ := cu_bad hb
    rw [e1, e2]
    have F := Lib.hid hb
    clear hb e1 e2
    go_enter Try.func8, Try.ntmps8
    go_wp2_with fail
    refine (l05Is_any n xs _ _ _ _ hl H.out).mono ?_
    rw [F.out]
    rintro e w1 ⟨rfl, hb⟩
    have B1 := Lib.hid (HB.out.trans (hb.mono HB.out.size))
    clear hb
    go_wp2
    go_ret2
    exact ⟨_, rfl, World.ownsRow_nil _ _ _ _, B1.out⟩
  · obtain ⟨e1, e2⟩ := cu_good hb
    rw [e1, e2]
    obtain ⟨hn, h8, -, hr⟩ := frB_ok hb
    have F := Lib.hid hb
    have HR := Lib.hid hr
    have C := Lib.hid (fun (w : World) (a : Option Addr) (cap : Nat) (h : At w a xs.length xs) => l05Clusters_any xs a cap w h8 hr h)
    rw [← hn] at C
    clear hb e1 e2 hr hn
    go_enter Try.func8, Try.ntmps8
    go_wp2_with fail
    refine (l05Is_any n xs _ _ _ _ hl H.out).mono ?_
    rw [F.out]
    rintro e w1 ⟨rfl, hb⟩
    have B1 := Lib.hid (HB.out.trans (hb.mono HB.out.size))
    have H1 := Lib.hid (H.out.keep hb (Nat.le_refl _))
    obtain ⟨lt, x0, x1⟩ := X.out.keep hb
    clear hb
    go_wp2_with fail
    refine (C.out _ _ _ H1.out).mono ?_
    rintro e w2 ⟨v2, rfl, ho, hb⟩
    have B2 := Lib.hid (B1.out.trans (hb.mono B1.out.size))
    have O2 := Lib.hid (ho.mono B1.out.size)
    clear hb ho x0 x1
    go_wp2
    go_ret2
    exact ⟨_, rfl, O2.out, B2.out⟩

set_option maxHeartbeats 2000000 in
theorem implClustersOf_v (n : Int) (xs : List Int) (v : Value) (lo hi : Nat) (w : World) (hl : xs.length ≤ 1048576) (h : InF w lo hi v n xs) :
    Calls Try.prog 10 #[v] w fun e w' => ∃ v', e = .returned (.tuple #[v', .int .i64 (cuC n xs)]) ∧ Own w' w.heap.size v' (cuR n xs) ∧ Below w.heap.size w w' := by
  obtain ⟨a, cap, rfl, hat, -⟩ := h.at
  obtain ⟨W, hW⟩ : ∃ W, W = w.alloc (.cells #[.int .i64 n, .slice a xs.length cap] 28) := ⟨_, rfl⟩
  have HB := Lib.hid (show Below w.heap.size w W by rw [hW]; exact boxF (w := w) n a xs.length cap)
  have X := Lib.hid (show Bx W w.heap.size n a xs.length cap by rw [hW]; exact Bx.new w n a xs.length cap 28)
  have HW := Lib.hid hW
  clear hW
  have H := Lib.hid (hat.keep HB.out (Nat.le_refl _))
  clear h hat
  cases hb : frB n xs
  · obtain ⟨e1, e2⟩ := cu_bad hb
    rw [e1, e2]
    have F := Lib.hid hb
    clear hb e1 e2
    go_enter Try.func10, Try.ntmps10
    go_wp2_with fail
    rw [← HW.out]
    refine (implIsFrame_any n xs _ _ _ _ hl H.out).mono ?_
    rw [F.out]
    rintro e w1 ⟨rfl, hb⟩
    have B1 := Lib.hid (HB.out.trans (hb.mono HB.out.size))
    clear hb
    go_wp2
    go_ret2
    exact ⟨_, rfl, World.ownsRow_nil _ _ _ _, B1.out⟩
  · obtain ⟨e1, e2⟩ := cu_good hb
    rw [e1, e2]
    obtain ⟨rfl, h8, -, hr⟩ := frB_ok hb
    have F := Lib.hid hb
    have E := Lib.hid (cu_num (by omega) hr)
    have CB := Lib.hid (fun j (hj : j < xs.length) => (cu_T (by omega) hr hj).1.bd (by omega))
    clear hb e1 e2 hr
    go_enter Try.func10, Try.ntmps10
    go_wp2_with fail
    rw [← HW.out]
    refine (implIsFrame_any _ xs _ _ _ _ hl H.out).mono ?_
    rw [F.out]
    rintro e w1 ⟨rfl, hb⟩
    have T1 := Lib.hid hb
    obtain ⟨lt, x0, x1⟩ := X.out.keep hb
    clear hb
    go_wp2_with fail
    clear x0 x1
    refine (clusterMasks_any _ xs _ _ _ (by omega) (H.out.keep T1.out (Nat.le_refl _))).mono ?_
    rintro e w3 ⟨v3, rfl, ho, hb⟩
    obtain ⟨a3, c3, rfl, hat, -, -, -⟩ := ho.at
    have L3 := Lib.hid hat
    have T3 := Lib.hid (T1.out.trans (hb.mono T1.out.size))
    clear ho hb hat
    go_wp2_with fail
    refine (numN_any (cuL xs) a3 c3 w3 (by rw [cuL_len]; omega) (fun j hj => wf64 (by have := CB.out j (by rw [cuL_len] at hj; exact hj); omega) (by have := CB.out j (by rw [cuL_len] at hj; exact hj); omega)) L3.out).mono ?_
    rintro e w4 ⟨v4, rfl, ho, hb⟩
    have T4 := Lib.hid (T3.out.trans (hb.mono T3.out.size))
    have O4 := Lib.hid (show Own w4 W.heap.size v4 (ckL xs) by
      rw [cuL_len] at ho
      rw [← E.out]
      exact ho.mono T3.out.size)
    clear ho hb
    go_wp2
    go_ret2
    exact ⟨_, rfl, O4.out.mono HB.out.size, HB.out.trans (T4.out.mono HB.out.size)⟩

end Go.Proofs.Ytckilaeolkgnkaa
