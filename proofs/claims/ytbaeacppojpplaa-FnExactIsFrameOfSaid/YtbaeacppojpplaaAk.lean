/- The entries AxiomHolds, IsFrameOf of the model. Conditions: those in the theorems. -/
import Derived.Test.YtbaeacppojpplaaAj
namespace Go.Proofs.Ytbaeacppojpplaa
open Go.RowKit

def ahR (n : Int) (xs : List Int) (s : ByteArray) : Bool := if frB n xs then (if fdV nmA s = -1 then false else axB (fdV nmA s).toNat xs) else false
def ahC (n : Int) (xs : List Int) (s : ByteArray) : Int := if frB n xs then (if fdV nmA s = -1 then 4 else 0) else 1
def ifR (n : Int) (xs : List Int) (s : ByteArray) : Bool := if frB n xs then (if fdV nmL s = -1 then false else lgB (fdV nmL s).toNat xs) else false
def ifC (n : Int) (xs : List Int) (s : ByteArray) : Int := if frB n xs then (if fdV nmL s = -1 then 4 else 0) else 1
theorem ah_bad {n : Int} {xs : List Int} {s : ByteArray} (h : frB n xs = false) : Ending.returned (.tuple #[.bool false, .int .i64 1]) = .returned (.tuple #[.bool (ahR n xs s), .int .i64 (ahC n xs s)]) := by rw [ahR, ahC, h]; rfl
theorem ah_no {n : Int} {xs : List Int} {s : ByteArray} (h : frB n xs = true) (h1 : fdV nmA s = -1) : Ending.returned (.tuple #[.bool false, .int .i64 4]) = .returned (.tuple #[.bool (ahR n xs s), .int .i64 (ahC n xs s)]) := by rw [ahR, ahC, h, h1]; rfl
theorem ah_yes {n : Int} {xs : List Int} {s : ByteArray} {i : Nat} (h : frB n xs = true) (h1 : fdV nmA s = i) : Ending.returned (.tuple #[.bool (axB i xs), .int .i64 0]) = .returned (.tuple #[.bool (ahR n xs s), .int .i64 (ahC n xs s)]) := by
  have : ¬ ((i : Int) = -1) := by omega
  rw [ahR, ahC, h, h1, if_pos rfl, if_pos rfl, if_neg this, if_neg this]; rfl
theorem if_bad {n : Int} {xs : List Int} {s : ByteArray} (h : frB n xs = false) : Ending.returned (.tuple #[.bool false, .int .i64 1]) = .returned (.tuple #[.bool (ifR n xs s), .int .i64 (ifC n xs s)]) := by rw [ifR, ifC, h]; rfl
theorem if_no {n : Int} {xs : List Int} {s : ByteArray} (h : frB n xs = true) (h1 : fdV nmL s = -1) : Ending.returned (.tuple #[.bool false, .int .i64 4]) = .returned (.tuple #[.bool (ifR n xs s), .int .i64 (ifC n xs s)]) := by rw [ifR, ifC, h, h1]; rfl
theorem if_yes {n : Int} {xs : List Int} {s : ByteArray} {i : Nat} (h : frB n xs = true) (h1 : fdV nmL s = i) : Ending.returned (.tuple #[.bool (lgB i xs), .int .i64 0]) = .returned (.tuple #[.bool (ifR n xs s), .int .i64 (ifC n xs s)]) := by
  have : ¬ ((i : Int) = -1) := by omega
  rw [ifR, ifC, h, h1, if_pos rfl, if_pos rfl, if_neg this, if_neg this]; rfl

set_option maxHeartbeats 2000000 in
set_option maxRecDepth 100000 in
theorem specAxiomHolds_any (n : Int) (xs : List Int) (s : ByteArray) (a : Option Addr) (len cap : Nat) (w : World) (hl : len ≤ 1048576) (h : At w a len xs) :
    Calls Try.prog 12 #[.agg #[.int .i64 n, .slice a len cap], .string s] w fun e w' => e = .returned (.tuple #[.bool (ahR n xs s), .int .i64 (ahC n xs s)]) ∧ Below w.heap.size w w' := by
  obtain ⟨W, hW, HB, X⟩ : ∃ W : World, W = w.alloc (.cells #[.int .i64 n, .slice a len cap] 31) ∧ Hid (Below w.heap.size w W) ∧ Hid (Bx W w.heap.size n a len cap) := ⟨_, rfl, Lib.hid (alloc_keep _ _).1, Lib.hid (Bx.new _ _ _ _ _ _)⟩
  have HW := Lib.hid hW
  have H := Lib.hid (h.keep HB.out (Nat.le_refl _))
  have h0 := h.1
  clear h hW
  cases hb : frB n xs
  · have E := Lib.hid (ah_bad (s := s) hb)
    have FB := Lib.hid hb
    clear hb h0
    obtain ⟨lt, x0, x1⟩ := X.out
    go_enter Try.func12, Try.ntmps12
    go_wp2_with fail
    rw [← HW.out]
    refine (l05Is_any n xs a len cap _ hl H.out).mono ?_
    rw [FB.out]
    rintro e w1 ⟨rfl, hb⟩
    have B1 := Lib.hid (HB.out.trans (hb.mono HB.out.size))
    clear hb
    go_wp2
    go_ret2
    exact ⟨E.out, B1.out⟩
  · obtain ⟨hn, h8, -, hr⟩ := frB_ok hb
    have FB := Lib.hid hb
    have HR := Lib.hid hr
    subst hn
    obtain rfl := h0
    clear hb hr
    rcases fd_cases nmA s with e0 | ⟨i, hi, he, e0⟩
    · have E := Lib.hid (ah_no FB.out e0)
      have E0 := Lib.hid e0
      clear e0
      obtain ⟨lt, x0, x1⟩ := X.out
      go_enter Try.func12, Try.ntmps12
      go_wp2_with fail
      rw [← HW.out]
      refine (l05Is_any xs.length xs a xs.length cap _ hl H.out).mono ?_
      rw [FB.out]
      rintro e w1 ⟨rfl, hb⟩
      have T1 := Lib.hid hb
      clear hb
      go_wp2_with fail
      refine (l09Names_any _).mono ?_
      rintro e w2 ⟨v, rfl, ho, hb⟩
      have T2 := Lib.hid (T1.out.trans (hb.mono T1.out.size))
      obtain ⟨a', cap', rfl, hat, -⟩ := ho.at
      have HAT := Lib.hid hat
      clear ho hb hat
      go_wp2_with fail
      refine (l09Find_any nmA s a' cap' w2 (by decide) HAT.out).mono ?_
      rw [E0.out]
      rintro e w3 ⟨rfl, hb⟩
      have T3 := Lib.hid (T2.out.trans (hb.mono T2.out.size))
      clear hb
      go_wp2
      go_ret2
      exact ⟨E.out, HB.out.trans (T3.out.mono HB.out.size)⟩
    · have E := Lib.hid (ah_yes FB.out e0)
      have E0 := Lib.hid e0
      have HE := Lib.hid he
      have hi2 : i < 13 := hi
      have hi3 : (i : Int) < 13 := by omega
      clear e0 he hi
      obtain ⟨lt, x0, x1⟩ := X.out
      go_enter Try.func12, Try.ntmps12
      go_wp2_with fail
      rw [← HW.out]
      refine (l05Is_any xs.length xs a xs.length cap _ hl H.out).mono ?_
      rw [FB.out]
      rintro e w1 ⟨rfl, hb⟩
      have T1 := Lib.hid hb
      clear hb
      go_wp2_with fail
      refine (l09Names_any _).mono ?_
      rintro e w2 ⟨v, rfl, ho, hb⟩
      have T2 := Lib.hid (T1.out.trans (hb.mono T1.out.size))
      obtain ⟨a', cap', rfl, hat, -⟩ := ho.at
      have HAT := Lib.hid hat
      clear ho hb hat
      go_wp2_with fail
      refine (l09Find_any nmA s a' cap' w2 (by decide) HAT.out).mono ?_
      rw [E0.out]
      rintro e w3 ⟨rfl, hb⟩
      have T3 := Lib.hid (T2.out.trans (hb.mono T2.out.size))
      clear hb x0 x1
      obtain ⟨ly, x0, x1⟩ := X.out.keep T3.out
      go_wp2_with fail
      refine (l09Holds_any i hi2 s HE.out xs a cap _ h8 HR.out (H.out.keep T3.out (Nat.le_refl _))).mono ?_
      rintro e w4 ⟨rfl, hb⟩
      have T4 := Lib.hid (T3.out.trans (hb.mono T3.out.size))
      clear hb
      go_wp2
      go_ret2
      exact ⟨E.out, HB.out.trans (T4.out.mono HB.out.size)⟩
theorem specAxiomHolds_v (n : Int) (xs : List Int) (s : ByteArray) (v : Value) (lo hi : Nat) (w : World) (hl : xs.length ≤ 1048576) (h : InF w lo hi v n xs) :
    Calls Try.prog 12 #[v, .string s] w fun e w' => e = .returned (.tuple #[.bool (ahR n xs s), .int .i64 (ahC n xs s)]) ∧ Below w.heap.size w w' := by
  obtain ⟨a, cap, rfl, hat, -⟩ := h.at
  exact specAxiomHolds_any n xs s a _ cap w hl hat

set_option maxHeartbeats 2000000 in
set_option maxRecDepth 100000 in
theorem specIsFrameOf_any (n : Int) (xs : List Int) (s : ByteArray) (a : Option Addr) (len cap : Nat) (w : World) (hl : len ≤ 1048576) (h : At w a len xs) :
    Calls Try.prog 23 #[.agg #[.int .i64 n, .slice a len cap], .string s] w fun e w' => e = .returned (.tuple #[.bool (ifR n xs s), .int .i64 (ifC n xs s)]) ∧ Below w.heap.size w w' := by
  obtain ⟨W, hW, HB, X⟩ : ∃ W : World, W = w.alloc (.cells #[.int .i64 n, .slice a len cap] 31) ∧ Hid (Below w.heap.size w W) ∧ Hid (Bx W w.heap.size n a len cap) := ⟨_, rfl, Lib.hid (alloc_keep _ _).1, Lib.hid (Bx.new _ _ _ _ _ _)⟩
  have HW := Lib.hid hW
  have H := Lib.hid (h.keep HB.out (Nat.le_refl _))
  have h0 := h.1
  clear h hW
  cases hb : frB n xs
  · have E := Lib.hid (if_bad (s := s) hb)
    have FB := Lib.hid hb
    clear hb h0
    obtain ⟨lt, x0, x1⟩ := X.out
    go_enter Try.func23, Try.ntmps23
    go_wp2_with fail
    rw [← HW.out]
    refine (l05Is_any n xs a len cap _ hl H.out).mono ?_
    rw [FB.out]
    rintro e w1 ⟨rfl, hb⟩
    have B1 := Lib.hid (HB.out.trans (hb.mono HB.out.size))
    clear hb
    go_wp2
    go_ret2
    exact ⟨E.out, B1.out⟩
  · obtain ⟨hn, h8, -, hr⟩ := frB_ok hb
    have FB := Lib.hid hb
    have HR := Lib.hid hr
    subst hn
    obtain rfl := h0
    clear hb hr
    rcases fd_cases nmL s with e0 | ⟨i, hi, he, e0⟩
    · have E := Lib.hid (if_no FB.out e0)
      have E0 := Lib.hid e0
      clear e0
      obtain ⟨lt, x0, x1⟩ := X.out
      go_enter Try.func23, Try.ntmps23
      go_wp2_with fail
      rw [← HW.out]
      refine (l05Is_any xs.length xs a xs.length cap _ hl H.out).mono ?_
      rw [FB.out]
      rintro e w1 ⟨rfl, hb⟩
      have T1 := Lib.hid hb
      clear hb
      go_wp2_with fail
      refine (l09Logics_any _).mono ?_
      rintro e w2 ⟨v, rfl, ho, hb⟩
      have T2 := Lib.hid (T1.out.trans (hb.mono T1.out.size))
      obtain ⟨a', cap', rfl, hat, -⟩ := ho.at
      have HAT := Lib.hid hat
      clear ho hb hat
      go_wp2_with fail
      refine (l09Find_any nmL s a' cap' w2 (by decide) HAT.out).mono ?_
      rw [E0.out]
      rintro e w3 ⟨rfl, hb⟩
      have T3 := Lib.hid (T2.out.trans (hb.mono T2.out.size))
      clear hb
      go_wp2
      go_ret2
      exact ⟨E.out, HB.out.trans (T3.out.mono HB.out.size)⟩
    · have E := Lib.hid (if_yes FB.out e0)
      have E0 := Lib.hid e0
      have HE := Lib.hid he
      have hi2 : i < 16 := hi
      have hi3 : (i : Int) < 16 := by omega
      clear e0 he hi
      obtain ⟨lt, x0, x1⟩ := X.out
      go_enter Try.func23, Try.ntmps23
      go_wp2_with fail
      rw [← HW.out]
      refine (l05Is_any xs.length xs a xs.length cap _ hl H.out).mono ?_
      rw [FB.out]
      rintro e w1 ⟨rfl, hb⟩
      have T1 := Lib.hid hb
      clear hb
      go_wp2_with fail
      refine (l09Logics_any _).mono ?_
      rintro e w2 ⟨v, rfl, ho, hb⟩
      have T2 := Lib.hid (T1.out.trans (hb.mono T1.out.size))
      obtain ⟨a', cap', rfl, hat, -⟩ := ho.at
      have HAT := Lib.hid hat
      clear ho hb hat
      go_wp2_with fail
      refine (l09Find_any nmL s a' cap' w2 (by decide) HAT.out).mono ?_
      rw [E0.out]
      rintro e w3 ⟨rfl, hb⟩
      have T3 := Lib.hid (T2.out.trans (hb.mono T2.out.size))
      clear hb x0 x1
      obtain ⟨ly, x0, x1⟩ := X.out.keep T3.out
      go_wp2_with fail
      refine (l09Of_any xs a cap i hi2 s E0.out _ h8 HR.out (H.out.keep T3.out (Nat.le_refl _))).mono ?_
      rintro e w4 ⟨rfl, hb⟩
      have T4 := Lib.hid (T3.out.trans (hb.mono T3.out.size))
      clear hb
      go_wp2
      go_ret2
      exact ⟨E.out, HB.out.trans (T4.out.mono HB.out.size)⟩
theorem specIsFrameOf_v (n : Int) (xs : List Int) (s : ByteArray) (v : Value) (lo hi : Nat) (w : World) (hl : xs.length ≤ 1048576) (h : InF w lo hi v n xs) :
    Calls Try.prog 23 #[v, .string s] w fun e w' => e = .returned (.tuple #[.bool (ifR n xs s), .int .i64 (ifC n xs s)]) ∧ Below w.heap.size w w' := by
  obtain ⟨a, cap, rfl, hat, -⟩ := h.at
  exact specIsFrameOf_any n xs s a _ cap w hl hat

end Go.Proofs.Ytbaeacppojpplaa
