/- The program's checks of arguments: lists of formulas, a variable, a node. Conditions: those in the theorems. -/
import Derived.Test.YtbhgedabcclimaaListN
import Derived.Test.YtbhgedabcclimaaOk
import Derived.Test.YtbhgedabcclimaaJoin
namespace Go.Proofs.Ytbhgedabcclimaa
open Go.RowKit

set_option maxHeartbeats 1000000 in
theorem areF_any (xss : List (List Nd)) (a : Option Addr) (len cap : Nat) (w : World) (hl : len ≤ 2097152) (hi : ∀ j, j < len → (nthL xss j).length ≤ 1048576) (h : AtNN w a len xss) :
    Calls Try.prog 73 #[.slice a len cap] w fun e w' => e = .returned (.bool (okAll xss len)) ∧ Below w.heap.size w w' := by
  have H := Lib.hid h
  have LI := Lib.hid hi
  clear h hi
  go_enter Try.func73, Try.ntmps73
  go_wp2
  go_loopw [7] (fun i wr => ∃ (j : Nat), j ≤ len ∧ i = .int .i64 j ∧ Hid (okAll xss j = true) ∧ Below w.heap.size w wr) (fun i _ => len - (intOf i).toNat)
  case atStart => exact ⟨0, Nat.zero_le _, rfl, (show _ = _ from rfl), Below.refl _ _⟩
  case round =>
    obtain ⟨j, hj, rfl, hok, hbel⟩ := hrel
    have B := Lib.hid hbel
    clear hbel
    by_cases hlt : j < len
    · obtain ⟨b, off, rfl, hb, hc⟩ := H.out.2.resolve_left (by omega)
      obtain ⟨a1, cap1, hc0, hat1⟩ := hc j hlt
      have hc1 : wr.cell? ⟨b, off + j, none⟩ = some (.slice a1 (nthL xss j).length cap1) := (B.out.cell (p := ⟨b, off + j, none⟩) hb).trans hc0
      have hn3 := LI.out j hlt
      obtain ⟨n, hn⟩ : ∃ n, n = (nthL xss j).length := ⟨_, rfl⟩
      rw [← hn] at hc1 hat1 hn3
      have N := Lib.hid hn
      have A1 := Lib.hid (hat1.keep B.out (Nat.le_refl _))
      clear hc hc0 hat1 hn
      cases hbb : isB (nthL xss j) n
      · have BB := Lib.hid hbb
        clear hbb
        have E := Lib.hid (okAll_bad hlt (show isB (nthL xss j) (nthL xss j).length = false by rw [← N.out]; exact BB.out))
        go_wp2_with fail
        refine (implIsF_any _ _ _ _ _ hn3 A1.out).mono ?_
        rw [BB.out]
        rintro e w1 ⟨rfl, hb1⟩
        have B1 := Lib.hid (B.out.trans (hb1.mono B.out.size))
        clear hb1
        go_wp2
        go_ret
        exact ⟨ret_bool E.out.symm, B1.out⟩
      · have BB := Lib.hid hbb
        clear hbb
        have OK := Lib.hid (okAll_succ hok.out (show isB (nthL xss j) (nthL xss j).length = true by rw [← N.out]; exact BB.out))
        go_wp2_with fail
        refine (implIsF_any _ _ _ _ _ hn3 A1.out).mono ?_
        rw [BB.out]
        rintro e w1 ⟨rfl, hb1⟩
        have B1 := Lib.hid (B.out.trans (hb1.mono B.out.size))
        clear hb1
        go_wp2
        go_roundw
        case rel => exact ⟨j + 1, hlt, by go_num, OK, B1.out⟩
        case measure => simp [intOf]; omega
    · obtain rfl : j = len := by omega
      have OK := Lib.hid hok.out
      clear hok
      go_wp2
      go_ret
      exact ⟨ret_bool OK.out.symm, B.out⟩

theorem okAll_1 (xs : List Nd) : okAll [xs] 1 = isB xs xs.length := by simp [okAll, nthL]
theorem okAll_2 (xs ys : List Nd) : okAll [xs, ys] 2 = (isB xs xs.length && isB ys ys.length) := by
  rw [okAll, show List.range 2 = [0, 1] from rfl]
  simp [nthL]
theorem nthL_le1 {xs : List Nd} {n : Nat} (h : xs.length ≤ n) : ∀ j, j < 1 → (nthL [xs] j).length ≤ n := by
  intro j hj
  obtain rfl : j = 0 := by omega
  exact h
theorem nthL_le2 {xs ys : List Nd} {n : Nat} (h : xs.length ≤ n) (h' : ys.length ≤ n) : ∀ j, j < 2 → (nthL [xs, ys] j).length ≤ n := by
  intro j hj
  match j, hj with
  | 0, _ => exact h
  | 1, _ => exact h'

theorem areF1_any (xs : List Nd) (a : Option Addr) (len cap C : Nat) (w : World) (hl : len ≤ 1048576) (h : AtN w a len xs) (t : TypeId) (hC : C = w.heap.size) :
    Calls Try.prog 73 #[.slice (some ⟨C, 0, none⟩) 1 1] (w.alloc (.cells #[.slice a len cap] t)) fun e w' => e = .returned (.bool (isB xs len)) ∧ Below w.heap.size w w' := by
  refine (areF_any [xs] _ 1 1 _ (by omega) (nthL_le1 (by rw [← h.1]; exact hl)) (lay1 h t hC)).mono ?_
  rintro e w' ⟨rfl, hb⟩
  have b0 : Below w.heap.size w (w.alloc (.cells #[.slice a len cap] t)) := (Below.refl _ _).alloc (Nat.le_refl _) _
  exact ⟨by rw [okAll_1, h.1], b0.trans (hb.mono b0.size)⟩
theorem areF2_any (xs ys : List Nd) (a a' : Option Addr) (len cap len' cap' C : Nat) (w : World) (hl : len ≤ 1048576) (hl' : len' ≤ 1048576) (h : AtN w a len xs) (h' : AtN w a' len' ys) (t : TypeId) (hC : C = w.heap.size) :
    Calls Try.prog 73 #[.slice (some ⟨C, 0, none⟩) 2 2] (w.alloc (.cells #[.slice a len cap, .slice a' len' cap'] t)) fun e w' => e = .returned (.bool (isB xs len && isB ys len')) ∧ Below w.heap.size w w' := by
  refine (areF_any [xs, ys] _ 2 2 _ (by omega) (nthL_le2 (by rw [← h.1]; exact hl) (by rw [← h'.1]; exact hl')) (lay2 h h' t hC)).mono ?_
  rintro e w' ⟨rfl, hb⟩
  have b0 : Below w.heap.size w (w.alloc (.cells #[.slice a len cap, .slice a' len' cap'] t)) := (Below.refl _ _).alloc (Nat.le_refl _) _
  exact ⟨by rw [okAll_2, h.1, h'.1], b0.trans (hb.mono b0.size)⟩

/-- The error of a list of lists and a number that has to be one of 0 .. n - 1. -/
def cvI (b : Bool) (n v : Int) : Int := if b then (if decide (0 ≤ v) && decide (v < n) then 0 else 2) else 1

set_option maxHeartbeats 1000000 in
theorem checkVariable_any (v : Int) (xss : List (List Nd)) (a : Option Addr) (len cap : Nat) (w : World) (hl : len ≤ 1048576) (hi : ∀ j, j < len → (nthL xss j).length ≤ 1048576) (h : AtNN w a len xss) :
    Calls Try.prog 66 #[.int .i64 v, .slice a len cap] w fun e w' => e = .returned (.int .i64 (cvI (okAll xss len) 6 v)) ∧ Below w.heap.size w w' := by
  have H := Lib.hid h
  have LI := Lib.hid hi
  clear h hi
  cases hok : okAll xss len
  · go_enter Try.func66, Try.ntmps66
    go_wp2_with fail
    refine (areF_any _ _ _ _ _ (Nat.le_trans hl (by decide)) LI.out H.out).mono ?_
    rw [hok]
    rintro e w1 ⟨rfl, hb1⟩
    go_wp2
    go_ret
    exact ⟨rfl, hb1⟩
  · have OK := Lib.hid hok
    clear hok
    by_cases h0 : 0 ≤ v
    · by_cases h6 : v < 6
      all_goals
        go_enter Try.func66, Try.ntmps66
        go_wp2_with fail
        refine (areF_any _ _ _ _ _ (Nat.le_trans hl (by decide)) LI.out H.out).mono ?_
        rw [OK.out]
        rintro e w1 ⟨rfl, hb1⟩
        go_wp2
        go_ret
        exact ⟨by simp [cvI, h0, h6], hb1⟩
    · go_enter Try.func66, Try.ntmps66
      go_wp2_with fail
      refine (areF_any _ _ _ _ _ (Nat.le_trans hl (by decide)) LI.out H.out).mono ?_
      rw [OK.out]
      rintro e w1 ⟨rfl, hb1⟩
      go_wp2
      go_ret
      exact ⟨by simp [cvI]; omega, hb1⟩
theorem cv1_any (v : Int) (xs : List Nd) (a : Option Addr) (len cap C : Nat) (w : World) (hl : len ≤ 1048576) (h : AtN w a len xs) (t : TypeId) (hC : C = w.heap.size) :
    Calls Try.prog 66 #[.int .i64 v, .slice (some ⟨C, 0, none⟩) 1 1] (w.alloc (.cells #[.slice a len cap] t)) fun e w' => e = .returned (.int .i64 (cvI (isB xs len) 6 v)) ∧ Below w.heap.size w w' := by
  refine (checkVariable_any v [xs] _ 1 1 _ (by omega) (nthL_le1 (by rw [← h.1]; exact hl)) (lay1 h t hC)).mono ?_
  rintro e w' ⟨rfl, hb⟩
  have b0 : Below w.heap.size w (w.alloc (.cells #[.slice a len cap] t)) := (Below.refl _ _).alloc (Nat.le_refl _) _
  exact ⟨by rw [okAll_1, h.1], b0.trans (hb.mono b0.size)⟩
theorem cv2_any (v : Int) (xs ys : List Nd) (a a' : Option Addr) (len cap len' cap' C : Nat) (w : World) (hl : len ≤ 1048576) (hl' : len' ≤ 1048576) (h : AtN w a len xs) (h' : AtN w a' len' ys) (t : TypeId) (hC : C = w.heap.size) :
    Calls Try.prog 66 #[.int .i64 v, .slice (some ⟨C, 0, none⟩) 2 2] (w.alloc (.cells #[.slice a len cap, .slice a' len' cap'] t)) fun e w' => e = .returned (.int .i64 (cvI (isB xs len && isB ys len') 6 v)) ∧ Below w.heap.size w w' := by
  refine (checkVariable_any v [xs, ys] _ 2 2 _ (by omega) (nthL_le2 (by rw [← h.1]; exact hl) (by rw [← h'.1]; exact hl')) (lay2 h h' t hC)).mono ?_
  rintro e w' ⟨rfl, hb⟩
  have b0 : Below w.heap.size w (w.alloc (.cells #[.slice a len cap, .slice a' len' cap'] t)) := (Below.refl _ _).alloc (Nat.le_refl _) _
  exact ⟨by rw [okAll_2, h.1, h'.1], b0.trans (hb.mono b0.size)⟩

set_option maxHeartbeats 2000000 in
theorem checkNode_any (xs : List Nd) (i : Int) (xss : List (List Nd)) (a a' : Option Addr) (len cap len' cap' : Nat) (w : World) (hl : len ≤ 1048576) (hl' : len' ≤ 1048576) (hi : ∀ j, j < len' → (nthL xss j).length ≤ 1048576) (h : AtN w a len xs) (h' : AtNN w a' len' xss) :
    Calls Try.prog 83 #[.slice a len cap, .int .i64 i, .slice a' len' cap'] w fun e w' => e = .returned (.int .i64 (cvI (isB xs len && okAll xss len') len i)) ∧ Below w.heap.size w w' := by
  have H := Lib.hid h
  have H' := Lib.hid h'
  have LI := Lib.hid hi
  clear h hi h'
  cases hok : isB xs len
  · have OK := Lib.hid hok
    clear hok
    go_enter Try.func83, Try.ntmps83
    go_wp2_with fail
    refine (implIsF_any _ _ _ _ _ hl H.out).mono ?_
    rw [OK.out]
    rintro e w1 ⟨rfl, hb1⟩
    go_wp2
    go_ret
    exact ⟨rfl, hb1⟩
  · have OK := Lib.hid hok
    clear hok
    cases hok2 : okAll xss len'
    · have OK2 := Lib.hid hok2
      clear hok2
      go_enter Try.func83, Try.ntmps83
      go_wp2_with fail
      refine (implIsF_any _ _ _ _ _ hl H.out).mono ?_
      rw [OK.out]
      rintro e w1 ⟨rfl, hb1⟩
      have B1 := Lib.hid hb1
      clear hb1
      go_wp2_with fail
      refine (areF_any _ _ _ _ _ (Nat.le_trans hl' (by decide)) LI.out (H'.out.keep B1.out (Nat.le_refl _))).mono ?_
      rw [OK2.out]
      rintro e w2 ⟨rfl, hb2⟩
      have B2 := Lib.hid (B1.out.trans (hb2.mono B1.out.size))
      clear hb2
      go_wp2
      go_ret
      exact ⟨rfl, B2.out⟩
    · have OK2 := Lib.hid hok2
      clear hok2
      by_cases h0 : 0 ≤ i
      · by_cases h6 : i < (len : Int)
        all_goals
          go_enter Try.func83, Try.ntmps83
          go_wp2_with fail
          refine (implIsF_any _ _ _ _ _ hl H.out).mono ?_
          rw [OK.out]
          rintro e w1 ⟨rfl, hb1⟩
          have B1 := Lib.hid hb1
          clear hb1
          go_wp2_with fail
          refine (areF_any _ _ _ _ _ (Nat.le_trans hl' (by decide)) LI.out (H'.out.keep B1.out (Nat.le_refl _))).mono ?_
          rw [OK2.out]
          rintro e w2 ⟨rfl, hb2⟩
          have B2 := Lib.hid (B1.out.trans (hb2.mono B1.out.size))
          clear hb2
          go_wp2
          go_ret
          exact ⟨by simp [cvI, h0, h6], B2.out⟩
      · go_enter Try.func83, Try.ntmps83
        go_wp2_with fail
        refine (implIsF_any _ _ _ _ _ hl H.out).mono ?_
        rw [OK.out]
        rintro e w1 ⟨rfl, hb1⟩
        have B1 := Lib.hid hb1
        clear hb1
        go_wp2_with fail
        refine (areF_any _ _ _ _ _ (Nat.le_trans hl' (by decide)) LI.out (H'.out.keep B1.out (Nat.le_refl _))).mono ?_
        rw [OK2.out]
        rintro e w2 ⟨rfl, hb2⟩
        have B2 := Lib.hid (B1.out.trans (hb2.mono B1.out.size))
        clear hb2
        go_wp2
        go_ret
        exact ⟨by simp [cvI]; omega, B2.out⟩
theorem cn0_any (xs : List Nd) (i : Int) (a : Option Addr) (len cap : Nat) (w : World) (hl : len ≤ 1048576) (h : AtN w a len xs) :
    Calls Try.prog 83 #[.slice a len cap, .int .i64 i, .slice none 0 0] w fun e w' => e = .returned (.int .i64 (cvI (isB xs len) len i)) ∧ Below w.heap.size w w' := by
  refine (checkNode_any xs i [] a none len cap 0 0 w hl (by omega) (fun j hj => by omega) h ⟨rfl, .inl rfl⟩).mono ?_
  rintro e w' ⟨rfl, hb⟩
  exact ⟨by rw [show okAll [] 0 = true from rfl, Bool.and_true], hb⟩
theorem cn1_any (xs ys : List Nd) (i : Int) (a a' : Option Addr) (len cap len' cap' C : Nat) (w : World) (hl : len ≤ 1048576) (hl' : len' ≤ 1048576) (h : AtN w a len xs) (h' : AtN w a' len' ys) (t : TypeId) (hC : C = w.heap.size) :
    Calls Try.prog 83 #[.slice a len cap, .int .i64 i, .slice (some ⟨C, 0, none⟩) 1 1] (w.alloc (.cells #[.slice a' len' cap'] t)) fun e w' => e = .returned (.int .i64 (cvI (isB xs len && isB ys len') len i)) ∧ Below w.heap.size w w' := by
  have b0 : Below w.heap.size w (w.alloc (.cells #[.slice a' len' cap'] t)) := (Below.refl _ _).alloc (Nat.le_refl _) _
  refine (checkNode_any xs i [ys] a _ len cap 1 1 _ hl (by omega) (nthL_le1 (by rw [← h'.1]; exact hl')) (h.keep b0 (Nat.le_refl _)) (lay1 h' t hC)).mono ?_
  rintro e w' ⟨rfl, hb⟩
  exact ⟨by rw [okAll_1, h'.1], b0.trans (hb.mono b0.size)⟩

end Go.Proofs.Ytbhgedabcclimaa
