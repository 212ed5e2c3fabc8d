/- 3 texts in one: Ok, Join, AreF. -/
import Derived.Test.YtnoaaklkbfbdbaaListN
import Derived.Test.YtnoaaklkbfbdbaaConcat
/- Lists that are all formulas. No conditions but those in the theorems. -/
namespace Go.Proofs.Ytnoaaklkbfbdbaa
open Go.RowKit

def okAll (xss : List (List Nd)) (j : Nat) : Bool := (List.range j).all fun i => isB (nthL xss i) (nthL xss i).length
theorem okAll_at {xss : List (List Nd)} {j i : Nat} (h : okAll xss j = true) (hi : i < j) : isB (nthL xss i) (nthL xss i).length = true := List.all_eq_true.1 h i (List.mem_range.2 hi)
theorem okAll_succ {xss : List (List Nd)} {j : Nat} (h : okAll xss j = true) (hi : isB (nthL xss j) (nthL xss j).length = true) : okAll xss (j + 1) = true := by
  rw [okAll, List.range_succ, List.all_append, Bool.and_eq_true]
  exact ⟨h, by simp [hi]⟩
theorem okAll_bad {xss : List (List Nd)} {n j : Nat} (h : j < n) (hi : isB (nthL xss j) (nthL xss j).length = false) : okAll xss n = false := by
  cases e : okAll xss n with
  | false => rfl
  | true => rw [okAll_at e h] at hi; cases hi

end Go.Proofs.Ytnoaaklkbfbdbaa

/- Contracts of the program's functions that make a formula of others, and of the model's. Conditions: those in the theorems. -/
namespace Go.Proofs.Ytnoaaklkbfbdbaa
open Go.RowKit

set_option maxHeartbeats 400000 in
theorem joinNodes_any (k : Int) (xss : List (List Nd)) (a : Option Addr) (len cap : Nat) (w : World) (hl : len ≤ 1048576) (hs : szTo xss len ≤ 4194304) (hp : ∀ j, j < len → 0 < (nthL xss j).length) (h0 : 0 < len) (h : AtNN w a len xss) :
    Calls Try.prog 149 #[.int .i64 k, .slice a len cap] w fun e w' => ∃ v, e = .returned v ∧ OwnN w' w.heap.size v ((k, 0) :: catTo xss len) ∧ Below w.heap.size w w' := by
  have H := Lib.hid h
  have P := Lib.hid hp
  have S := Lib.hid hs
  clear h hp hs
  have b0 : Below w.heap.size w (w.alloc (.cells #[.int .i64 k, .int .i64 0] 69)) := (Below.refl _ _).alloc (Nat.le_refl _) _
  have B0 := Lib.hid b0
  clear b0
  go_enter Try.func149, Try.ntmps149
  go_wp2_with fail
  refine (concat_any xss a len cap _ hl (by have := S.out; omega) P.out h0 (H.out.keep B0.out (Nat.le_refl _))).mono ?_
  rintro e w1 ⟨v1, rfl, ho1, hb1⟩
  obtain ⟨a1, c1, rfl, at1, -, -, -⟩ := ho1.at
  have hpos : 0 < (catTo xss len).length := by
    have h1 := P.out 0 h0
    have h2 := szTo_mono xss (show 1 ≤ len by omega)
    rw [catTo_len]
    simp only [szTo, Nat.zero_add] at h2
    omega
  have hsz : (catTo xss len).length ≤ 4194304 := by rw [catTo_len]; exact S.out
  have hlit : OwnN w1 w.heap.size (.slice (some ⟨w.heap.size, 0, none⟩) 1 1) [(k, 0)] := (litN w w.heap.size k 0 (Nat.le_refl _)).inn.below hb1 (Nat.le_refl _) |>.1
  have hb2 : Below w.heap.size w w1 := B0.out.trans (hb1.mono B0.out.size)
  have A1 := Lib.hid at1
  have B1 := Lib.hid hb2
  have L1 := Lib.hid hlit
  have HP := Lib.hid hpos
  have HS := Lib.hid hsz
  clear at1 hb1 hb2 hlit ho1 hpos hsz
  go_wp2_with (at_builtin; refine list_appN rfl _ _ rfl w.heap.size _ [(k, 0)] rfl L1.out (catTo xss len) a1 _ c1 rfl A1.out HP.out (by have := HS.out; simp; omega) B1.out.size ?_)
  intro v2 w2 ho2 hg2
  have b2 := below_appN B1.out (Below.refl _ _) B1.out.size L1.out hg2
  have B2 := Lib.hid b2
  have O2 := Lib.hid ho2
  clear b2 ho2 hg2
  go_wp2
  go_ret
  exact ⟨_, rfl, O2.out, B2.out⟩

theorem falseNodes_any (w : World) : Calls Try.prog 119 #[] w fun e w' => ∃ v, e = .returned v ∧ OwnN w' w.heap.size v [(1, 0)] ∧ Below w.heap.size w w' := by
  go_enter Try.func119, Try.ntmps119
  go_wp2
  go_ret
  exact ⟨_, rfl, litN w _ 1 0 (Nat.le_refl _), (Below.refl _ _).alloc (Nat.le_refl _) _⟩

/-- One list, or two, laid by a call with several arguments. -/
theorem lay1 {w : World} {C : Nat} {a : Option Addr} {len cap : Nat} {xs : List Nd} (h : AtN w a len xs) (t : TypeId) (hC : C = w.heap.size) : AtNN (w.alloc (.cells #[.slice a len cap] t)) (some ⟨C, 0, none⟩) 1 [xs] := by
  subst hC
  refine ⟨rfl, .inr ⟨w.heap.size, 0, rfl, by simp, fun j hj => ?_⟩⟩
  obtain rfl : j = 0 := by omega
  have hl := h.1
  refine ⟨a, cap, ?_, ?_⟩
  · rw [show (nthL [xs] 0).length = len from hl.symm]
    exact World.cell?_alloc_at _ _ _ _ rfl
  · rw [show (nthL [xs] 0).length = len from hl.symm]
    exact h.keep ((Below.refl _ _).alloc (Nat.le_refl _) _) (Nat.le_refl _)
theorem lay2 {w : World} {C : Nat} {a a' : Option Addr} {len cap len' cap' : Nat} {xs ys : List Nd} (h : AtN w a len xs) (h' : AtN w a' len' ys) (t : TypeId) (hC : C = w.heap.size) : AtNN (w.alloc (.cells #[.slice a len cap, .slice a' len' cap'] t)) (some ⟨C, 0, none⟩) 2 [xs, ys] := by
  subst hC
  refine ⟨rfl, .inr ⟨w.heap.size, 0, rfl, by simp, fun j hj => ?_⟩⟩
  have hl := h.1
  have hl' := h'.1
  have hj2 : j = 0 ∨ j = 1 := by omega
  rcases hj2 with rfl | rfl
  · refine ⟨a, cap, ?_, ?_⟩
    · rw [show (nthL [xs, ys] 0).length = len from hl.symm]
      exact World.cell?_alloc_at _ _ _ _ rfl
    · rw [show (nthL [xs, ys] 0).length = len from hl.symm]
      exact h.keep ((Below.refl _ _).alloc (Nat.le_refl _) _) (Nat.le_refl _)
  · refine ⟨a', cap', ?_, ?_⟩
    · rw [show (nthL [xs, ys] 1).length = len' from hl'.symm]
      exact World.cell?_alloc_at _ _ _ _ rfl
    · rw [show (nthL [xs, ys] 1).length = len' from hl'.symm]
      exact h'.keep ((Below.refl _ _).alloc (Nat.le_refl _) _) (Nat.le_refl _)

/-- Two parts joined by the program. -/
theorem join2_any (k : Int) (xs ys : List Nd) (a a' : Option Addr) (len len' cap cap' C : Nat) (w : World) (hl : len + len' ≤ 1048576) (hp : 0 < len) (hp' : 0 < len') (h : AtN w a len xs) (h' : AtN w a' len' ys) (t : TypeId) (hC : C = w.heap.size) :
    Calls Try.prog 149 #[.int .i64 k, .slice (some ⟨C, 0, none⟩) 2 2] (w.alloc (.cells #[.slice a len cap, .slice a' len' cap'] t)) fun e w' => ∃ v, e = .returned v ∧ OwnN w' w.heap.size v ((k, 0) :: (xs ++ ys)) ∧ Below w.heap.size w w' := by
  have hl1 := h.1
  have hl2 := h'.1
  refine (joinNodes_any k [xs, ys] _ 2 2 _ (by omega) (by simp [szTo, nthL]; omega) ?_ (by omega) (lay2 h h' t hC)).mono ?_
  · intro j hj
    have hj2 : j = 0 ∨ j = 1 := by omega
    rcases hj2 with rfl | rfl
    · show 0 < xs.length; omega
    · show 0 < ys.length; omega
  · rintro e w' ⟨v, rfl, ho, hb⟩
    refine ⟨v, rfl, ?_, ((Below.refl _ _).alloc (Nat.le_refl _) _).trans (hb.mono (by simp))⟩
    have := ho.mono (B' := w.heap.size) (by simp)
    simpa [catTo, nthL] using this
theorem join1_any (k : Int) (xs : List Nd) (a : Option Addr) (len cap C : Nat) (w : World) (hl : len ≤ 1048576) (hp : 0 < len) (h : AtN w a len xs) (t : TypeId) (hC : C = w.heap.size) :
    Calls Try.prog 149 #[.int .i64 k, .slice (some ⟨C, 0, none⟩) 1 1] (w.alloc (.cells #[.slice a len cap] t)) fun e w' => ∃ v, e = .returned v ∧ OwnN w' w.heap.size v ((k, 0) :: xs) ∧ Below w.heap.size w w' := by
  have hl1 := h.1
  refine (joinNodes_any k [xs] _ 1 1 _ (by omega) (by simp [szTo, nthL]; omega) ?_ (by omega) (lay1 h t hC)).mono ?_
  · intro j hj
    obtain rfl : j = 0 := by omega
    show 0 < xs.length
    omega
  · rintro e w' ⟨v, rfl, ho, hb⟩
    refine ⟨v, rfl, ?_, ((Below.refl _ _).alloc (Nat.le_refl _) _).trans (hb.mono (by simp))⟩
    have := ho.mono (B' := w.heap.size) (by simp)
    simpa [catTo, nthL] using this

set_option maxHeartbeats 400000 in
theorem notNodes_any (xs : List Nd) (a : Option Addr) (len cap : Nat) (w : World) (hl : len ≤ 1048575) (hp : 0 < len) (h : AtN w a len xs) :
    Calls Try.prog 120 #[.slice a len cap] w fun e w' => ∃ v, e = .returned v ∧ OwnN w' w.heap.size v ((4, 0) :: (xs ++ [(1, 0)])) ∧ Below w.heap.size w w' := by
  have H := Lib.hid h
  clear h
  go_enter Try.func120, Try.ntmps120
  go_wp2_with fail
  refine (falseNodes_any _).mono ?_
  rintro e w1 ⟨v1, rfl, ho1, hb1⟩
  obtain ⟨a1, c1, rfl, at1, -, -, -⟩ := ho1.at
  have B1 := Lib.hid hb1
  have A1 := Lib.hid at1
  clear hb1 ho1 at1
  go_wp2_with fail
  refine (join2_any 4 xs [(1, 0)] a a1 len 1 cap c1 _ w1 (by omega) hp (by omega) (H.out.keep B1.out (Nat.le_refl _)) A1.out _ rfl).mono ?_
  rintro e w2 ⟨v2, rfl, ho2, hb2⟩
  have B2 := Lib.hid (B1.out.trans (hb2.mono B1.out.size))
  have O2 := Lib.hid (ho2.mono B1.out.size)
  clear hb2 ho2
  go_wp2
  go_ret
  exact ⟨_, rfl, O2.out, B2.out⟩

end Go.Proofs.Ytnoaaklkbfbdbaa

/- The program's checks of arguments: lists of formulas, a variable, a node. Conditions: those in the theorems. -/
namespace Go.Proofs.Ytnoaaklkbfbdbaa
open Go.RowKit

set_option maxHeartbeats 1000000 in
theorem areF_any (xss : List (List Nd)) (a : Option Addr) (len cap : Nat) (w : World) (hl : len ≤ 2097152) (hi : ∀ j, j < len → (nthL xss j).length ≤ 1048576) (h : AtNN w a len xss) :
    Calls Try.prog 82 #[.slice a len cap] w fun e w' => e = .returned (.bool (okAll xss len)) ∧ Below w.heap.size w w' := by
  have H := Lib.hid h
  have LI := Lib.hid hi
  clear h hi
  go_enter Try.func82, Try.ntmps82
  go_wp2
  go_loopw [7] (fun i wr => ∃ (j : Nat), j ≤ len ∧ i = .int .i64 j ∧ Hid (okAll xss j = true) ∧ Below w.heap.size w wr) (fun i _ => len - (intOf i).toNat)
  case atStart => exact ⟨0, Nat.zero_le _, rfl, (show _ = _ from rfl), Below.refl _ _⟩
  case round =>
    obtain ⟨j, hj, rfl, hok, hbel⟩ := hrel
    have B := Lib.hid hbel
    clear hbel
    by_cases hlt : j < len
    · obtain ⟨b, off, rfl, hb, hc⟩ := H.out.2.resolve_left (by omega)
      obtain ⟨a1, cap1, hc0, hat1⟩ := hc j hlt
      have hc1 : wr.cell? ⟨b, off + j, none⟩ = some (.slice a1 (nthL xss j).length cap1) := (B.out.cell (p := ⟨b, off + j, none⟩) hb).trans hc0
      have hn3 := LI.out j hlt
      obtain ⟨n, hn⟩ : ∃ n, n = (nthL xss j).length := ⟨_, rfl⟩
      rw [← hn] at hc1 hat1 hn3
      have N := Lib.hid hn
      have A1 := Lib.hid (hat1.keep B.out (Nat.le_refl _))
      clear hc hc0 hat1 hn
      cases hbb : isB (nthL xss j) n
      · have BB := Lib.hid hbb
        clear hbb
        have E := Lib.hid (okAll_bad hlt (show isB (nthL xss j) (nthL xss j).length = false by rw [← N.out]; exact BB.out))
        go_wp2_with fail
        refine (implIsF_any _ _ _ _ _ hn3 A1.out).mono ?_
        rw [BB.out]
        rintro e w1 ⟨rfl, hb1⟩
        have B1 := Lib.hid (B.out.trans (hb1.mono B.out.size))
        clear hb1
        go_wp2
        go_ret
        exact ⟨ret_bool E.out.symm, B1.out⟩
      · have BB := Lib.hid hbb
        clear hbb
        have OK := Lib.hid (okAll_succ hok.out (show isB (nthL xss j) (nthL xss j).length = true by rw [← N.out]; exact BB.out))
        go_wp2_with fail
        refine (implIsF_any _ _ _ _ _ hn3 A1.out).mono ?_
        rw [BB.out]
        rintro e w1 ⟨rfl, hb1⟩
        have B1 := Lib.hid (B.out.trans (hb1.mono B.out.size))
        clear hb1
        go_wp2
        go_roundw
        case rel => exact ⟨j + 1, hlt, by go_num, OK, B1.out⟩
        case measure => simp [intOf]; omega
    · obtain rfl : j = len := by omega
      have OK := Lib.hid hok.out
      clear hok
      go_wp2
      go_ret
      exact ⟨ret_bool OK.out.symm, B.out⟩

theorem okAll_1 (xs : List Nd) : okAll [xs] 1 = isB xs xs.length := by simp [okAll, nthL]
theorem okAll_2 (xs ys : List Nd) : okAll [xs, ys] 2 = (isB xs xs.length && isB ys ys.length) := by
  rw [okAll, show List.range 2 = [0, 1] from rfl]
  simp [nthL]
theorem nthL_le1 {xs : List Nd} {n : Nat} (h : xs.length ≤ n) : ∀ j, j < 1 → (nthL [xs] j).length ≤ n := by
  intro j hj
  obtain rfl : j = 0 := by omega
  exact h
theorem nthL_le2 {xs ys : List Nd} {n : Nat} (h : xs.length ≤ n) (h' : ys.length ≤ n) : ∀ j, j < 2 → (nthL [xs, ys] j).length ≤ n := by
  intro j hj
  match j, hj with
  | 0, _ => exact h
  | 1, _ => exact h'

theorem areF1_any (xs : List Nd) (a : Option Addr) (len cap C : Nat) (w : World) (hl : len ≤ 1048576) (h : AtN w a len xs) (t : TypeId) (hC : C = w.heap.size) :
    Calls Try.prog 82 #[.slice (some ⟨C, 0, none⟩) 1 1] (w.alloc (.cells #[.slice a len cap] t)) fun e w' => e = .returned (.bool (isB xs len)) ∧ Below w.heap.size w w' := by
  refine (areF_any [xs] _ 1 1 _ (by omega) (nthL_le1 (by rw [← h.1]; exact hl)) (lay1 h t hC)).mono ?_
  rintro e w' ⟨rfl, hb⟩
  have b0 : Below w.heap.size w (w.alloc (.cells #[.slice a len cap] t)) := (Below.refl _ _).alloc (Nat.le_refl _) _
  exact ⟨by rw [okAll_1, h.1], b0.trans (hb.mono b0.size)⟩
theorem areF2_any (xs ys : List Nd) (a a' : Option Addr) (len cap len' cap' C : Nat) (w : World) (hl : len ≤ 1048576) (hl' : len' ≤ 1048576) (h : AtN w a len xs) (h' : AtN w a' len' ys) (t : TypeId) (hC : C = w.heap.size) :
    Calls Try.prog 82 #[.slice (some ⟨C, 0, none⟩) 2 2] (w.alloc (.cells #[.slice a len cap, .slice a' len' cap'] t)) fun e w' => e = .returned (.bool (isB xs len && isB ys len')) ∧ Below w.heap.size w w' := by
  refine (areF_any [xs, ys] _ 2 2 _ (by omega) (nthL_le2 (by rw [← h.1]; exact hl) (by rw [← h'.1]; exact hl')) (lay2 h h' t hC)).mono ?_
  rintro e w' ⟨rfl, hb⟩
  have b0 : Below w.heap.size w (w.alloc (.cells #[.slice a len cap, .slice a' len' cap'] t)) := (Below.refl _ _).alloc (Nat.le_refl _) _
  exact ⟨by rw [okAll_2, h.1, h'.1], b0.trans (hb.mono b0.size)⟩

/-- The error of a list of lists and a number that has to be one of 0 .. n - 1. -/
def cvI (b : Bool) (n v : Int) : Int := if b then (if decide (0 ≤ v) && decide (v < n) then 0 else 2) else 1

end Go.Proofs.Ytnoaaklkbfbdbaa
