/- The conditions of the axioms: what the program's closures answer. Conditions: those in the theorems. -/
import Derived.Test.YtbaeacppojpplaaHg
import Derived.Test.YtbaeacppojpplaaTc
namespace Go.Proofs.Ytbaeacppojpplaa
open Go.RowKit

/-- The flags that an axiom wants. -/
def wfL : List (List Int) := [[2], [4], [3], [9], [1], [10], [5], [6], [2, 7], [0], [], [], [0, 2, 8]]
def wfF (fs : List Int) (k j : Nat) : Bool := (fs.take k).contains (j : Int)
def wfE (i j : Nat) : Bool := (wfL.getD i []).contains (j : Int)
theorem wfF_all (fs : List Int) : wfF fs fs.length = fun (j : Nat) => fs.contains (j : Int) := by
  funext j; rw [wfF, List.take_length]
theorem wf_step {fs : List Int} {k : Nat} (h : k < fs.length) {t : Nat} (ht : nth fs k = (t : Int)) (j : Nat) : (if j = t then true else wfF fs k j) = wfF fs (k + 1) j := by
  have e : fs[k] = (t : Int) := by rw [← ht]; simp [nth, List.getD_eq_getElem?_getD, h]
  unfold wfF
  rw [List.take_add_one, List.getElem?_eq_getElem h, Option.toList_some, List.contains_append, e]
  by_cases q : j = t
  · subst q; rw [if_pos rfl]; simp
  · rw [if_neg q]
    have : ([(t : Int)].contains (j : Int)) = false := by simp; omega
    rw [this, Bool.or_false]

set_option maxHeartbeats 2000000 in
set_option maxRecDepth 100000 in
theorem withFlags_any (fs : List Int) (a : Option Addr) (cap : Nat) (w : World) (hl : fs.length ≤ 3) (hf : ∀ k, k < fs.length → 0 ≤ nth fs k ∧ nth fs k < 11) (h : At w a fs.length fs) :
    Calls Try.prog 53 #[.slice a fs.length cap] w fun e w' => ∃ B, e = .returned (.func (.func 65) #[] #[.pointer (some ⟨B, 0, none⟩)]) ∧ w.heap.size ≤ B ∧ CB w' B (wfF fs fs.length) ∧ Below w.heap.size w w' := by
  obtain ⟨W, hW⟩ : ∃ W, W = w.alloc (.cells #[.bool false, .bool false, .bool false, .bool false, .bool false, .bool false, .bool false, .bool false, .bool false, .bool false, .bool false] 88) := ⟨_, rfl⟩
  have HB := Lib.hid (show Below w.heap.size w W by rw [hW]; exact (alloc_keep _ _).1)
  have CC := Lib.hid (show CB W w.heap.size (wfF fs 0) by
    rw [hW]
    have q := CB.new w (wfF fs 0)
    simpa [wfF] using q)
  have H := Lib.hid h
  have HW := Lib.hid hW
  obtain ⟨n, hn⟩ : ∃ n, n = fs.length := ⟨_, rfl⟩
  have HN := Lib.hid hn
  have HF := Lib.hid hf
  have hl2 : n ≤ 3 := by omega
  rw [← hn]
  clear h hW hf hn
  go_enter Try.func53, Try.ntmps53
  go_wp2
  go_loopw [9] (fun i wr => ∃ k : Nat, k ≤ n ∧ i = .int .i64 k ∧ Hid (CB wr w.heap.size (wfF fs k)) ∧ Hid (Below w.heap.size W wr)) (fun i _ => n - (intOf i).toNat)
  case atStart =>
    rw [← HW.out]
    exact ⟨0, Nat.zero_le _, rfl, CC, Lib.hid (Below.refl _ _)⟩
  case round =>
    obtain ⟨k, hk, rfl, D, B⟩ := hrel
    by_cases hlt : k < n
    · have hk2 : k < fs.length := by have := HN.out; omega
      obtain ⟨b, off, rfl, hb, hc⟩ := H.out.2.resolve_left (by omega)
      obtain ⟨q0, q1⟩ := HF.out k hk2
      obtain ⟨t, ht⟩ : ∃ t : Nat, nth fs k = (t : Int) := ⟨(nth fs k).toNat, by omega⟩
      have ht2 : t < 11 := by omega
      have ht3 : (t : Int) < 11 := by omega
      have g1 : wr.cell? ⟨b, off + k, none⟩ = some (.int .i64 (t : Int)) := by
        rw [← ht]
        exact ((HB.out.trans B.out).cell (p := ⟨b, off + k, none⟩) hb).trans (hc k hk2)
      obtain ⟨s3, s4⟩ := D.out.2 t ht2
      have SE := Lib.hid (fun j (_ : j < 11) => wf_step hk2 ht j)
      clear hc q0 q1 ht
      go_wp2
      go_roundw
      case rel => exact ⟨k + 1, hlt, by go_num, Lib.hid (D.out.set ht2 SE.out), Lib.hid (B.out.setCell (by show _ ≤ _; exact Nat.le_refl _) _)⟩
      case measure => simp [intOf]; omega
    · obtain rfl : k = n := by omega
      go_wp2
      go_ret
      exact ⟨w.heap.size, rfl, Nat.le_refl _, D.out, HB.out.trans B.out⟩

/-- The condition of the axiom i. -/
def axB (i : Nat) (xs : List Int) : Bool :=
  if i = 10 then wiB xs (zL xs.length) xs.length else if i = 11 then wiB xs (idL xs.length) xs.length
  else if i = 8 then flB 2 xs && flB 7 xs else if i = 12 then flB 0 xs && flB 2 xs && flB 8 xs
  else flB ((wfL.getD i []).getD 0 0).toNat xs
theorem ax_fl {i : Nat} (h : i < 13) (h1 : i ≠ 10) (h2 : i ≠ 11) (xs : List Int) : hgB (fun j => flB j xs) (wfE i) = axB i xs := by
  have hh : i = 0 ∨ i = 1 ∨ i = 2 ∨ i = 3 ∨ i = 4 ∨ i = 5 ∨ i = 6 ∨ i = 7 ∨ i = 8 ∨ i = 9 ∨ i = 12 := by omega
  rcases hh with rfl | rfl | rfl | rfl | rfl | rfl | rfl | rfl | rfl | rfl | rfl
  · show _ = flB 2 xs; simp [hgB, hasB, hgF, wfE, wfL]
  · show _ = flB 4 xs; simp [hgB, hasB, hgF, wfE, wfL]
  · show _ = flB 3 xs; simp [hgB, hasB, hgF, wfE, wfL]
  · show _ = flB 9 xs; simp [hgB, hasB, hgF, wfE, wfL]
  · show _ = flB 1 xs; simp [hgB, hasB, hgF, wfE, wfL]
  · show _ = flB 10 xs; simp [hgB, hasB, hgF, wfE, wfL]
  · show _ = flB 5 xs; simp [hgB, hasB, hgF, wfE, wfL]
  · show _ = flB 6 xs; simp [hgB, hasB, hgF, wfE, wfL]
  · show _ = (flB 2 xs && flB 7 xs); simp [hgB, hasB, hgF, wfE, wfL]
  · show _ = flB 0 xs; simp [hgB, hasB, hgF, wfE, wfL]
  · show _ = (flB 0 xs && flB 2 xs && flB 8 xs); simp [hgB, hasB, hgF, wfE, wfL, Bool.and_assoc]

set_option maxHeartbeats 2000000 in
set_option maxRecDepth 100000 in
theorem withFlags1_any (i : Nat) (hi : i < 13) (h1 : i ≠ 10) (h2 : i ≠ 11) (xs : List Int) (a : Option Addr) (cap B : Nat) (w : World) (h8 : xs.length ≤ 8) (hr : Rel xs.length (nth xs)) (h : At w a xs.length xs) (hB : CB w B (wfE i)) :
    Calls Try.prog 65 #[.slice a xs.length cap, .pointer (some ⟨B, 0, none⟩)] w fun e w' => e = .returned (.bool (axB i xs)) ∧ Below w.heap.size w w' := by
  have R := Lib.hid (ax_fl hi h1 h2 xs)
  have H := Lib.hid h
  have HR := Lib.hid hr
  obtain ⟨e, he⟩ : ∃ e, e = wfE i := ⟨_, rfl⟩
  rw [← he] at hB R
  have HB := Lib.hid hB
  obtain ⟨s, hs⟩ : ∃ s : Nat → Bool, s = fun j => flB j xs := ⟨_, rfl⟩
  rw [← hs] at R
  have KF := Lib.hid (fun w' (hw : Below w.heap.size w w') => show Calls Try.prog 66 #[.slice a xs.length cap] w' fun r w'' => r = .returned (.agg #[.bool (s 0), .bool (s 1), .bool (s 2), .bool (s 3), .bool (s 4), .bool (s 5), .bool (s 6), .bool (s 7), .bool (s 8), .bool (s 9), .bool (s 10)]) ∧ Below w'.heap.size w' w'' by
    rw [hs]; exact flagsOf_fl xs a cap w' h8 hr (h.keep hw (Nat.le_refl _)))
  obtain ⟨e0, -⟩ := hB.2 0 (by decide); obtain ⟨e1, -⟩ := hB.2 1 (by decide); obtain ⟨e2, -⟩ := hB.2 2 (by decide); obtain ⟨e3, -⟩ := hB.2 3 (by decide); obtain ⟨e4, -⟩ := hB.2 4 (by decide); obtain ⟨e5, -⟩ := hB.2 5 (by decide); obtain ⟨e6, -⟩ := hB.2 6 (by decide); obtain ⟨e7, -⟩ := hB.2 7 (by decide); obtain ⟨e8, -⟩ := hB.2 8 (by decide); obtain ⟨e9, -⟩ := hB.2 9 (by decide); obtain ⟨e10, -⟩ := hB.2 10 (by decide)
  clear h hr he hB hs h1 h2
  go_enter Try.func65, Try.ntmps65
  go_wp2_with fail
  go_region_with (first | (go_at_call 66; refine (KF.out _ (Below.refl _ _).drew).mono ?_; rintro r w1 ⟨rfl, hb⟩; have T1 := Lib.hid (show Below w.heap.size w w1 from below_of_drew hb); clear hb; obtain ⟨y0, -⟩ := (HB.out.keep T1.out).2 0 (by decide); obtain ⟨y1, -⟩ := (HB.out.keep T1.out).2 1 (by decide); obtain ⟨y2, -⟩ := (HB.out.keep T1.out).2 2 (by decide); obtain ⟨y3, -⟩ := (HB.out.keep T1.out).2 3 (by decide); obtain ⟨y4, -⟩ := (HB.out.keep T1.out).2 4 (by decide); obtain ⟨y5, -⟩ := (HB.out.keep T1.out).2 5 (by decide); obtain ⟨y6, -⟩ := (HB.out.keep T1.out).2 6 (by decide); obtain ⟨y7, -⟩ := (HB.out.keep T1.out).2 7 (by decide); obtain ⟨y8, -⟩ := (HB.out.keep T1.out).2 8 (by decide); obtain ⟨y9, -⟩ := (HB.out.keep T1.out).2 9 (by decide); obtain ⟨y10, -⟩ := (HB.out.keep T1.out).2 10 (by decide)) | (go_at_call 67; refine (has_gen s e _).mono ?_; rintro r w2 ⟨rfl, hb⟩; have T2 := Lib.hid (T1.out.trans (hb.mono T1.out.size)); clear hb))
  all_goals
    go_wp2
    go_ret
    exact ⟨ret_bool R.out, T2.out⟩

end Go.Proofs.Ytbaeacppojpplaa
