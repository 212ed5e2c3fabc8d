/- The closures of the axioms' conditions: what the program makes. Conditions: those in the theorems. -/
import Derived.Test.YtbfpfhmhgcmbaaaCb
import Derived.Test.YtbfpfhmhgcmbaaaTc
namespace Go.Proofs.Ytbfpfhmhgcmbaaa
open Go.RowKit

/-- The flags that an axiom wants. -/
def wfL : List (List Int) := [[2], [4], [3], [9], [1], [10], [5], [6], [2, 7], [0], [], [], [0, 2, 8]]
def wfF (fs : List Int) (k j : Nat) : Bool := (fs.take k).contains (j : Int)
def wfE (i j : Nat) : Bool := (wfL.getD i []).contains (j : Int)
theorem wfF_all (fs : List Int) : wfF fs fs.length = fun (j : Nat) => fs.contains (j : Int) := by
  funext j; rw [wfF, List.take_length]
theorem wf_step {fs : List Int} {k : Nat} (h : k < fs.length) {t : Nat} (ht : nth fs k = (t : Int)) (j : Nat) : (if j = t then true else wfF fs k j) = wfF fs (k + 1) j := by
  have e : fs[k] = (t : Int) := by rw [← ht]; simp [nth, List.getD_eq_getElem?_getD, h]
  unfold wfF
  rw [List.take_add_one, List.getElem?_eq_getElem h, Option.toList_some, List.contains_append, e]
  by_cases q : j = t
  · subst q; rw [if_pos rfl]; simp
  · rw [if_neg q]
    have : ([(t : Int)].contains (j : Int)) = false := by simp; omega
    rw [this, Bool.or_false]

set_option maxHeartbeats 2000000 in
set_option maxRecDepth 100000 in
theorem withFlags_any (fs : List Int) (a : Option Addr) (cap : Nat) (w : World) (hl : fs.length ≤ 3) (hf : ∀ k, k < fs.length → 0 ≤ nth fs k ∧ nth fs k < 11) (h : At w a fs.length fs) :
    Calls Try.prog 28 #[.slice a fs.length cap] w fun e w' => ∃ B, e = .returned (.func (.func 42) #[] #[.pointer (some ⟨B, 0, none⟩)]) ∧ w.heap.size ≤ B ∧ CB w' B (wfF fs fs.length) ∧ Below w.heap.size w w' := by
  obtain ⟨W, hW⟩ : ∃ W, W = w.alloc (.cells #[.bool false, .bool false, .bool false, .bool false, .bool false, .bool false, .bool false, .bool false, .bool false, .bool false, .bool false] 74) := ⟨_, rfl⟩
  have HB := Lib.hid (show Below w.heap.size w W by rw [hW]; exact (alloc_keep _ _).1)
  have CC := Lib.hid (show CB W w.heap.size (wfF fs 0) by
    rw [hW]
    have q := CB.new w (wfF fs 0)
    simpa [wfF] using q)
  have H := Lib.hid h
  have HW := Lib.hid hW
  obtain ⟨n, hn⟩ : ∃ n, n = fs.length := ⟨_, rfl⟩
  have HN := Lib.hid hn
  have HF := Lib.hid hf
  have hl2 : n ≤ 3 := by omega
  rw [← hn]
  clear h hW hf hn
  go_enter Try.func28, Try.ntmps28
  go_wp2
  go_loopw [9] (fun i wr => ∃ k : Nat, k ≤ n ∧ i = .int .i64 k ∧ Hid (CB wr w.heap.size (wfF fs k)) ∧ Hid (Below w.heap.size W wr)) (fun i _ => n - (intOf i).toNat)
  case atStart =>
    rw [← HW.out]
    exact ⟨0, Nat.zero_le _, rfl, CC, Lib.hid (Below.refl _ _)⟩
  case round =>
    obtain ⟨k, hk, rfl, D, B⟩ := hrel
    by_cases hlt : k < n
    · have hk2 : k < fs.length := by have := HN.out; omega
      obtain ⟨b, off, rfl, hb, hc⟩ := H.out.2.resolve_left (by omega)
      obtain ⟨q0, q1⟩ := HF.out k hk2
      obtain ⟨t, ht⟩ : ∃ t : Nat, nth fs k = (t : Int) := ⟨(nth fs k).toNat, by omega⟩
      have ht2 : t < 11 := by omega
      have ht3 : (t : Int) < 11 := by omega
      have g1 : wr.cell? ⟨b, off + k, none⟩ = some (.int .i64 (t : Int)) := by
        rw [← ht]
        exact ((HB.out.trans B.out).cell (p := ⟨b, off + k, none⟩) hb).trans (hc k hk2)
      obtain ⟨s3, s4⟩ := D.out.2 t ht2
      have SE := Lib.hid (fun j (_ : j < 11) => wf_step hk2 ht j)
      clear hc q0 q1 ht
      go_wp2
      go_roundw
      case rel => exact ⟨k + 1, hlt, by go_num, Lib.hid (D.out.set ht2 SE.out), Lib.hid (B.out.setCell (by show _ ≤ _; exact Nat.le_refl _) _)⟩
      case measure => simp [intOf]; omega
    · obtain rfl : k = n := by omega
      go_wp2
      go_ret
      exact ⟨w.heap.size, rfl, Nat.le_refl _, D.out, HB.out.trans B.out⟩

end Go.Proofs.Ytbfpfhmhgcmbaaa
