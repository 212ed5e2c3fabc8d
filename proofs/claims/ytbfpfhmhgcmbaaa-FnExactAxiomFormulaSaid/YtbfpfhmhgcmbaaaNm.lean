/- The names of axioms and of logics: the model's lists, its search in them, and its entries by number. Conditions: those in the theorems. -/
import Derived.Test.YtbfpfhmhgcmbaaaStrL
namespace Go.Proofs.Ytbfpfhmhgcmbaaa
open Go.RowKit

/-- The names of the axioms; of the logics. -/
def nmA : List (List UInt8) := [[52], [53], [66], [67], [68], [70], [71], [72], [76], [84], [86], [88], [90]]
def nmL : List (List UInt8) := [[68], [68, 52], [71, 76], [71, 114, 122], [75], [75, 52], [75, 52, 53], [75, 66], [75, 68, 52, 53], [83, 52], [83, 52, 50], [83, 52, 51], [83, 53], [84], [84, 114, 105, 118], [86, 101, 114]]
/-- Where a text stands first in a list, from place k on; -1: nowhere. -/
def fdF : List (List UInt8) → ByteArray → Int → Int
  | [], _, _ => -1
  | x :: xs, s, k => if stx x = s then k else fdF xs s (k + 1)
def fdV (ns : List (List UInt8)) (s : ByteArray) : Int := fdF ns s 0
theorem fd_step {ns : List (List UInt8)} {s : ByteArray} {k : Nat} (h : k < ns.length) : fdF (ns.drop k) s (k : Int) = if stx (nthS ns k) = s then (k : Int) else fdF (ns.drop (k + 1)) s ((k + 1 : Nat) : Int) := by
  rw [List.drop_eq_getElem_cons h, fdF]
  have e : nthS ns k = ns[k] := by simp [nthS, List.getD_eq_getElem?_getD, h]
  rw [e]
  rfl
theorem fd_end {ns : List (List UInt8)} {s : ByteArray} : fdF (ns.drop ns.length) s (ns.length : Int) = -1 := by
  rw [List.drop_length]; rfl
theorem bs_eq (a b : ByteArray) : (a.toList == b.toList) = decide (a = b) := by
  rw [ByteArray.toList_eq, ByteArray.toList_eq]
  by_cases h : a = b
  · subst h; simp
  · rw [decide_eq_false h, beq_eq_false_iff_ne]
    intro e
    exact h (ByteArray.ext (Array.toList_inj.1 e))
theorem bs_no {a b : ByteArray} (h : ¬ a = b) : (a.toList == b.toList) = false := by rw [bs_eq, decide_eq_false h]
theorem fdF_cases (ns : List (List UInt8)) (s : ByteArray) (k : Int) : fdF ns s k = -1 ∨ ∃ i : Nat, i < ns.length ∧ s = stx (nthS ns i) ∧ fdF ns s k = k + i := by
  induction ns generalizing k with
  | nil => exact .inl rfl
  | cons x xs ih =>
    rw [fdF]
    by_cases h : stx x = s
    · rw [if_pos h]
      exact .inr ⟨0, by simp, h.symm, by simp⟩
    · rw [if_neg h]
      rcases ih (k + 1) with e | ⟨i, hi, hs, e⟩
      · exact .inl e
      · exact .inr ⟨i + 1, by simpa using hi, hs, by rw [e]; omega⟩
theorem fd_cases (ns : List (List UInt8)) (s : ByteArray) : fdV ns s = -1 ∨ ∃ i : Nat, i < ns.length ∧ s = stx (nthS ns i) ∧ fdV ns s = i := by
  rcases fdF_cases ns s 0 with h | ⟨i, hi, hs, e⟩
  · exact .inl h
  · exact .inr ⟨i, hi, hs, by rw [fdV, e]; omega⟩

set_option maxHeartbeats 1000000 in
theorem l09Find_any (ns : List (List UInt8)) (s : ByteArray) (a : Option Addr) (cap : Nat) (w : World) (hl : ns.length ≤ 64) (h : AtS w a ns.length ns) :
    Calls Try.prog 17 #[.slice a ns.length cap, .string s] w fun e w' => e = .returned (.int .i64 (fdV ns s)) ∧ Below w.heap.size w w' := by
  have H := Lib.hid h
  obtain ⟨N, hN⟩ : ∃ N, N = ns.length := ⟨_, rfl⟩
  have HN := Lib.hid hN
  have hl2 : N ≤ 64 := by omega
  clear h
  rw [← hN]
  clear hN
  go_enter Try.func17, Try.ntmps17
  go_wp2
  go_loopw [5] (fun i wr => ∃ k : Nat, k ≤ N ∧ i = .int .i64 k ∧ Hid (fdF (ns.drop k) s (k : Int) = fdV ns s) ∧ Below w.heap.size w wr) (fun i _ => N - (intOf i).toNat)
  case atStart => exact ⟨0, Nat.zero_le _, rfl, Lib.hid rfl, Below.refl _ _⟩
  case round =>
    obtain ⟨k, hk, rfl, HF, hbel⟩ := hrel
    by_cases hlt : k < N
    · obtain ⟨b, off, rfl, hb, hc⟩ := H.out.2.resolve_left (by have := HN.out; omega)
      obtain ⟨t, ht⟩ : ∃ t, t = stx (nthS ns k) := ⟨_, rfl⟩
      have g1 : wr.cell? ⟨b, off + k, none⟩ = some (.string t) := by rw [ht]; exact (hbel.cell (p := ⟨b, off + k, none⟩) hb).trans (hc k (by have := HN.out; omega))
      have ST := HF.out
      rw [fd_step (by have := HN.out; omega), ← ht] at ST
      have ST := Lib.hid ST
      clear hc ht
      by_cases e : t = s
      · subst e
        have R := Lib.hid (show (k : Int) = fdV ns t by have q := ST.out; rwa [if_pos rfl] at q)
        go_wp2
        go_ret
        exact ⟨ret_int R.out, hbel⟩
      · have R := Lib.hid (show fdF (ns.drop (k + 1)) s ((k + 1 : Nat) : Int) = fdV ns s by have q := ST.out; rwa [if_neg e] at q)
        have en := bs_no e
        go_wp2
        go_roundw
        case rel => exact ⟨k + 1, hlt, by go_num, R, hbel⟩
        case measure => simp [intOf]; omega
    · obtain rfl : k = N := by omega
      have R := Lib.hid (show (-1 : Int) = fdV ns s by have q := HF.out; rwa [HN.out, fd_end] at q)
      go_wp2
      go_ret
      exact ⟨ret_int R.out, hbel⟩

set_option maxHeartbeats 1000000 in
theorem l09Names_any (w : World) : Calls Try.prog 18 #[] w fun e w' => ∃ v, e = .returned v ∧ OwnS w' w.heap.size v nmA ∧ Below w.heap.size w w' := by
  go_enter Try.func18, Try.ntmps18
  go_wp2
  go_ret
  exact ⟨_, rfl, World.ownsRow_lit w _ 13 (Nat.le_refl _) (by unfold maxLen; omega) rfl, (Below.refl _ _).alloc (Nat.le_refl _) _⟩

/-- The entry of a list by its number, and the code. -/
def atC (ns : List (List UInt8)) (i : Int) : Int := if inB i 0 (ns.length - 1) then 0 else 2
def atR (ns : List (List UInt8)) (i : Int) : ByteArray := if inB i 0 (ns.length - 1) then stx (nthS ns i.toNat) else stx []
theorem at_cases (ns : List (List UInt8)) (i m : Int) (hm : (ns.length : Int) - 1 = m) : (inB i 0 m = true ∧ atR ns i = stx (nthS ns i.toNat) ∧ atC ns i = 0 ∧ 0 ≤ i ∧ i < m + 1) ∨ (inB i 0 m = false ∧ atR ns i = stx [] ∧ atC ns i = 2) := by
  unfold atR atC
  rw [hm]
  cases h : inB i 0 m
  · exact .inr ⟨rfl, rfl, rfl⟩
  · have h2 := h
    unfold inB at h2
    simp at h2
    exact .inl ⟨rfl, rfl, rfl, h2.1, by omega⟩


end Go.Proofs.Ytbfpfhmhgcmbaaa
