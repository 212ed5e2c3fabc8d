/- The logics with sequents: their names and flags; the model's search for a text in a list. Conditions: those in the theorems. -/
import Derived.Test.YtpccocmiadpgiaaTb
namespace Go.Proofs.Ytpccocmiadpgiaa
open Go.RowKit

/-- The names of the logics with sequents, as the program has them; as the model has them. -/
def sqN : List (List UInt8) := [[68], [71, 76], [75], [75, 52], [83, 52], [83, 53], [84]]
def sqO : List (List UInt8) := [[75], [68], [84], [75, 52], [83, 52], [71, 76], [83, 53]]
/-- The flags of the logics: hasReflex, hasSerial, keepsParts, keepsWholes, keepsModal, crossesMain. -/
def sqL : List (List Bool) := [[false, true, true, false, false, false], [false, false, true, true, false, true], [false, false, true, false, false, false], [false, false, true, true, false, false], [true, false, false, true, false, false], [true, false, false, false, true, false], [true, false, true, false, false, false]]
def sqB (j i : Nat) : Bool := (sqL.getD j []).getD i false
/-- Whether a list of texts has a text. -/
def sayB : List (List UInt8) → ByteArray → Bool
  | [], _ => false
  | x :: xs, s => if stx x = s then true else sayB xs s
theorem sayB_iff (ss : List (List UInt8)) (s : ByteArray) : sayB ss s = true ↔ ∃ t, t ∈ ss ∧ stx t = s := by
  induction ss with
  | nil => simp [sayB]
  | cons x xs ih =>
    rw [sayB]
    by_cases h : stx x = s
    · rw [if_pos h]; exact ⟨fun _ => ⟨x, by simp, h⟩, fun _ => rfl⟩
    · rw [if_neg h, ih]
      exact ⟨fun ⟨t, ht, e⟩ => ⟨t, List.mem_cons_of_mem _ ht, e⟩, fun ⟨t, ht, e⟩ => by
        rcases List.mem_cons.1 ht with rfl | ht
        · exact absurd e h
        · exact ⟨t, ht, e⟩⟩
theorem sayB_step {ss : List (List UInt8)} {s : ByteArray} {k : Nat} (h : k < ss.length) : sayB (ss.drop k) s = if stx (nthS ss k) = s then true else sayB (ss.drop (k + 1)) s := by
  rw [List.drop_eq_getElem_cons h, sayB]
  have e : nthS ss k = ss[k] := by simp [nthS, List.getD_eq_getElem?_getD, h]
  rw [e]
theorem sayB_end {ss : List (List UInt8)} {s : ByteArray} : sayB (ss.drop ss.length) s = false := by
  rw [List.drop_length]; rfl
theorem fdF_iff (ns : List (List UInt8)) (s : ByteArray) (k : Int) (hk : 0 ≤ k) : fdF ns s k = -1 ↔ ¬ ∃ t, t ∈ ns ∧ stx t = s := by
  induction ns generalizing k with
  | nil => simp [fdF]
  | cons x xs ih =>
    rw [fdF]
    by_cases h : stx x = s
    · rw [if_pos h]; exact ⟨fun e => by omega, fun e => absurd ⟨x, by simp, h⟩ e⟩
    · rw [if_neg h, ih (k + 1) (by omega)]
      exact ⟨fun e ⟨t, ht, he⟩ => e ⟨t, (List.mem_cons.1 ht).resolve_left (fun q => h (q ▸ he)), he⟩, fun e ⟨t, ht, he⟩ => e ⟨t, List.mem_cons_of_mem _ ht, he⟩⟩
/-- Whether a text names a logic with sequents. -/
def sqV (s : ByteArray) : Bool := sayB sqO s
theorem sqV_fd (s : ByteArray) : sqV s = decide (¬ fdV sqN s = -1) := by
  have m1 : ∀ t ∈ sqO, t ∈ sqN := by decide
  have m2 : ∀ t ∈ sqN, t ∈ sqO := by decide
  have m : ∀ t, t ∈ sqO ↔ t ∈ sqN := fun t => ⟨m1 t, m2 t⟩
  have h1 := sayB_iff sqO s
  have h2 := fdF_iff sqN s 0 (by omega)
  rw [sqV, fdV]
  by_cases h : ∃ t, t ∈ sqO ∧ stx t = s
  · have h' : ∃ t, t ∈ sqN ∧ stx t = s := h.imp fun t q => ⟨(m t).1 q.1, q.2⟩
    rw [h1.2 h, eq_comm, decide_eq_true_eq]
    exact fun q => (h2.1 q) h'
  · have h' : ¬ ∃ t, t ∈ sqN ∧ stx t = s := fun ⟨t, q⟩ => h ⟨t, (m t).2 q.1, q.2⟩
    rw [Bool.eq_false_iff.2 (fun q => h (h1.1 q)), eq_comm, decide_eq_false_iff_not]
    exact fun q => q (h2.2 h')

set_option maxHeartbeats 1000000 in
theorem l01Says_any (ss : List (List UInt8)) (s : ByteArray) (a : Option Addr) (cap : Nat) (w : World) (hl : ss.length ≤ 1048576) (h : AtS w a ss.length ss) :
    Calls Try.prog 19 #[.slice a ss.length cap, .string s] w fun e w' => e = .returned (.bool (sayB ss s)) ∧ Below w.heap.size w w' := by
  have H := Lib.hid h
  obtain ⟨N, hN⟩ : ∃ N, N = ss.length := ⟨_, rfl⟩
  have HN := Lib.hid hN
  have hl2 : N ≤ 1048576 := by omega
  clear h
  rw [← hN]
  clear hN hl
  go_enter Try.func19, Try.ntmps19
  go_wp2
  go_loopw [5] (fun i wr => ∃ k : Nat, k ≤ N ∧ i = .int .i64 k ∧ Hid (sayB (ss.drop k) s = sayB ss s) ∧ Below w.heap.size w wr) (fun i _ => N - (intOf i).toNat)
  case atStart => exact ⟨0, Nat.zero_le _, rfl, Lib.hid rfl, Below.refl _ _⟩
  case round =>
    obtain ⟨k, hk, rfl, HF, hbel⟩ := hrel
    by_cases hlt : k < N
    · obtain ⟨b, off, rfl, hb, hc⟩ := H.out.2.resolve_left (by have := HN.out; omega)
      obtain ⟨t, ht⟩ : ∃ t, t = stx (nthS ss k) := ⟨_, rfl⟩
      have g1 : wr.cell? ⟨b, off + k, none⟩ = some (.string t) := by rw [ht]; exact (hbel.cell (p := ⟨b, off + k, none⟩) hb).trans (hc k (by have := HN.out; omega))
      have ST := HF.out
      rw [sayB_step (by have := HN.out; omega), ← ht] at ST
      have ST := Lib.hid ST
      clear hc ht
      by_cases e : t = s
      · subst e
        have R := Lib.hid (show Ending.returned (.bool true) = .returned (.bool (sayB ss t)) by have q := ST.out; rw [if_pos rfl] at q; rw [q])
        go_wp2
        go_ret
        exact ⟨R.out, hbel⟩
      · have R := Lib.hid (show sayB (ss.drop (k + 1)) s = sayB ss s by have q := ST.out; rwa [if_neg e] at q)
        have en := bs_no e
        go_wp2
        go_roundw
        case rel => exact ⟨k + 1, hlt, by go_num, R, hbel⟩
        case measure => simp [intOf]; omega
    · obtain rfl : k = N := by omega
      have R := Lib.hid (show Ending.returned (.bool false) = .returned (.bool (sayB ss s)) by have q := HF.out; rw [HN.out, sayB_end] at q; rw [q])
      go_wp2
      go_ret
      exact ⟨R.out, hbel⟩

set_option maxHeartbeats 1000000 in
theorem specIsSequentLogic_v (s : ByteArray) (w : World) : Calls Try.prog 6 #[.string s] w fun e w' => e = .returned (.bool (sqV s)) ∧ Below w.heap.size w w' := by
  go_enter Try.func6, Try.ntmps6
  have H := own_lit_at (w := w.alloc (.cells (cS sqO).toArray 9)) (B := w.heap.size) (g := w.heap.size) (ss := sqO) (heap_alloc_new w _) (Nat.le_refl _) (by decide)
  obtain ⟨a, cap, e, hat, -⟩ := H.at
  have HA := Lib.hid hat
  have E := Lib.hid e
  clear H e hat
  go_wp2_with fail
  injection E.out with e1 e2 e3
  subst e1
  refine (l01Says_any sqO s _ _ _ (by decide) HA.out).mono ?_
  rintro e w1 ⟨rfl, hb⟩
  have HB := Lib.hid (((Below.refl _ _).alloc (Nat.le_refl _) _).trans (hb.mono (by simp)))
  clear hb
  go_wp2
  go_ret
  exact ⟨rfl, HB.out⟩

end Go.Proofs.Ytpccocmiadpgiaa
