/- Sides of modal sequents: ascending lists of texts of formulas; both sides' tests of them, and IsModalSequent. Conditions: those in the theorems. -/
import Derived.Sort.Walk0
import Derived.Test.YtpccocmiadpgiaaGdT
import Derived.Test.YtpccocmiadpgiaaMsq
namespace Go.Proofs.Ytpccocmiadpgiaa
open Go.RowKit

/-- One string stands before another one. -/
def ltB (s t : ByteArray) : Bool := decide (s.toList < t.toList)
theorem less_dec (x y : List UInt8) : Op.bytesLess x y = decide (x < y) := Go.Proofs.bytesLess_eq x y
/-- The first k texts of a list are texts of formulas, each behind the one before it. -/
noncomputable def sdTo (ss : List (List UInt8)) : Nat → Bool
  | 0 => true
  | k + 1 => sdTo ss k && (gdB (stx (nthS ss k)) && (k == 0 || ltB (stx (nthS ss (k - 1))) (stx (nthS ss k))))
noncomputable def sdB (ss : List (List UInt8)) : Bool := decide (ss.length ≤ 16) && sdTo ss ss.length
theorem sdTo_stop {ss : List (List UInt8)} {k : Nat} (h : sdTo ss (k + 1) = false) : ∀ n, k < n → sdTo ss n = false := by
  intro n
  induction n with
  | zero => intro e; omega
  | succ n ih =>
    intro e
    by_cases h2 : n = k
    · subst h2; exact h
    · rw [sdTo, ih (by omega), Bool.false_and]
theorem sd_no {ss : List (List UInt8)} {k : Nat} (h : sdTo ss (k + 1) = false) (hk : k < ss.length) : sdB ss = false := by
  rw [sdB, sdTo_stop h _ hk, Bool.and_false]
theorem sd_big {ss : List (List UInt8)} (h : ¬ ss.length ≤ 16) : sdB ss = false := by rw [sdB, decide_eq_false h, Bool.false_and]
theorem sd_yes {ss : List (List UInt8)} (h : ss.length ≤ 16) (h2 : sdTo ss ss.length = true) : sdB ss = true := by rw [sdB, h2, decide_eq_true h]; rfl
theorem ltB_leq (s t : ByteArray) : (Op.bytesLess t.toList s.toList || (t.toList == s.toList)) = !(ltB s t) := by
  rw [ltB, less_dec]
  by_cases h : s.toList < t.toList
  · have h1 : ¬ t.toList < s.toList := List.lt_asymm h
    have h2 : ¬ t.toList = s.toList := fun e => by rw [e] at h; exact List.lt_irrefl _ h
    simp [h, h1, h2]
  · by_cases h2 : t.toList < s.toList
    · simp [h, h2]
    · have := List.le_antisymm (List.not_lt.1 h) (List.not_lt.1 h2)
      simp [h2, this]
theorem ltB_geq (s t : ByteArray) : Op.bytesLess s.toList t.toList = ltB s t := less_dec _ _
theorem sd_step {ss : List (List UInt8)} {k : Nat} (h : sdTo ss k = true) (h1 : gdB (stx (nthS ss k)) = true) (h2 : k = 0 ∨ ltB (stx (nthS ss (k - 1))) (stx (nthS ss k)) = true) : sdTo ss (k + 1) = true := by
  rw [sdTo, h, h1]
  rcases h2 with h2 | h2
  · simp [h2]
  · simp [h2]
theorem sd_bad1 {ss : List (List UInt8)} {k : Nat} (h1 : gdB (stx (nthS ss k)) = false) : sdTo ss (k + 1) = false := by rw [sdTo, h1]; simp
theorem sd_bad2 {ss : List (List UInt8)} {q : Nat} (h1 : ltB (stx (nthS ss q)) (stx (nthS ss (q + 1))) = false) : sdTo ss (q + 1 + 1) = false := by
  rw [sdTo, show q + 1 - 1 = q by omega, h1]; simp

set_option maxHeartbeats 4000000 in
set_option maxRecDepth 100000 in
theorem l11Side_any (ss : List (List UInt8)) (a : Option Addr) (cap : Nat) (w : World) (hl : ss.length ≤ 1048576) (hs : ∀ j, j < ss.length → (nthS ss j).length ≤ 1048576) (h : AtS w a ss.length ss) :
    Calls Try.prog 38 #[.slice a ss.length cap] w fun e w' => e = .returned (.bool (sdB ss)) ∧ Below w.heap.size w w' := by
  have H := Lib.hid h
  have HS := Lib.hid hs
  obtain ⟨N, hN⟩ : ∃ N, N = ss.length := ⟨_, rfl⟩
  have HN := Lib.hid hN
  have hl2 : N ≤ 1048576 := by omega
  clear h hs
  rw [← hN]
  clear hN hl
  by_cases hbig : 16 < N
  · have R := Lib.hid (sd_big (ss := ss) (by have := HN.out; omega))
    go_enter Try.func38, Try.ntmps38
    go_wp2
    go_ret
    exact ⟨by rw [R.out]; rfl, Below.refl _ _⟩
  have hN16 : N ≤ 16 := by omega
  go_enter Try.func38, Try.ntmps38
  go_wp2
  go_loopw [3] (fun i wr => ∃ k : Nat, k ≤ N ∧ i = .int .i64 k ∧ Hid (sdTo ss k = true) ∧ Below w.heap.size w wr) (fun i _ => N - (intOf i).toNat)
  case atStart => exact ⟨0, Nat.zero_le _, rfl, Lib.hid rfl, Below.refl _ _⟩
  case round =>
    obtain ⟨k, hk, rfl, HF, hbel⟩ := hrel
    by_cases hlt : k < N
    · obtain ⟨b, off, rfl, hb, hc⟩ := H.out.2.resolve_left (by have := HN.out; omega)
      obtain ⟨t, ht⟩ : ∃ t, t = stx (nthS ss k) := ⟨_, rfl⟩
      have g1 : wr.cell? ⟨b, off + k, none⟩ = some (.string t) := by rw [ht]; exact (hbel.cell (p := ⟨b, off + k, none⟩) hb).trans (hc k (by have := HN.out; omega))
      have hts : (t.size : Int) ≤ 1048576 := by rw [ht, stx_size]; have := HS.out k (by have := HN.out; omega); omega
      have T := Lib.hid ht
      have HC := Lib.hid hc
      have HB := Lib.hid hbel
      have hbr : b < wr.heap.size := Nat.lt_of_lt_of_le hb hbel.size
      clear hc ht hbel
      go_wp2_with fail
      refine (l02Good_any t _ hts).mono ?_
      rintro e w1 ⟨v, rfl, -, hb1⟩
      have HB1 := Lib.hid (HB.out.trans (hb1.mono HB.out.size))
      have g2 : w1.cell? ⟨b, off + k, none⟩ = some (.string t) := (hb1.cell (p := ⟨b, off + k, none⟩) hbr).trans g1
      clear hb1 g1
      have HG : Hid (gdB t = gdB (stx (nthS ss k))) := Lib.hid (by rw [T.out])
      obtain ⟨g, hg⟩ : ∃ g, g = gdB t := ⟨_, rfl⟩
      rw [← hg]
      rw [← hg] at HG
      clear hg
      cases g with
      | false =>
        have R := Lib.hid (sd_no (sd_bad1 HG.out.symm) (by have := HN.out; omega))
        go_wp2_with (go_quiet (fail))
        go_ret
        exact ⟨by rw [R.out]; rfl, below_drewN HB1.out _⟩
      | true =>
        rcases Nat.eq_zero_or_pos k with rfl | hpos
        · have R := Lib.hid (sd_step HF.out HG.out.symm (.inl rfl))
          go_wp2_with (go_quiet (fail))
          go_roundw
          case rel => exact ⟨0 + 1, hlt, by go_num, R, below_drewN HB1.out _⟩
          case measure => simp [intOf]; omega
        · obtain ⟨q, rfl⟩ : ∃ q, k = q + 1 := ⟨k - 1, by omega⟩
          obtain ⟨u, hu⟩ : ∃ u, u = stx (nthS ss q) := ⟨_, rfl⟩
          have g3 : w1.cell? ⟨b, off + q, none⟩ = some (.string u) := by rw [hu]; exact (HB1.out.cell (p := ⟨b, off + q, none⟩) hb).trans (HC.out q (by have := HN.out; omega))
          have hle := ltB_leq u t
          have HL : Hid (ltB u t = ltB (stx (nthS ss q)) (stx (nthS ss (q + 1)))) := Lib.hid (by rw [hu, T.out])
          obtain ⟨z, hz⟩ : ∃ z, z = ltB u t := ⟨_, rfl⟩
          rw [← hz] at hle HL
          clear hz hu
          cases z with
          | false =>
            have R := Lib.hid (sd_no (sd_bad2 HL.out.symm) (by have := HN.out; omega))
            go_wp2_with (go_quiet (fail))
            go_ret
            exact ⟨by rw [R.out]; rfl, below_drewN HB1.out _⟩
          | true =>
            have R := Lib.hid (sd_step HF.out HG.out.symm (.inr HL.out.symm))
            go_wp2_with (go_quiet (fail))
            go_roundw
            case rel => exact ⟨q + 1 + 1, hlt, by go_num, R, below_drewN HB1.out _⟩
            case measure => simp [intOf]; omega
    · obtain rfl : k = N := by omega
      have R := Lib.hid (sd_yes (ss := ss) (by have := HN.out; omega) (by rw [← HN.out]; exact HF.out))
      clear HF
      go_wp2
      go_ret
      exact ⟨by rw [R.out]; rfl, hbel⟩

set_option maxHeartbeats 4000000 in
set_option maxRecDepth 100000 in
theorem isSide_any (ss : List (List UInt8)) (a : Option Addr) (cap : Nat) (w : World) (hl : ss.length ≤ 1048576) (hs : ∀ j, j < ss.length → (nthS ss j).length ≤ 1048576) (h : AtS w a ss.length ss) :
    Calls Try.prog 24 #[.slice a ss.length cap] w fun e w' => e = .returned (.bool (sdB ss)) ∧ Below w.heap.size w w' := by
  have H := Lib.hid h
  have HS := Lib.hid hs
  obtain ⟨N, hN⟩ : ∃ N, N = ss.length := ⟨_, rfl⟩
  have HN := Lib.hid hN
  have hl2 : N ≤ 1048576 := by omega
  clear h hs
  rw [← hN]
  clear hN hl
  by_cases hbig : 16 < N
  · have R := Lib.hid (sd_big (ss := ss) (by have := HN.out; omega))
    go_enter Try.func24, Try.ntmps24
    go_wp2
    go_ret
    exact ⟨by rw [R.out]; rfl, Below.refl _ _⟩
  have hN16 : N ≤ 16 := by omega
  go_enter Try.func24, Try.ntmps24
  go_wp2
  go_loopw [10] (fun i wr => ∃ k : Nat, k ≤ N ∧ i = .int .i64 k ∧ Hid (sdTo ss k = true) ∧ Below w.heap.size w wr) (fun i _ => N - (intOf i).toNat)
  case atStart => exact ⟨0, Nat.zero_le _, rfl, Lib.hid rfl, Below.refl _ _⟩
  case round =>
    obtain ⟨k, hk, rfl, HF, hbel⟩ := hrel
    by_cases hlt : k < N
    · obtain ⟨b, off, rfl, hb, hc⟩ := H.out.2.resolve_left (by have := HN.out; omega)
      obtain ⟨t, ht⟩ : ∃ t, t = stx (nthS ss k) := ⟨_, rfl⟩
      have g1 : wr.cell? ⟨b, off + k, none⟩ = some (.string t) := by rw [ht]; exact (hbel.cell (p := ⟨b, off + k, none⟩) hb).trans (hc k (by have := HN.out; omega))
      have hts : (t.size : Int) ≤ 1048576 := by rw [ht, stx_size]; have := HS.out k (by have := HN.out; omega); omega
      have T := Lib.hid ht
      have HC := Lib.hid hc
      have HB := Lib.hid hbel
      clear hc ht hbel
      have HG : Hid (gdB t = gdB (stx (nthS ss k))) := Lib.hid (by rw [T.out])
      have CALL := Lib.hid (fun W => isFormulaText_any t W hts)
      obtain ⟨g, hg⟩ : ∃ g, g = gdB t := ⟨_, rfl⟩
      rw [← hg] at HG CALL
      clear hg
      rcases Nat.eq_zero_or_pos k with h0 | hpos
      · have hk0 : ¬ (0 : Int) < (k : Int) := by omega
        have H0 := Lib.hid h0
        clear h0
        cases g with
        | false =>
          have R := Lib.hid (sd_no (sd_bad1 HG.out.symm) (by have := HN.out; omega))
          go_wp2_with (go_at_call 39; refine (CALL.out _).mono ?_; rintro e w1 ⟨rfl, hb1⟩; have HB1 := Lib.hid (HB.out.trans (hb1.mono HB.out.size)); clear hb1)
          go_ret
          exact ⟨by rw [R.out]; rfl, HB1.out⟩
        | true =>
          have R := Lib.hid (sd_step HF.out HG.out.symm (.inl H0.out))
          go_wp2_with (go_at_call 39; refine (CALL.out _).mono ?_; rintro e w1 ⟨rfl, hb1⟩; have HB1 := Lib.hid (HB.out.trans (hb1.mono HB.out.size)); clear hb1)
          go_roundw
          case rel => exact ⟨k + 1, hlt, by go_num, R, HB1.out⟩
          case measure => simp [intOf]; omega
      · obtain ⟨q, rfl⟩ : ∃ q, k = q + 1 := ⟨k - 1, by omega⟩
        obtain ⟨u, hu⟩ : ∃ u, u = stx (nthS ss q) := ⟨_, rfl⟩
        have g3 : wr.cell? ⟨b, off + q, none⟩ = some (.string u) := by rw [hu]; exact (HB.out.cell (p := ⟨b, off + q, none⟩) hb).trans (HC.out q (by have := HN.out; omega))
        have hle := ltB_geq u t
        have HL : Hid (ltB u t = ltB (stx (nthS ss q)) (stx (nthS ss (q + 1)))) := Lib.hid (by rw [hu, T.out])
        obtain ⟨z, hz⟩ : ∃ z, z = ltB u t := ⟨_, rfl⟩
        rw [← hz] at hle HL
        clear hz hu
        cases z with
        | false =>
          have R := Lib.hid (sd_no (sd_bad2 HL.out.symm) (by have := HN.out; omega))
          go_wp2
          go_ret
          exact ⟨by rw [R.out]; rfl, HB.out⟩
        | true =>
          cases g with
          | false =>
            have R := Lib.hid (sd_no (sd_bad1 HG.out.symm) (by have := HN.out; omega))
            go_wp2_with (go_at_call 39; refine (CALL.out _).mono ?_; rintro e w1 ⟨rfl, hb1⟩; have HB1 := Lib.hid (HB.out.trans (hb1.mono HB.out.size)); clear hb1)
            go_ret
            exact ⟨by rw [R.out]; rfl, HB1.out⟩
          | true =>
            have R := Lib.hid (sd_step HF.out HG.out.symm (.inr HL.out.symm))
            go_wp2_with (go_at_call 39; refine (CALL.out _).mono ?_; rintro e w1 ⟨rfl, hb1⟩; have HB1 := Lib.hid (HB.out.trans (hb1.mono HB.out.size)); clear hb1)
            go_roundw
            case rel => exact ⟨q + 1 + 1, hlt, by go_num, R, HB1.out⟩
            case measure => simp [intOf]; omega
    · obtain rfl : k = N := by omega
      have R := Lib.hid (sd_yes (ss := ss) (by have := HN.out; omega) (by rw [← HN.out]; exact HF.out))
      clear HF
      go_wp2
      go_ret
      exact ⟨by rw [R.out]; rfl, hbel⟩

end Go.Proofs.Ytpccocmiadpgiaa
