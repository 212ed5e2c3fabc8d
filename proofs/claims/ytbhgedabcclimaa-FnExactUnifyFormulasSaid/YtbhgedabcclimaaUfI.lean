/- Contracts of the program's small functions under UnifyFormulas. Conditions: those in the theorems. -/
import Derived.Test.YtbhgedabcclimaaUfV
import Derived.Test.YtbhgedabcclimaaMtV
namespace Go.Proofs.Ytbhgedabcclimaa
open Go.RowKit

set_option maxHeartbeats 4000000 in
theorem firstDiff_any (xs ys : List Nd) (b off len cap b' off' len' cap' K : Nat) (w : World) (hl : len ≤ 1048576) (hl' : len' ≤ 1048576) (h : AtN w (some ⟨b, off, none⟩) len xs) (h' : AtN w (some ⟨b', off', none⟩) len' ys) (h1 : K < len) (h2 : K < len') (hs : ∀ j, j < K → kd xs j = kd ys j ∧ sy xs j = sy ys j) (hd : ¬ (kd xs K = kd ys K ∧ sy xs K = sy ys K)) :
    Calls Try.prog 112 #[.slice (some ⟨b, off, none⟩) len cap, .slice (some ⟨b', off', none⟩) len' cap'] w fun e w' => e = .returned (.int .i64 K) ∧ ∃ q, w' = w.drewN q := by
  have hne := eqNodeU
  have hgu := guNode
  have HH := Lib.hid h.2
  have HH' := Lib.hid h'.2
  have HS := Lib.hid hs
  have HD := Lib.hid hd
  clear h h' hs hd
  go_enter Try.func112, Try.ntmps112
  go_wp2
  go_loopw [5] (fun v wr => ∃ k q : Nat, k ≤ K ∧ v = .int .i64 k ∧ wr = w.drewN q) (fun v _ => K - (intOf v).toNat)
  case atStart => exact ⟨0, 0, Nat.zero_le _, rfl, rfl⟩
  case round =>
    obtain ⟨k, q0, hk, rfl, rfl⟩ := hrel
    obtain ⟨b1, off1, hab, hb1, hc1⟩ := HH.out.resolve_left (by omega)
    cases hab
    obtain ⟨b2, off2, hab, hb2, hc2⟩ := HH'.out.resolve_left (by omega)
    cases hab
    obtain ⟨c1, c2⟩ := hc1 k (by omega)
    obtain ⟨d1, d2⟩ := hc2 k (by omega)
    have hkx : (k : Int) < (len : Int) := by omega
    have hky : (k : Int) < (len' : Int) := by omega
    clear hc1 hc2
    by_cases hlt : k < K
    · have hq : (kd xs k == kd ys k && sy xs k == sy ys k) = true := by
        have := HS.out k hlt
        rw [this.1, this.2]; simp
      go_wp2
      go_quiet (fail)
      go_wp2
      go_roundw
      case rel => exact ⟨k + 1, q0 + nq, hlt, by go_num, rfl⟩
      case measure => simp [intOf]; omega
    · obtain rfl : k = K := by omega
      have hq : (kd xs k == kd ys k && sy xs k == sy ys k) = false := by
        cases e : (kd xs k == kd ys k && sy xs k == sy ys k) with
        | false => rfl
        | true => exact absurd (by simpa using e) HD.out
      go_wp2
      go_quiet (fail)
      go_wp2
      go_ret
      exact ⟨rfl, _, World.drewN_drewN _ _ _⟩

set_option maxHeartbeats 2000000 in
theorem boundBefore_any (k s k' s' : Int) (w : World) :
    Calls Try.prog 113 #[.agg #[.int .i64 k', .int .i64 s'], .agg #[.int .i64 k, .int .i64 s]] w fun e w' => e = .returned (.bool (swB k s k' s')) ∧ Below w.heap.size w w' := by
  have b0 := (Below.refl w.heap.size w).alloc (Nat.le_refl _) (.cells #[.int .i64 k', .int .i64 s'] 61)
  have hb1 := b0.alloc b0.size (.cells #[.int .i64 k, .int .i64 s] 61)
  obtain ⟨SB, hSB⟩ : ∃ SB, SB = swB k s k' s' := ⟨_, rfl⟩
  rw [← hSB]
  have B1 := Lib.hid hb1
  clear b0 hb1
  by_cases h0 : k' = 0
  · subst h0
    by_cases h1 : k = 0
    · subst h1
      by_cases h2 : s < s'
      · have E := Lib.hid (show SB = true by rw [hSB]; simp [swB, h2])
        clear hSB
        go_enter Try.func113, Try.ntmps113
        go_wp2
        go_ret
        exact ⟨ret_bool E.out.symm, B1.out⟩
      · have E := Lib.hid (show SB = false by rw [hSB]; simp [swB, h2])
        clear hSB
        go_enter Try.func113, Try.ntmps113
        go_wp2
        go_ret
        exact ⟨ret_bool E.out.symm, B1.out⟩
    · have E := Lib.hid (show SB = true by rw [hSB]; simp [swB, h1])
      clear hSB
      go_enter Try.func113, Try.ntmps113
      go_wp2
      go_ret
      exact ⟨ret_bool E.out.symm, B1.out⟩
  · have E := Lib.hid (show SB = false by rw [hSB]; simp [swB, h0])
    clear hSB
    go_enter Try.func113, Try.ntmps113
    go_wp2
    go_ret
    exact ⟨ret_bool E.out.symm, B1.out⟩

theorem mem_kd {xs : List Nd} {k s : Int} : (k, s) ∈ xs ↔ ∃ j, j < xs.length ∧ kd xs j = k ∧ sy xs j = s := by
  constructor
  · intro h
    obtain ⟨j, hj, e⟩ := List.mem_iff_getElem.1 h
    refine ⟨j, hj, ?_, ?_⟩
    · simp [kd, List.getD_eq_getElem?_getD, hj, e]
    · simp [sy, List.getD_eq_getElem?_getD, hj, e]
  · rintro ⟨j, hj, rfl, rfl⟩
    have : xs[j] = (kd xs j, sy xs j) := by simp [kd, sy, List.getD_eq_getElem?_getD, hj]
    rw [← this]
    exact List.getElem_mem hj

set_option maxHeartbeats 4000000 in
theorem slIndex_any (ys : List Nd) (k s : Int) (b off len cap : Nat) (w : World) (hl : len ≤ 1048576) (h : AtN w (some ⟨b, off, none⟩) len ys) :
    Calls Try.prog 134 #[.slice (some ⟨b, off, none⟩) len cap, .agg #[.int .i64 k, .int .i64 s]] w fun e w' => ∃ r : Int, e = .returned (.int .i64 r) ∧ decide (0 ≤ r) = decide ((k, s) ∈ ys) ∧ Below w.heap.size w w' := by
  have hne := eqNodeU
  have hgu := guNode
  have HL := Lib.hid h.1
  have H := Lib.hid h
  have B0 := Lib.hid ((Below.refl w.heap.size w).alloc (Nat.le_refl _) (.cells #[.int .i64 k, .int .i64 s] 61))
  have H1 := Lib.hid (h.keep B0.out (Nat.le_refl _))
  obtain ⟨W, hW⟩ : ∃ W, W = w.alloc (.cells #[.int .i64 k, .int .i64 s] 61) := ⟨_, rfl⟩
  have e1 : W.cell? ⟨w.heap.size, 0, none⟩ = some (.int .i64 k) := by rw [hW]; exact World.cell?_alloc_at _ _ _ _ rfl
  have e2 : W.cell? ⟨w.heap.size, 1, none⟩ = some (.int .i64 s) := by rw [hW]; exact World.cell?_alloc_at _ _ _ _ rfl
  rw [← hW] at B0 H1
  clear h
  go_enter Try.func134, Try.ntmps134
  go_wp2
  rw [← hW]
  clear hW
  go_loopw [8] (fun v wr => ∃ j q : Nat, j ≤ len ∧ v = .int .i64 j ∧ wr = W.drewN q ∧ Hid (∀ i, i < j → ¬ (kd ys i = k ∧ sy ys i = s))) (fun v _ => len - (intOf v).toNat)
  case atStart => exact ⟨0, 0, Nat.zero_le _, rfl, rfl, (show ∀ i, i < 0 → _ from fun i hi => absurd hi (by omega))⟩
  case round =>
    obtain ⟨j, q0, hj, rfl, rfl, hall⟩ := hrel
    by_cases hlt : j < len
    · obtain ⟨b1, off1, hab, hb1, hc1⟩ := H1.out.2.resolve_left (by omega)
      cases hab
      obtain ⟨c1, c2⟩ := hc1 j (by omega)
      clear hc1
      cases hq : (k == kd ys j && s == sy ys j)
      · have hq2 : ¬ (kd ys j = k ∧ sy ys j = s) := by
          rintro ⟨e3, e4⟩
          rw [e3, e4] at hq
          simp at hq
        have A2 := Lib.hid (show ∀ i, i < j + 1 → ¬ (kd ys i = k ∧ sy ys i = s) from fun i hi => by
          by_cases e : i = j
          · subst e; exact hq2
          · exact hall.out i (by omega))
        clear hq2
        go_wp2
        go_quiet (fail)
        go_wp2
        go_roundw
        case rel => exact ⟨j + 1, q0 + nq, hlt, by go_num, rfl, A2⟩
        case measure => simp [intOf]; omega
      · have hm := Lib.hid (show (k, s) ∈ ys from mem_kd.2 ⟨j, by rw [← HL.out]; exact hlt, by simp at hq; exact hq.1.symm, by simp at hq; exact hq.2.symm⟩)
        go_wp2
        go_quiet (fail)
        go_wp2
        go_ret
        exact ⟨_, rfl, by rw [decide_eq_true hm.out, decide_eq_true (by omega)], below_drewN' (below_drewN' B0.out _) _⟩
    · obtain rfl : j = len := by omega
      have hm := Lib.hid (show (k, s) ∉ ys from fun h => by
        obtain ⟨i, hi, h3⟩ := mem_kd.1 h
        exact hall.out i (by rw [HL.out]; exact hi) h3)
      go_wp2
      go_ret
      exact ⟨-1, rfl, by rw [decide_eq_false hm.out]; rfl, below_drewN' B0.out _⟩

set_option maxHeartbeats 2000000 in
theorem slContains_any (ys : List Nd) (k s : Int) (b off len cap : Nat) (w : World) (hl : len ≤ 1048576) (h : AtN w (some ⟨b, off, none⟩) len ys) :
    Calls Try.prog 114 #[.slice (some ⟨b, off, none⟩) len cap, .agg #[.int .i64 k, .int .i64 s]] w fun e w' => e = .returned (.bool (decide ((k, s) ∈ ys))) ∧ Below w.heap.size w w' := by
  have B0 := Lib.hid ((Below.refl w.heap.size w).alloc (Nat.le_refl _) (.cells #[.int .i64 k, .int .i64 s] 61))
  have H1 := Lib.hid (h.keep B0.out (Nat.le_refl _))
  clear h
  go_enter Try.func114, Try.ntmps114
  go_wp2_with fail
  refine (slIndex_any ys k s b off len cap _ hl H1.out).mono ?_
  rintro e w1 ⟨r, rfl, hr, hb1⟩
  have R := Lib.hid hr
  have B1 := Lib.hid (B0.out.trans (hb1.mono B0.out.size))
  clear hr hb1
  by_cases h0 : 0 ≤ r
  · have E := Lib.hid (show true = decide ((k, s) ∈ ys) by rw [← R.out, decide_eq_true h0])
    go_wp2
    go_ret
    exact ⟨ret_bool E.out, B1.out⟩
  · have E := Lib.hid (show false = decide ((k, s) ∈ ys) by rw [← R.out, decide_eq_false h0])
    go_wp2
    go_ret
    exact ⟨ret_bool R.out, B1.out⟩

end Go.Proofs.Ytbhgedabcclimaa
