/- Contracts of IsGuarded of the model and of the program, at every argument. Conditions: those in the theorems. -/
import Derived.Test.YtbhgedabcclimaaVPol
namespace Go.Proofs.Ytbhgedabcclimaa
open Go.RowKit

theorem grd_step {xs : List Nd} (hb : isB xs xs.length = true) (v : Int) {i : Nat} (hi : i < xs.length) :
    grd xs v xs.length i = if kd xs i = 0 ∧ sy xs i = v then false else if prt (kd xs i) = 1 then grd xs v xs.length (pe xs (xs.length - i) 1 i).toNat else grd xs v xs.length (i + 1) := by
  have hp : ∀ i, i < xs.length → (i : Int) < pe xs (xs.length - i) 1 i := fun i hi => by
    obtain ⟨e, he, h1, -⟩ := part_at hb hi
    rw [he]; omega
  have := hp i hi
  obtain ⟨n, hn⟩ : ∃ n, xs.length = n + 1 := ⟨xs.length - 1, by omega⟩
  conv => lhs; rw [show grd xs v xs.length i = grd xs v (n + 1) i by rw [hn]]
  rw [grd, if_neg (by omega)]
  split
  · rfl
  · split
    · exact grd_fuel xs v hp _ _ _ (by omega) (by omega)
    · exact grd_fuel xs v hp _ _ _ (by omega) (by omega)
theorem grd_end {xs : List Nd} (v : Int) {i : Nat} (hi : xs.length ≤ i) : grd xs v xs.length i = true := by
  cases h : xs.length with
  | zero => rfl
  | succ n => rw [grd, if_pos hi]
def gdR (xs : List Nd) (v : Int) : Bool := if isB xs xs.length && (decide (0 ≤ v) && decide (v < 6)) then grd xs v xs.length 0 else false
theorem gd_bad {xs : List Nd} {v : Int} (h : isB xs xs.length = false) : gdR xs v = false ∧ cvI (isB xs xs.length) 6 v = 1 := by simp [gdR, cvI, h]
theorem gd_out {xs : List Nd} {v : Int} (h : isB xs xs.length = true) (h2 : (decide (0 ≤ v) && decide (v < 6)) = false) : gdR xs v = false ∧ cvI (isB xs xs.length) 6 v = 2 := by simp only [gdR, cvI, h, h2]; exact ⟨rfl, rfl⟩
theorem gd_good {xs : List Nd} {v : Int} (h : isB xs xs.length = true) (h2 : (decide (0 ≤ v) && decide (v < 6)) = true) : gdR xs v = grd xs v xs.length 0 ∧ cvI (isB xs xs.length) 6 v = 0 := by simp only [gdR, cvI, h, h2]; exact ⟨rfl, rfl⟩

set_option maxHeartbeats 1000000 in
theorem l03Guarded_any (xs : List Nd) (v : Int) (a : Option Addr) (cap : Nat) (w : World) (hl : xs.length ≤ 1048576) (hb : isB xs xs.length = true) (h : AtN w a xs.length xs) :
    Calls Try.prog 87 #[.slice a xs.length cap, .int .i64 v] w fun e w' => e = .returned (.bool (grd xs v xs.length 0)) ∧ w = w' := by
  have H := Lib.hid h
  have HB := Lib.hid hb
  clear h hb
  go_enter Try.func87, Try.ntmps87
  go_wp2
  go_loop [5] (fun c => ∃ (k : Nat), k ≤ xs.length ∧ c = .int .i64 k ∧ Hid (grd xs v xs.length k = grd xs v xs.length 0)) (fun c => xs.length - (intOf c).toNat)
  case atStart => exact ⟨0, Nat.zero_le _, rfl, (show _ = _ from rfl)⟩
  case round =>
    obtain ⟨k, hk, rfl, hp⟩ := hrel
    by_cases hlt : k < xs.length
    · obtain ⟨b, off, rfl, hbb, hc⟩ := H.out.2.resolve_left (by omega)
      obtain ⟨hc1, hc2⟩ := hc k hlt
      have st := grd_step HB.out v hlt
      clear hc
      have hq := prt_bd (kd xs k)
      obtain ⟨q, hqq⟩ : ∃ q, q = prt (kd xs k) := ⟨_, rfl⟩
      have Q := Lib.hid hqq
      rw [← hqq] at hq st
      clear hqq
      by_cases hv : kd xs k = 0 ∧ sy xs k = v
      · rw [if_pos hv, hp.out] at st
        have S := Lib.hid st
        have e1 : (kd xs k == 0) = true := by simp [hv.1]
        have e2 : (sy xs k == v) = true := by simp [hv.2]
        clear st hp hv
        go_wp2
        go_ret
        exact ⟨ret_bool S.out.symm, rfl⟩
      · rw [if_neg hv] at st
        obtain ⟨e, he, he1, he2⟩ := part_at HB.out hlt
        by_cases h1 : q = 1
        · rw [if_pos h1, he, Int.toNat_natCast] at st
          have N := Lib.hid (st.symm.trans hp.out)
          have E := Lib.hid he
          have h1' : (q == 1) = true := by simp [h1]
          clear st hp he h1
          cases g1 : (kd xs k == 0)
          · clear hv
            go_wp2_with (first | (go_at_call 115; refine (l02Parts_any _ _).mono ?_; rw [← Q.out]; rintro e w' ⟨rfl, rfl⟩) | (go_at_call 93; refine (l02Part_any xs _ _ _ k _ hl (by omega) H.out).mono ?_; rw [E.out]; rintro e w' ⟨rfl, rfl⟩))
            go_round
            case rel => exact ⟨e, he2, by go_num, N⟩
            case measure => simp [intOf]; omega
          · have g2 : (sy xs k == v) = false := by
              cases g : (sy xs k == v)
              · rfl
              · exact absurd ⟨by simpa using g1, by simpa using g⟩ hv
            clear hv
            go_wp2_with (first | (go_at_call 115; refine (l02Parts_any _ _).mono ?_; rw [← Q.out]; rintro e w' ⟨rfl, rfl⟩) | (go_at_call 93; refine (l02Part_any xs _ _ _ k _ hl (by omega) H.out).mono ?_; rw [E.out]; rintro e w' ⟨rfl, rfl⟩))
            go_round
            case rel => exact ⟨e, he2, by go_num, N⟩
            case measure => simp [intOf]; omega
        · rw [if_neg h1] at st
          have N := Lib.hid (st.symm.trans hp.out)
          have h1' : (q == 1) = false := by simp [h1]
          clear st hp he h1
          cases g1 : (kd xs k == 0)
          · clear hv
            go_wp2_with (go_at_call 115; refine (l02Parts_any _ _).mono ?_; rw [← Q.out]; rintro e w' ⟨rfl, rfl⟩)
            go_round
            case rel => exact ⟨k + 1, hlt, by go_num, N⟩
            case measure => simp [intOf]; omega
          · have g2 : (sy xs k == v) = false := by
              cases g : (sy xs k == v)
              · rfl
              · exact absurd ⟨by simpa using g1, by simpa using g⟩ hv
            clear hv
            go_wp2_with (go_at_call 115; refine (l02Parts_any _ _).mono ?_; rw [← Q.out]; rintro e w' ⟨rfl, rfl⟩)
            go_round
            case rel => exact ⟨k + 1, hlt, by go_num, N⟩
            case measure => simp [intOf]; omega
    · have N := Lib.hid (hp.out.symm.trans (grd_end v (show xs.length ≤ k by omega)))
      go_wp2
      go_ret
      exact ⟨ret_bool N.out.symm, rfl⟩

set_option maxHeartbeats 1000000 in
theorem specIsGuarded_v (x0 : List Nd) (x1 : Int) (v : Value) (lo hi : Nat) (w : World) (hl : x0.length ≤ 1048576) (h : InN w lo hi v x0) :
    Calls Try.prog 39 #[v, .int .i64 x1] w fun e w' => e = .returned (.tuple #[.bool (gdR x0 x1), .int .i64 (cvI (isB x0 x0.length) 6 x1)]) ∧ Below w.heap.size w w' := by
  obtain ⟨a, cap, rfl, hat⟩ := h.at
  have H := Lib.hid hat
  have CN := l03Code_any x0 x1 a x0.length cap w hl H.out
  clear h hat
  cases hb : isB x0 x0.length
  · obtain ⟨e1, e2⟩ := gd_bad (v := x1) hb
    rw [hb] at e2
    rw [hb, e2] at CN
    rw [e1, e2]
    have C := Lib.hid CN
    clear hb e1 e2 CN
    go_enter Try.func39, Try.ntmps39
    go_wp2_with fail
    refine C.out.mono ?_
    rintro e w1 ⟨rfl, rfl⟩
    go_wp2
    go_ret2
    exact ⟨rfl, Below.refl _ _⟩
  · cases hc : (decide (0 ≤ x1) && decide (x1 < 6))
    · obtain ⟨e1, e2⟩ := gd_out hb hc
      rw [hb] at e2
      rw [hb, e2] at CN
      rw [e1, e2]
      have C := Lib.hid CN
      clear hb e1 e2 CN hc
      go_enter Try.func39, Try.ntmps39
      go_wp2_with fail
      refine C.out.mono ?_
      rintro e w1 ⟨rfl, rfl⟩
      go_wp2
      go_ret2
      exact ⟨rfl, Below.refl _ _⟩
    · obtain ⟨e1, e2⟩ := gd_good hb hc
      have HB := Lib.hid hb
      rw [hb] at e2
      rw [hb, e2] at CN
      rw [e1, e2]
      have C := Lib.hid CN
      clear hb e1 e2 CN hc
      go_enter Try.func39, Try.ntmps39
      go_wp2_with fail
      refine C.out.mono ?_
      rintro e w1 ⟨rfl, rfl⟩
      go_wp2_with fail
      refine (l03Guarded_any x0 x1 _ _ _ hl HB.out H.out).mono ?_
      rintro e w2 ⟨rfl, rfl⟩
      go_wp2
      go_ret2
      exact ⟨rfl, Below.refl _ _⟩

theorem prt_modal {k : Int} : (prt k = 1) ↔ (k == 5 || k == 6) = true := by
  unfold prt
  simp only [Bool.or_eq_true, beq_iff_eq]
  split
  · constructor
    · intro h; omega
    · intro h; omega
  · split
    · constructor
      · intro h; assumption
      · intro h; rfl
    · constructor
      · intro h; omega
      · intro h; omega

set_option maxHeartbeats 2000000 in
theorem implIsGuarded_v (x0 : List Nd) (x1 : Int) (v : Value) (lo hi : Nat) (w : World) (hl : x0.length ≤ 1048576) (h : InN w lo hi v x0) :
    Calls Try.prog 40 #[v, .int .i64 x1] w fun e w' => e = .returned (.tuple #[.bool (gdR x0 x1), .int .i64 (cvI (isB x0 x0.length) 6 x1)]) ∧ Below w.heap.size w w' := by
  obtain ⟨a, cap, rfl, hat⟩ := h.at
  have H := Lib.hid hat
  clear h hat
  have CN := cv1_any x1 x0 a x0.length cap w.heap.size w hl H.out 26 rfl
  cases hb : isB x0 x0.length
  · obtain ⟨e1, e2⟩ := gd_bad (v := x1) hb
    rw [hb] at e2
    rw [hb, e2] at CN
    rw [e1, e2]
    have C := Lib.hid CN
    clear hb e1 e2 CN
    go_enter Try.func40, Try.ntmps40
    go_wp2_with fail
    refine C.out.mono ?_
    rintro e w1 ⟨rfl, hb1⟩
    go_wp2
    go_ret2
    exact ⟨rfl, hb1⟩
  · cases hc : (decide (0 ≤ x1) && decide (x1 < 6))
    · obtain ⟨e1, e2⟩ := gd_out hb hc
      rw [hb] at e2
      rw [hb, e2] at CN
      rw [e1, e2]
      have C := Lib.hid CN
      clear hb e1 e2 CN hc
      go_enter Try.func40, Try.ntmps40
      go_wp2_with fail
      refine C.out.mono ?_
      rintro e w1 ⟨rfl, hb1⟩
      go_wp2
      go_ret2
      exact ⟨rfl, hb1⟩
    · obtain ⟨e1, e2⟩ := gd_good hb hc
      have HB := Lib.hid hb
      rw [hb] at e2
      rw [hb, e2] at CN
      rw [e1, e2]
      have C := Lib.hid CN
      have heq := eqNode'
      have hgu := guNode
      clear hb e1 e2 CN hc
      go_enter Try.func40, Try.ntmps40
      go_wp2_with fail
      refine C.out.mono ?_
      rintro e w1 ⟨rfl, hb1⟩
      have B1 := Lib.hid hb1
      clear hb1
      go_wp2
      go_loop [7] (fun c => ∃ (k : Nat), k ≤ x0.length ∧ c = .int .i64 k ∧ Hid (grd x0 x1 x0.length k = grd x0 x1 x0.length 0)) (fun c => x0.length - (intOf c).toNat)
      case atStart => exact ⟨0, Nat.zero_le _, rfl, (show _ = _ from rfl)⟩
      case round =>
        obtain ⟨k, hk, rfl, hp⟩ := hrel
        by_cases hlt : k < x0.length
        · have H1 := Lib.hid (H.out.keep B1.out (Nat.le_refl _))
          obtain ⟨b, off, rfl, hbb, hcc⟩ := H1.out.2.resolve_left (by omega)
          obtain ⟨hc1, hc2⟩ := hcc k hlt
          have st := grd_step HB.out x1 hlt
          clear hcc
          obtain ⟨e, he, he1, he2⟩ := part_at HB.out hlt
          by_cases h1 : prt (kd x0 k) = 1
          · have h0 : ¬ (kd x0 k = 0 ∧ sy x0 k = x1) := by
              intro g
              rw [g.1] at h1
              exact absurd h1 (by decide)
            rw [if_neg h0, if_pos h1, he, Int.toNat_natCast] at st
            have N := Lib.hid (st.symm.trans hp.out)
            have E := Lib.hid he
            have M := Lib.hid (prt_modal.1 h1)
            clear st hp he h1 h0
            go_wp2_with fail
            refine (isModal_any _ _).mono ?_
            rw [M.out]
            rintro e w' ⟨rfl, rfl⟩
            go_wp2_with fail
            refine (partEnd_any x0 _ _ _ k _ _ hl (by omega) H1.out E.out (by omega)).mono ?_
            rintro e w' ⟨rfl, rfl⟩
            go_wp2
            go_round
            case rel => exact ⟨e, he2, by go_num, N⟩
            case measure => simp [intOf]; omega
          · have M := Lib.hid (show (kd x0 k == 5 || kd x0 k == 6) = false by
              cases g : (kd x0 k == 5 || kd x0 k == 6)
              · rfl
              · exact absurd (prt_modal.2 g) h1)
            by_cases hv : kd x0 k = 0 ∧ sy x0 k = x1
            · rw [if_pos hv, hp.out] at st
              have S := Lib.hid st
              have e1 : (kd x0 k == 0 && sy x0 k == x1) = true := by simp [hv.1, hv.2]
              clear st hp hv h1 he
              go_wp2_with fail
              refine (isModal_any _ _).mono ?_
              rw [M.out]
              rintro e w' ⟨rfl, rfl⟩
              go_wp2
              go_ret2
              exact ⟨by rw [S.out] <;> rfl, B1.out⟩
            · rw [if_neg hv, if_neg h1] at st
              have N := Lib.hid (st.symm.trans hp.out)
              have e1 : (kd x0 k == 0 && sy x0 k == x1) = false := by
                cases g : (kd x0 k == 0 && sy x0 k == x1)
                · rfl
                · exact absurd (by simpa using g) hv
              clear st hp hv h1 he
              go_wp2_with fail
              refine (isModal_any _ _).mono ?_
              rw [M.out]
              rintro e w' ⟨rfl, rfl⟩
              go_wp2
              go_round
              case rel => exact ⟨k + 1, hlt, by go_num, N⟩
              case measure => simp [intOf]; omega
        · have N := Lib.hid (hp.out.symm.trans (grd_end x1 (show x0.length ≤ k by omega)))
          go_wp2
          go_ret2
          exact ⟨by rw [N.out] <;> rfl, B1.out⟩

end Go.Proofs.Ytbhgedabcclimaa
