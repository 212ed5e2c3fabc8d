/- TranslateFormula: entries of both sides and the walk of its law. Conditions: those in the theorems. -/
import Derived.Test.YtfdoecnpnfojpaaTru
import Derived.Test.YtfdoecnpnfojpaaTrw
import Derived.Test.YtfdoecnpnfojpaaPoI
import Derived.Test.YtfdoecnpnfojpaaIsF
namespace Go.Proofs.Ytfdoecnpnfojpaa
open Go.RowKit

/-- What TranslateFormula answers: the list, and the error. -/
noncomputable def tlC (xs : List Nd) (x : Int) : Int := if isB xs xs.length then (if x = 0 ∨ x = 1 then (if 120 < (trP (toFm xs) x).sz then 3 else 0) else 2) else 1
noncomputable def tlR (xs : List Nd) (x : Int) : List Pd := if tlC xs x = 0 then (trP (toFm xs) x).enc else []
theorem TranslateFormula_len (xs : List Nd) (x : Int) : (tlR xs x).length ≤ 1048576 := by
  unfold tlR
  split
  · rename_i h
    rw [Pt.enc_len]
    unfold tlC at h
    by_cases h1 : isB xs xs.length = true
    · rw [if_pos h1] at h
      by_cases h2 : x = 0 ∨ x = 1
      · rw [if_pos h2] at h
        by_cases h3 : 120 < (trP (toFm xs) x).sz
        · rw [if_pos h3] at h; omega
        · omega
      · rw [if_neg h2] at h; omega
    · rw [if_neg h1] at h; omega
  · simp
theorem tl_bad {xs : List Nd} {x : Int} {c : Int} (h : tlC xs x = c) (hc : c ≠ 0) : tlR xs x = [] := by rw [tlR, if_neg (by rw [h]; exact hc)]
theorem tl_1 {xs : List Nd} {x : Int} (hb : isB xs xs.length = false) : tlC xs x = 1 := by rw [tlC, hb]; rfl
theorem tl_2 {xs : List Nd} {x : Int} (hb : isB xs xs.length = true) (hx : ¬ (x = 0 ∨ x = 1)) : tlC xs x = 2 := by rw [tlC, if_pos hb, if_neg hx]
theorem tl_3 {xs : List Nd} {x : Int} (hb : isB xs xs.length = true) (hx : x = 0 ∨ x = 1) (hz : 120 < (trP (toFm xs) x).sz) : tlC xs x = 3 := by rw [tlC, if_pos hb, if_pos hx, if_pos hz]
theorem tl_0 {xs : List Nd} {x : Int} (hb : isB xs xs.length = true) (hx : x = 0 ∨ x = 1) (hz : ¬ 120 < (trP (toFm xs) x).sz) : tlC xs x = 0 := by rw [tlC, if_pos hb, if_pos hx, if_neg hz]

theorem l10Made_no (a : Option Addr) (len cap : Nat) (w : World) (h : 120 < len) (hl : len ≤ 1048576) : Calls Try.prog 72 #[.slice a len cap] w fun e w' => e = .returned (.tuple #[.slice none 0 0, .int .i64 3]) ∧ w = w' := by
  go_enter Try.func72, Try.ntmps72
  go_wp2
  go_ret2
  exact ⟨rfl, rfl⟩
theorem l10Made_ok (a : Option Addr) (len cap : Nat) (w : World) (h : ¬ 120 < len) : Calls Try.prog 72 #[.slice a len cap] w fun e w' => e = .returned (.tuple #[.slice a len cap, .int .i64 0]) ∧ w = w' := by
  go_enter Try.func72, Try.ntmps72
  go_wp2
  go_ret2
  exact ⟨rfl, rfl⟩
theorem within_no (xs : List Pd) (a : Option Addr) (cap : Nat) (w : World) (hl : xs.length ≤ 1048576) (h : AtP w a xs.length xs) (hb : isP xs xs.length = false) : Calls Try.prog 77 #[.slice a xs.length cap] w fun e w' => e = .returned (.tuple #[.slice none 0 0, .int .i64 3]) ∧ Below w.heap.size w w' := by
  have H := Lib.hid h
  clear h
  go_enter Try.func77, Try.ntmps77
  go_wp2_with fail
  refine (implIsP_any xs a _ _ _ hl H.out).mono ?_
  rw [hb]
  rintro e w1 ⟨rfl, hb1⟩
  go_wp2
  go_ret2
  exact ⟨rfl, hb1⟩
theorem within_ok (xs : List Pd) (a : Option Addr) (cap : Nat) (w : World) (hl : xs.length ≤ 1048576) (h : AtP w a xs.length xs) (hb : isP xs xs.length = true) : Calls Try.prog 77 #[.slice a xs.length cap] w fun e w' => e = .returned (.tuple #[.slice a xs.length cap, .int .i64 0]) ∧ Below w.heap.size w w' := by
  have H := Lib.hid h
  clear h
  go_enter Try.func77, Try.ntmps77
  go_wp2_with fail
  refine (implIsP_any xs a _ _ _ hl H.out).mono ?_
  rw [hb]
  rintro e w1 ⟨rfl, hb1⟩
  go_wp2
  go_ret2
  exact ⟨rfl, hb1⟩

theorem trWr_any (w : World) : Calls Try.prog 75 #[] w fun e w' => e = .returned (.agg #[.func (.func 112) #[] #[], .func (.func 113) #[] #[]]) ∧ Below w.heap.size w w' := by
  go_enter Try.func75, Try.ntmps75
  go_wp2
  exact bodyPost_ret (v := .agg #[.func (.func 112) #[] #[], .func (.func 113) #[] #[]]) (by simp [results, Try.results75, go_sem]) rfl ⟨rfl, (Below.refl _ _).alloc (Nat.le_refl _) _⟩

set_option maxHeartbeats 1000000 in
theorem specTranslateFormula_v (x0 : List Nd) (x1 : Int) (v : Value) (lo hi : Nat) (w : World) (hl : x0.length ≤ 1048576) (h : InN w lo hi v x0) :
    Calls Try.prog 31 #[v, .int .i64 x1] w fun e w' => ∃ v, e = .returned (.tuple #[v, .int .i64 (tlC x0 x1)]) ∧ OwnP w' w.heap.size v (tlR x0 x1) ∧ Below w.heap.size w w' := by
  obtain ⟨a, cap, rfl, hat, hc1, hc2⟩ := h.at'
  have H := Lib.hid hat
  cases hb : isB x0 x0.length
  · have E2 := Lib.hid (tl_1 (x := x1) hb)
    have E1 := Lib.hid (tl_bad E2.out (by omega))
    clear h hat
    go_enter Try.func31, Try.ntmps31
    go_wp2_with (go_at_call 48; refine (l02Is_any _ _ _ _ _ hl H.out).mono ?_; rw [hb]; rintro e w' ⟨rfl, rfl⟩)
    go_ret2
    exact ⟨.slice none 0 0, (by rw [E2.out] <;> rfl), by rw [E1.out]; exact World.ownsRow_nil _ _ _ _, Below.refl _ _⟩
  by_cases hx : x1 = 0 ∨ x1 = 1
  · obtain ⟨b, off, rfl, hf⟩ := hat.formula hb hc1 hc2
    have hok := toFm_of hb
    have hlen := hf.len
    have CL := Lib.hid (l10Translate_any _ hok.1 x1 b off _ cap w hx (by omega) hf)
    have hz3 := trP_sz (toFm x0) x1
    obtain ⟨n, hn⟩ : ∃ n, n = (trP (toFm x0) x1).enc.length := ⟨_, rfl⟩
    have hnz : n = (trP (toFm x0) x1).sz := by rw [hn, Pt.enc_len]
    have hn2 : n ≤ 1048576 := by omega
    by_cases hz : 120 < n
    · have E2 := Lib.hid (tl_3 hb hx (by rw [← hnz]; exact hz))
      have E1 := Lib.hid (tl_bad E2.out (by omega))
      have HN := Lib.hid hn
      clear h hat hf hok hlen hz3 hn hnz
      rcases hx with rfl | rfl
      all_goals
        go_enter Try.func31, Try.ntmps31
        go_wp2_with (go_at_call 48; refine (l02Is_any _ _ _ _ _ hl H.out).mono ?_; rw [hb]; rintro e w' ⟨rfl, rfl⟩)
        refine CL.out.mono ?_
        rintro e w1 ⟨v1, rfl, ho1, hb1⟩
        obtain ⟨a1, c1, rfl, at1, -⟩ := ho1.at
        rw [← HN.out]
        have B1 := Lib.hid hb1
        clear hb1 ho1 at1
        go_wp2_with (go_at_call 72; refine (l10Made_no _ _ _ _ hz hn2).mono ?_; rintro e w' ⟨rfl, rfl⟩)
        go_ret2
        exact ⟨.slice none 0 0, (by rw [E2.out] <;> rfl), by rw [E1.out]; exact World.ownsRow_nil _ _ _ _, B1.out⟩
    · have E2 := Lib.hid (tl_0 hb hx (by rw [← hnz]; exact hz))
      have E1 := Lib.hid (show tlR x0 x1 = (trP (toFm x0) x1).enc by rw [tlR, if_pos E2.out])
      have HN := Lib.hid hn
      clear h hat hf hok hlen hz3 hn hnz
      rcases hx with rfl | rfl
      all_goals
        go_enter Try.func31, Try.ntmps31
        go_wp2_with (go_at_call 48; refine (l02Is_any _ _ _ _ _ hl H.out).mono ?_; rw [hb]; rintro e w' ⟨rfl, rfl⟩)
        refine CL.out.mono ?_
        rintro e w1 ⟨v1, rfl, ho1, hb1⟩
        have O1 := Lib.hid ho1
        obtain ⟨a1, c1, rfl, at1, -⟩ := ho1.at
        rw [← HN.out] at O1 ⊢
        have B1 := Lib.hid hb1
        clear hb1 ho1 at1
        go_wp2_with (go_at_call 72; refine (l10Made_ok _ _ _ _ hz).mono ?_; rintro e w' ⟨rfl, rfl⟩)
        go_ret2
        exact ⟨_, (by rw [E2.out] <;> rfl), by rw [E1.out]; exact O1.out, B1.out⟩
  · have E2 := Lib.hid (tl_2 hb hx)
    have E1 := Lib.hid (tl_bad E2.out (by omega))
    have n0 : (x1 != 0) = true := by simp; omega
    have n1 : (x1 != 1) = true := by simp; omega
    have m0 : (x1 == 0) = false := by simp; omega
    have m1 : (x1 == 1) = false := by simp; omega
    clear h hat hx
    go_enter Try.func31, Try.ntmps31
    go_wp2_with (go_at_call 48; refine (l02Is_any _ _ _ _ _ hl H.out).mono ?_; rw [hb]; rintro e w' ⟨rfl, rfl⟩)
    go_ret2
    exact ⟨.slice none 0 0, (by rw [E2.out] <;> rfl), by rw [E1.out]; exact World.ownsRow_nil _ _ _ _, Below.refl _ _⟩

set_option maxHeartbeats 1000000 in
theorem implTranslateFormula_v (x0 : List Nd) (x1 : Int) (v : Value) (lo hi : Nat) (w : World) (hl : x0.length ≤ 1048576) (h : InN w lo hi v x0) :
    Calls Try.prog 32 #[v, .int .i64 x1] w fun e w' => ∃ v, e = .returned (.tuple #[v, .int .i64 (tlC x0 x1)]) ∧ OwnP w' w.heap.size v (tlR x0 x1) ∧ Below w.heap.size w w' := by
  obtain ⟨a, cap, rfl, hat, hc1, hc2⟩ := h.at'
  have H := Lib.hid hat
  cases hb : isB x0 x0.length
  · have E2 := Lib.hid (tl_1 (x := x1) hb)
    have E1 := Lib.hid (tl_bad E2.out (by omega))
    clear h hat
    go_enter Try.func32, Try.ntmps32
    go_wp2_with fail
    refine (implIsF_any x0 a _ _ _ hl H.out).mono ?_
    rw [hb]
    rintro e w1 ⟨rfl, hb1⟩
    go_wp2
    go_ret2
    exact ⟨.slice none 0 0, (by rw [E2.out] <;> rfl), by rw [E1.out]; exact World.ownsRow_nil _ _ _ _, hb1⟩
  have WB := Lib.hid (fun W => isBelow_any x1 2 W)
  by_cases hx : x1 = 0 ∨ x1 = 1
  · have hw : wlB 2 x1 = true := by unfold wlB; simp; omega
    rw [hw] at WB
    obtain ⟨b, off, rfl, hf⟩ := hat.formula hb hc1 hc2
    have hok := toFm_of hb
    have hlen := hf.len
    have CL := Lib.hid (fun W (hW : Below w.heap.size w W) => writeP_all _ hok.1 (toFm x0).enc b off x0.length cap 0 [] x1 W (by omega) (hf.keep hW (Nat.le_refl _)).1 (by simp) hx)
    have hz3 := trP_sz (toFm x0) x1
    obtain ⟨L, hL⟩ : ∃ L, L = (trP (toFm x0) x1).enc := ⟨_, rfl⟩
    have hlz : L.length = (trP (toFm x0) x1).sz := by rw [hL, Pt.enc_len]
    have hn2 : L.length ≤ 1048576 := by omega
    rw [← hL] at CL
    by_cases hz : 120 < L.length
    · have E2 := Lib.hid (tl_3 hb hx (by rw [← hlz]; exact hz))
      have E1 := Lib.hid (tl_bad E2.out (by omega))
      have IP := Lib.hid (isP_big (xs := L) hz)
      clear h hat hf hok hlen hz3 hL hlz hw hx
      go_enter Try.func32, Try.ntmps32
      go_wp2_with fail
      refine (implIsF_any x0 _ _ _ _ hl H.out).mono ?_
      rw [hb]
      rintro e w1 ⟨rfl, hb1⟩
      have B1 := Lib.hid hb1
      clear hb1
      go_wp2_with (go_at_call 74; refine (WB.out _).mono ?_; rintro e w' ⟨rfl, rfl⟩)
      refine (trWr_any _).mono ?_
      rintro e w2 ⟨rfl, hb2⟩
      have B2 := Lib.hid (B1.out.trans (hb2.mono B1.out.size))
      clear hb2
      go_wp2_with fail
      refine (CL.out _ B2.out).mono ?_
      rintro e w3 ⟨v3, rfl, ho3, hb3⟩
      obtain ⟨a3, c3, rfl, at3, -⟩ := ho3.at
      have B3 := Lib.hid (B2.out.trans (hb3.mono B2.out.size))
      have A3 := Lib.hid at3
      clear hb3 ho3 at3
      go_wp2_with fail
      refine (within_no L _ _ _ hn2 A3.out IP.out).mono ?_
      rintro e w4 ⟨rfl, hb4⟩
      have B4 := Lib.hid (B3.out.trans (hb4.mono B3.out.size))
      clear hb4
      go_wp2
      go_ret2
      exact ⟨.slice none 0 0, (by rw [E2.out] <;> rfl), by rw [E1.out]; exact World.ownsRow_nil _ _ _ _, B4.out⟩
    · have E2 := Lib.hid (tl_0 hb hx (by rw [← hlz]; exact hz))
      have E1 := Lib.hid (show tlR x0 x1 = L by rw [tlR, if_pos E2.out, hL])
      have IP := Lib.hid (show isP L L.length = true by rw [hL]; exact pt_is _ (trP_ok _ hok.1 x1 hx) (by rw [← hlz]; omega))
      clear h hat hf hok hlen hz3 hL hlz hw hx
      go_enter Try.func32, Try.ntmps32
      go_wp2_with fail
      refine (implIsF_any x0 _ _ _ _ hl H.out).mono ?_
      rw [hb]
      rintro e w1 ⟨rfl, hb1⟩
      have B1 := Lib.hid hb1
      clear hb1
      go_wp2_with (go_at_call 74; refine (WB.out _).mono ?_; rintro e w' ⟨rfl, rfl⟩)
      refine (trWr_any _).mono ?_
      rintro e w2 ⟨rfl, hb2⟩
      have B2 := Lib.hid (B1.out.trans (hb2.mono B1.out.size))
      clear hb2
      go_wp2_with fail
      refine (CL.out _ B2.out).mono ?_
      rintro e w3 ⟨v3, rfl, ho3, hb3⟩
      have I3 := Lib.hid ho3.inn
      obtain ⟨a3, c3, rfl, at3, -⟩ := ho3.at
      have B3 := Lib.hid (B2.out.trans (hb3.mono B2.out.size))
      have A3 := Lib.hid at3
      clear hb3 ho3 at3
      go_wp2_with fail
      refine (within_ok L _ _ _ hn2 A3.out IP.out).mono ?_
      rintro e w4 ⟨rfl, hb4⟩
      have B4 := Lib.hid (B3.out.trans (hb4.mono B3.out.size))
      have O4 := Lib.hid ((I3.out.below hb4 (Nat.le_refl _)).1.mono B2.out.size)
      clear hb4
      go_wp2
      go_ret2
      exact ⟨_, (by rw [E2.out] <;> rfl), by rw [E1.out]; exact O4.out, B4.out⟩
  · have hw : wlB 2 x1 = false := by unfold wlB; rw [Bool.eq_false_iff]; simp; omega
    rw [hw] at WB
    have E2 := Lib.hid (tl_2 hb hx)
    have E1 := Lib.hid (tl_bad E2.out (by omega))
    clear h hat hx hw
    go_enter Try.func32, Try.ntmps32
    go_wp2_with fail
    refine (implIsF_any x0 a _ _ _ hl H.out).mono ?_
    rw [hb]
    rintro e w1 ⟨rfl, hb1⟩
    go_wp2_with (go_at_call 74; refine (WB.out _).mono ?_; rintro e w' ⟨rfl, rfl⟩)
    go_ret2
    exact ⟨.slice none 0 0, (by rw [E2.out] <;> rfl), by rw [E1.out]; exact World.ownsRow_nil _ _ _ _, hb1⟩

set_option maxHeartbeats 2000000 in
set_option maxRecDepth 100000 in
theorem lawTranslateFormula (x0 : List Nd) (x1 : Int) (a0 : Option Addr) (len0 cap0 : Nat) (w : World) (h0 : IsNodes w a0 len0 x0) :
    Calls Try.prog 8 #[.slice a0 len0 cap0, .int .i64 x1] w fun e w' => e = .returned (.bool true) ∧ Below w.heap.size w w' := by
  obtain rfl := h0.1.1
  have m0 := h0.2
  by_cases hb0 : (1048576 : Int) < (x0.length : Int)
  · have S0 := Lib.hid (szI_no hb0)
    clear h0
    go_enter Try.func8, Try.ntmps8
    go_wp2_with fail
    refine (szNodeS_any _ _ _ _ _ m0 (by omega) (by omega)).mono ?_
    rw [S0.out]
    rintro e w' ⟨rfl, rfl⟩
    go_wp2
    go_ret
    exact ⟨rfl, Below.refl _ _⟩
  have S0 := Lib.hid (szI_yes hb0)
  have hl0 : x0.length ≤ 1048576 := by omega
  have H0 := Lib.hid h0.1
  clear h0
  obtain ⟨r0, hr0⟩ : ∃ r, r = tlR x0 x1 := ⟨_, rfl⟩
  have hly : r0.length ≤ 1048576 := by rw [hr0]; exact TranslateFormula_len x0 x1
  have R0 := Lib.hid hr0
  clear hr0
  obtain ⟨r1, hr1⟩ : ∃ r, r = tlC x0 x1 := ⟨_, rfl⟩
  have R1 := Lib.hid hr1
  clear hr1
  go_enter Try.func8, Try.ntmps8
  go_wp2_with fail
  refine (szNodeS_any _ _ _ _ _ m0 (by omega) (by omega)).mono ?_
  rw [S0.out]
  rintro e w' ⟨rfl, rfl⟩
  have y2 : w.heap.size ≤ w.heap.size := (Below.refl w.heap.size w).size
  go_wp2_with fail
  refine (toNodeS_any x0 _ _ _ _ hl0 H0.out).mono ?_
  rintro e w1 ⟨vs0, rfl, ho, hb⟩
  have z3 := hb.size
  have B3 : Below w.heap.size w w1 := hb
  have O4s0 := Lib.hid ho.inn
  clear ho hb
  have y6 : w.heap.size ≤ w1.heap.size := B3.size
  go_wp2_with fail
  refine (specTranslateFormula_v x0 x1 _ _ _ _ hl0 O4s0.out).mono ?_
  rw [← R0.out, ← R1.out]
  rintro e w5 ⟨vw, rfl, ho, hb⟩
  have z7 := hb.size
  have B7 : Below w.heap.size w w5 := B3.trans (hb.mono B3.size)
  have O7s0 := Lib.hid (O4s0.out.below hb O4s0.out.2.1)
  clear O4s0
  have O8w := Lib.hid ho.inn
  clear ho hb
  clear O7s0
  have y10 : w.heap.size ≤ w5.heap.size := B7.size
  go_wp2_with fail
  refine (toNodeS_any x0 _ _ _ _ hl0 (H0.out.keep B7 (Nat.le_refl _))).mono ?_
  rintro e w9 ⟨vx0, rfl, ho, hb⟩
  have z11 := hb.size
  have B11 : Below w.heap.size w w9 := B7.trans (hb.mono B7.size)
  have O11w := Lib.hid (O8w.out.below hb O8w.out.2.1)
  clear O8w
  have O12x0 := Lib.hid ho.inn
  clear ho hb
  have y14 : w.heap.size ≤ w9.heap.size := B11.size
  go_wp2_with fail
  refine (implTranslateFormula_v x0 x1 _ _ _ _ hl0 O12x0.out).mono ?_
  rw [← R0.out, ← R1.out]
  rintro e w13 ⟨vg, rfl, ho, hb⟩
  have z15 := hb.size
  have B15 : Below w.heap.size w w13 := B11.trans (hb.mono B11.size)
  have O15w := Lib.hid (O11w.out.below hb O11w.out.2.1)
  have O15x0 := Lib.hid (O12x0.out.below hb O12x0.out.2.1)
  clear O11w O12x0
  have O16g := Lib.hid ho.inn
  clear ho hb
  go_wp2_with fail
  refine (eqP_in r0 _ _ _ _ _ _ _ hly O16g.out O15w.out).mono ?_
  rintro e w17 ⟨rfl, hb⟩
  have z18 := hb.size
  have B18 : Below w.heap.size w w17 := B15.trans (hb.mono B15.size)
  have O18w := Lib.hid (O15w.out.below hb O15w.out.2.1)
  have O18x0 := Lib.hid (O15x0.out.below hb O15x0.out.2.1)
  have O18g := Lib.hid (O16g.out.below hb O16g.out.2.1)
  clear O15w O15x0 O16g
  clear hb
  have y20 : w.heap.size ≤ w17.heap.size := B18.size
  go_wp2_with fail
  refine (toNodeS_any x0 _ _ _ _ hl0 (H0.out.keep B18 (Nat.le_refl _))).mono ?_
  rintro e w19 ⟨vy0, rfl, ho, hb⟩
  have z21 := hb.size
  have B21 : Below w.heap.size w w19 := B18.trans (hb.mono B18.size)
  have O21w := Lib.hid (O18w.out.below hb O18w.out.2.1)
  have O21x0 := Lib.hid (O18x0.out.below hb O18x0.out.2.1)
  have O21g := Lib.hid (O18g.out.below hb O18g.out.2.1)
  clear O18w O18x0 O18g
  have O22y0 := Lib.hid ho.inn
  clear ho hb
  go_wp2_with fail
  refine (eqN_in x0 _ _ _ _ _ _ _ hl0 O21x0.out O22y0.out).mono ?_
  rintro e w23 ⟨rfl, hb⟩
  have z24 := hb.size
  have B24 : Below w.heap.size w w23 := B21.trans (hb.mono B21.size)
  have O24w := Lib.hid (O21w.out.below hb O21w.out.2.1)
  have O24x0 := Lib.hid (O21x0.out.below hb O21x0.out.2.1)
  have O24g := Lib.hid (O21g.out.below hb O21g.out.2.1)
  have O24y0 := Lib.hid (O22y0.out.below hb O22y0.out.2.1)
  clear O21w O21x0 O21g O22y0
  clear hb
  clear O24y0
  go_wp2_with fail
  refine (markN_in x0 _ _ _ _ _ hl0 (by omega) (by omega) O24x0.out).mono ?_
  rintro e w25 ⟨rfl, om, hb, hg⟩
  have z25 := hb.size
  have B25 : Below w.heap.size w w25 := B24.trans (hb.mono y10)
  have O25w := Lib.hid (O24w.out.other O24x0.out.2.2 hg (by omega))
  have O25g := Lib.hid (O24g.out.other O24x0.out.2.2 hg (by omega))
  have O25x0 := Lib.hid om
  clear hb hg om O24w O24x0 O24g
  clear O25x0
  go_wp2_with fail
  refine (eqP_in r0 _ _ _ _ _ _ _ hly O25g.out O25w.out).mono ?_
  rintro e w26 ⟨rfl, hb⟩
  have z27 := hb.size
  have B27 : Below w.heap.size w w26 := B25.trans (hb.mono B25.size)
  have O27w := Lib.hid (O25w.out.below hb O25w.out.2.1)
  have O27g := Lib.hid (O25g.out.below hb O25g.out.2.1)
  clear O25w O25g
  clear hb
  go_wp2_with fail
  refine (markP_in r0 _ _ _ _ _ hly (by omega) (by omega) O27g.out).mono ?_
  rintro e w28 ⟨rfl, om, hb, hg⟩
  have z28 := hb.size
  have B28 : Below w.heap.size w w28 := B27.trans (hb.mono y14)
  have O28w := Lib.hid (O27w.out.other O27g.out.2.2 hg (by omega))
  have O28g := Lib.hid om
  clear hb hg om O27w O27g
  go_wp2_with fail
  refine (heldP_in r0.length _ _ _ _ _ hly (by omega) (by omega) O28g.out).mono ?_
  rintro e w29 ⟨rfl, rfl⟩
  have y31 : w.heap.size ≤ w28.heap.size := B28.size
  go_wp2_with fail
  refine (toNodeS_any x0 _ _ _ _ hl0 (H0.out.keep B28 (Nat.le_refl _))).mono ?_
  rintro e w30 ⟨vt0, rfl, ho, hb⟩
  have z32 := hb.size
  have B32 : Below w.heap.size w w30 := B28.trans (hb.mono B28.size)
  have O32w := Lib.hid (O28w.out.below hb O28w.out.2.1)
  have O32g := Lib.hid (O28g.out.below hb O28g.out.2.1)
  clear O28w O28g
  have O33t0 := Lib.hid ho.inn
  clear ho hb
  have y35 : w.heap.size ≤ w30.heap.size := B32.size
  go_wp2_with fail
  refine (implTranslateFormula_v x0 x1 _ _ _ _ hl0 O33t0.out).mono ?_
  rw [← R0.out, ← R1.out]
  rintro e w34 ⟨vh, rfl, ho, hb⟩
  have z36 := hb.size
  have B36 : Below w.heap.size w w34 := B32.trans (hb.mono B32.size)
  have O36w := Lib.hid (O32w.out.below hb O32w.out.2.1)
  have O36g := Lib.hid (O32g.out.below hb O32g.out.2.1)
  have O36t0 := Lib.hid (O33t0.out.below hb O33t0.out.2.1)
  clear O32w O32g O33t0
  have O37h := Lib.hid ho.inn
  clear ho hb
  clear O36t0
  go_wp2_with fail
  refine (eqP_in r0 _ _ _ _ _ _ _ hly O37h.out O36w.out).mono ?_
  rintro e w38 ⟨rfl, hb⟩
  have z39 := hb.size
  have B39 : Below w.heap.size w w38 := B36.trans (hb.mono B36.size)
  have O39w := Lib.hid (O36w.out.below hb O36w.out.2.1)
  have O39g := Lib.hid (O36g.out.below hb O36g.out.2.1)
  have O39h := Lib.hid (O37h.out.below hb O37h.out.2.1)
  clear O36w O36g O37h
  clear hb
  clear O39h
  clear O39w
  go_wp2_with fail
  refine (heldP_in r0.length _ _ _ _ _ hly (by omega) (by omega) O39g.out).mono ?_
  rintro e w40 ⟨rfl, rfl⟩
  go_wp2
  go_ret
  exact ⟨rfl, B39⟩

end Go.Proofs.Ytfdoecnpnfojpaa
