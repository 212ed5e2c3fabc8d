/- Contracts of BoundedBisimulation and GreatestBisimulation of the model. Conditions: those in the theorems. -/
import Derived.Test.YtecjmibnoldpgabCtV
import Derived.Test.YtecjmibnoldpgabJn19
namespace Go.Proofs.Ytecjmibnoldpgab
open Go.RowKit

def bbC (n0 : Int) (xs ys : List Int) (n1 : Int) (ps zs : List Int) (k : Int) : Int := if isM n0 xs ys && isM n1 ps zs then (if inB k 0 16 then 0 else 2) else 1
def bbL (n0 : Int) (xs ys : List Int) (n1 : Int) (ps zs : List Int) (k : Int) : List Int := if isM n0 xs ys && isM n1 ps zs then (if inB k 0 16 then lkN xs ys ps zs k.toNat else []) else []
theorem bb_bad {n0 : Int} {xs ys : List Int} {n1 : Int} {ps zs : List Int} {k : Int} (h : (isM n0 xs ys && isM n1 ps zs) = false) : bbC n0 xs ys n1 ps zs k = 1 ∧ bbL n0 xs ys n1 ps zs k = [] := by
  rw [bbC, bbL, h]; exact ⟨rfl, rfl⟩
theorem bb_far {n0 : Int} {xs ys : List Int} {n1 : Int} {ps zs : List Int} {k : Int} (h : (isM n0 xs ys && isM n1 ps zs) = true) (hk : inB k 0 16 = false) : bbC n0 xs ys n1 ps zs k = 2 ∧ bbL n0 xs ys n1 ps zs k = [] := by
  rw [bbC, bbL, h, hk]; exact ⟨rfl, rfl⟩
theorem bb_ok {n0 : Int} {xs ys : List Int} {n1 : Int} {ps zs : List Int} {k : Int} (h : (isM n0 xs ys && isM n1 ps zs) = true) (hk : inB k 0 16 = true) : bbC n0 xs ys n1 ps zs k = 0 ∧ bbL n0 xs ys n1 ps zs k = lkN xs ys ps zs k.toNat := by
  rw [bbC, bbL, h, hk]; exact ⟨rfl, rfl⟩
theorem BoundedBisimulation_len (n0 : Int) (xs ys : List Int) (n1 : Int) (ps zs : List Int) (k : Int) : (bbL n0 xs ys n1 ps zs k).length ≤ 1048576 := by
  cases h : (isM n0 xs ys && isM n1 ps zs)
  · rw [(bb_bad h).2]; simp
  · cases hk : inB k 0 16
    · rw [(bb_far h hk).2]; simp
    · rw [(bb_ok h hk).2, lkN_len]
      rw [Bool.and_eq_true] at h
      obtain ⟨-, -, e, -⟩ := isM_ok h.1
      omega
theorem inB_16 {k : Int} (h : inB k 0 16 = true) : 0 ≤ k ∧ k ≤ 16 := by
  unfold inB at h
  simpa using h

theorem wl_near {k : Int} (h : inB k 0 16 = true) : wlB 17 k = true := by
  obtain ⟨h1, h2⟩ := inB_16 h
  unfold wlB
  simp; omega
theorem wl_far {k : Int} (h : inB k 0 16 = false) : wlB 17 k = false := by
  cases e : wlB 17 k
  · rfl
  · unfold wlB at e
    simp at e
    have : inB k 0 16 = true := by unfold inB; simp; omega
    rw [h] at this; cases this

set_option maxHeartbeats 4000000 in
set_option maxRecDepth 100000 in
theorem specBoundedBisimulation_v (n0 : Int) (xs ys : List Int) (n1 : Int) (ps zs : List Int) (k : Int) (v0 : Value) (lo0 hi0 : Nat) (v1 : Value) (lo1 hi1 : Nat) (w : World) (hl0 : xs.length ≤ 1048576) (hm0 : ys.length ≤ 1048576) (hl1 : ps.length ≤ 1048576) (hm1 : zs.length ≤ 1048576) (h0 : InM w lo0 hi0 v0 n0 xs ys) (h1 : InM w lo1 hi1 v1 n1 ps zs) :
    Calls Try.prog 18 #[v0, v1, .int .i64 k] w fun e w' => ∃ v, e = .returned (.tuple #[v, .int .i64 (bbC n0 xs ys n1 ps zs k)]) ∧ Own w' w.heap.size v (bbL n0 xs ys n1 ps zs k) ∧ Below w.heap.size w w' := by
  obtain ⟨a0, c0, b0, d0, rfl, hat0, hat0', -⟩ := h0.at
  obtain ⟨a1, c1, b1, d1, rfl, hat1, hat1', -⟩ := h1.at
  obtain ⟨W, hW, HB, X0, X1, hWs⟩ := boxTw w n0 a0 xs.length c0 b0 ys.length d0 n1 a1 ps.length c1 b1 zs.length d1
  have H0 := Lib.hid (hat0.keep HB.out (Nat.le_refl _))
  have H0' := Lib.hid (hat0'.keep HB.out (Nat.le_refl _))
  have H1 := Lib.hid (hat1.keep HB.out (Nat.le_refl _))
  have H1' := Lib.hid (hat1'.keep HB.out (Nat.le_refl _))
  have C2 := Lib.hid (l07Two_any n0 n1 xs ys ps zs a0 _ c0 b0 _ d0 a1 _ c1 b1 _ d1 W hl0 hm0 hl1 hm1 H0.out H0'.out H1.out H1'.out)
  have HW := Lib.hid hW
  clear h0 h1 hat0 hat0' hat1 hat1' hW
  have hws : w.heap.size ≤ W.heap.size := by omega
  clear hWs
  obtain ⟨lt0, x0, x1, x2⟩ := X0.out
  obtain ⟨lt1, y0, y1, y2⟩ := X1.out
  cases hf : (isM n0 xs ys && isM n1 ps zs)
  · have R := Lib.hid (bb_bad (k := k) hf)
    have R2 := Lib.hid (gs_bad hf)
    clear hf
    go_enter Try.func18, Try.ntmps18
    go_wp2_with fail
    rw [← HW.out]
    refine C2.out.mono ?_
    rw [R2.out.1]
    rintro e w1 ⟨rfl, hb⟩
    have B1 := Lib.hid (HB.out.trans (hb.mono HB.out.size))
    clear hb x0 x1 x2 y0 y1 y2
    go_wp2
    go_ret2
    exact ⟨_, out_c R.out.1, by rw [R.out.2]; exact World.ownsRow_nil _ _ _ _, B1.out⟩
  · have R2 := Lib.hid (gs_ok hf)
    cases hk : inB k 0 16
    · have R := Lib.hid (bb_far hf hk)
      have HK := Lib.hid hk
      clear hf hk
      go_enter Try.func18, Try.ntmps18
      go_wp2_with fail
      rw [← HW.out]
      refine C2.out.mono ?_
      rw [R2.out.1]
      rintro e w1 ⟨rfl, hb⟩
      have B1 := Lib.hid (HB.out.trans (hb.mono HB.out.size))
      clear hb x0 x1 x2 y0 y1 y2
      go_wp2_with (go_at_call 41; refine (l01In_any _ _ _ _).mono ?_; rw [HK.out]; rintro e w' ⟨rfl, rfl⟩)
      go_ret2
      exact ⟨_, out_c R.out.1, by rw [R.out.2]; exact World.ownsRow_nil _ _ _ _, B1.out⟩
    · have R := Lib.hid (bb_ok hf hk)
      have HK := Lib.hid hk
      obtain ⟨hk0, hk1⟩ := inB_16 hk
      obtain ⟨q, rfl⟩ := Int.eq_ofNat_of_zero_le hk0
      rw [Int.toNat_natCast] at R
      have hq : q < 17 := by omega
      have hq' : (q : Int) < 17 := by omega
      have MM := Lib.hid (Bool.and_eq_true _ _ ▸ hf)
      clear hf hk
      go_enter Try.func18, Try.ntmps18
      go_wp2_with fail
      rw [← HW.out]
      refine C2.out.mono ?_
      rw [R2.out.1]
      rintro e w1 ⟨rfl, hb⟩
      have T1 := Lib.hid hb
      clear hb x0 x1 x2 y0 y1 y2
      obtain ⟨lt0, x0, x1, x2⟩ := X0.out.keep T1.out
      obtain ⟨lt1, y0, y1, y2⟩ := X1.out.keep T1.out
      have LB := Lib.hid (l07Bounded_any n0 n1 xs ys ps zs a0 c0 b0 d0 a1 c1 b1 d1 w1 (Mo.of MM.out.1 (H0.out.keep T1.out (Nat.le_refl _)) (H0'.out.keep T1.out (Nat.le_refl _))) (Mo.of MM.out.2 (H1.out.keep T1.out (Nat.le_refl _)) (H1'.out.keep T1.out (Nat.le_refl _))))
      go_wp2_with (go_at_call 41; refine (l01In_any _ _ _ _).mono ?_; rw [HK.out]; rintro e w' ⟨rfl, rfl⟩)
      clear x0 x1 x2 y0 y1 y2
      refine LB.out.mono ?_
      rintro e w2 ⟨v1, us, rfl, hr, hb⟩
      obtain ⟨aR, cR, eR, hg⟩ := hr.form
      subst eR
      obtain ⟨g, rfl, hg1, hg2, hgc⟩ := hg.resolve_left (by omega)
      obtain ⟨aj, cj, euj, hoj⟩ := hr.2 q hq
      have UJ := (hgc q hq).trans euj
      have OJ := Lib.hid (hoj.mono T1.out.size)
      have B := Lib.hid (HB.out.trans ((T1.out.trans (hb.mono T1.out.size)).mono HB.out.size))
      clear hr hb hg hgc euj hoj
      go_wp2
      go_ret2
      exact ⟨_, out_c R.out.1, by rw [R.out.2]; exact OJ.out.mono hws, B.out⟩

def gbC (n0 : Int) (xs ys : List Int) (n1 : Int) (ps zs : List Int) : Int := bbC n0 xs ys n1 ps zs 16
def gbL (n0 : Int) (xs ys : List Int) (n1 : Int) (ps zs : List Int) : List Int := bbL n0 xs ys n1 ps zs 16
theorem GreatestBisimulation_len (n0 : Int) (xs ys : List Int) (n1 : Int) (ps zs : List Int) : (gbL n0 xs ys n1 ps zs).length ≤ 1048576 := BoundedBisimulation_len _ _ _ _ _ _ _

set_option maxHeartbeats 4000000 in
set_option maxRecDepth 100000 in
theorem specGreatestBisimulation_v (n0 : Int) (xs ys : List Int) (n1 : Int) (ps zs : List Int) (v0 : Value) (lo0 hi0 : Nat) (v1 : Value) (lo1 hi1 : Nat) (w : World) (hl0 : xs.length ≤ 1048576) (hm0 : ys.length ≤ 1048576) (hl1 : ps.length ≤ 1048576) (hm1 : zs.length ≤ 1048576) (h0 : InM w lo0 hi0 v0 n0 xs ys) (h1 : InM w lo1 hi1 v1 n1 ps zs) :
    Calls Try.prog 20 #[v0, v1] w fun e w' => ∃ v, e = .returned (.tuple #[v, .int .i64 (gbC n0 xs ys n1 ps zs)]) ∧ Own w' w.heap.size v (gbL n0 xs ys n1 ps zs) ∧ Below w.heap.size w w' := by
  obtain ⟨a0, c0, b0, d0, rfl, hat0, hat0', -⟩ := h0.at
  obtain ⟨a1, c1, b1, d1, rfl, hat1, hat1', -⟩ := h1.at
  obtain ⟨W, hW, HB, X0, X1, hWs⟩ := boxTw w n0 a0 xs.length c0 b0 ys.length d0 n1 a1 ps.length c1 b1 zs.length d1
  have H0 := Lib.hid (hat0.keep HB.out (Nat.le_refl _))
  have H0' := Lib.hid (hat0'.keep HB.out (Nat.le_refl _))
  have H1 := Lib.hid (hat1.keep HB.out (Nat.le_refl _))
  have H1' := Lib.hid (hat1'.keep HB.out (Nat.le_refl _))
  have C2 := Lib.hid (l07Two_any n0 n1 xs ys ps zs a0 _ c0 b0 _ d0 a1 _ c1 b1 _ d1 W hl0 hm0 hl1 hm1 H0.out H0'.out H1.out H1'.out)
  have HW := Lib.hid hW
  clear h0 h1 hat0 hat0' hat1 hat1' hW
  have hws : w.heap.size ≤ W.heap.size := by omega
  clear hWs
  obtain ⟨lt0, x0, x1, x2⟩ := X0.out
  obtain ⟨lt1, y0, y1, y2⟩ := X1.out
  cases hf : (isM n0 xs ys && isM n1 ps zs)
  · have R := Lib.hid (bb_bad (k := 16) hf)
    have R2 := Lib.hid (gs_bad hf)
    clear hf
    go_enter Try.func20, Try.ntmps20
    go_wp2_with fail
    rw [← HW.out]
    refine C2.out.mono ?_
    rw [R2.out.1]
    rintro e w1 ⟨rfl, hb⟩
    have B1 := Lib.hid (HB.out.trans (hb.mono HB.out.size))
    clear hb x0 x1 x2 y0 y1 y2
    go_wp2
    go_ret2
    exact ⟨_, out_c R.out.1, by rw [gbL, R.out.2]; exact World.ownsRow_nil _ _ _ _, B1.out⟩
  · have R2 := Lib.hid (gs_ok hf)
    have R := Lib.hid (bb_ok (k := 16) hf rfl)
    have MM := Lib.hid (Bool.and_eq_true _ _ ▸ hf)
    clear hf
    go_enter Try.func20, Try.ntmps20
    go_wp2_with fail
    rw [← HW.out]
    refine C2.out.mono ?_
    rw [R2.out.1]
    rintro e w1 ⟨rfl, hb⟩
    have T1 := Lib.hid hb
    clear hb x0 x1 x2 y0 y1 y2
    obtain ⟨lt0, x0, x1, x2⟩ := X0.out.keep T1.out
    obtain ⟨lt1, y0, y1, y2⟩ := X1.out.keep T1.out
    have LB := Lib.hid (l07Greatest_any n0 n1 xs ys ps zs a0 c0 b0 d0 a1 c1 b1 d1 w1 (Mo.of MM.out.1 (H0.out.keep T1.out (Nat.le_refl _)) (H0'.out.keep T1.out (Nat.le_refl _))) (Mo.of MM.out.2 (H1.out.keep T1.out (Nat.le_refl _)) (H1'.out.keep T1.out (Nat.le_refl _))))
    go_wp2_with fail
    clear x0 x1 x2 y0 y1 y2
    refine LB.out.mono ?_
    rintro e w2 ⟨v2, rfl, ho, hb⟩
    have OJ := Lib.hid (ho.mono T1.out.size)
    have B := Lib.hid (HB.out.trans ((T1.out.trans (hb.mono T1.out.size)).mono HB.out.size))
    clear ho hb
    go_wp2
    go_ret2
    exact ⟨_, out_c R.out.1, by rw [gbL, R.out.2]; exact OJ.out.mono hws, B.out⟩

end Go.Proofs.Ytecjmibnoldpgab
