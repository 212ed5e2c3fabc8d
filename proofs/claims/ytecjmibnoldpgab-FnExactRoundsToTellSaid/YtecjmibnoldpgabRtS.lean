/- Contracts of the model's RoundsToTell. Conditions: those in the theorems. -/
import Derived.Test.YtecjmibnoldpgabRt
namespace Go.Proofs.Ytecjmibnoldpgab
open Go.RowKit

def plC (ok : Bool) (n0 x n1 y : Int) : Int := if ok then (if wlB n0 x && wlB n1 y then 0 else 2) else 1
/-- Not told apart in round k. -/
def ntF (xs ys ps zs : List Int) (x y : Int) (k : Nat) : Bool := bitB (nth (lkN xs ys ps zs k) x.toNat) y
def rtZ (xs ys ps zs : List Int) (x y : Int) : Int := frV (ntF xs ys ps zs x y) 17
def rtC (n0 : Int) (xs ys : List Int) (x : Int) (n1 : Int) (ps zs : List Int) (y : Int) : Int := if isM n0 xs ys && isM n1 ps zs then (if wlB n0 x && wlB n1 y then (if rtZ xs ys ps zs x y = -1 then 4 else 0) else 2) else 1
def rtR (n0 : Int) (xs ys : List Int) (x : Int) (n1 : Int) (ps zs : List Int) (y : Int) : Int := if isM n0 xs ys && isM n1 ps zs then (if wlB n0 x && wlB n1 y then (if rtZ xs ys ps zs x y = -1 then 0 else rtZ xs ys ps zs x y) else 0) else 0
theorem fr_or (f : Nat → Bool) (n : Nat) : frV f n = -1 ∨ 0 ≤ frV f n := by
  rcases fr_split f n with h | ⟨k, h1, h2, h3⟩
  · exact .inl (fr_no h)
  · right; rw [fr_at h2 h3 h1]; omega
theorem rt_bad {n0 : Int} {xs ys : List Int} {x n1 : Int} {ps zs : List Int} {y : Int} (h : (isM n0 xs ys && isM n1 ps zs) = false) : rtR n0 xs ys x n1 ps zs y = 0 ∧ rtC n0 xs ys x n1 ps zs y = 1 := by
  rw [rtR, rtC, h]; exact ⟨rfl, rfl⟩
theorem rt_out {n0 : Int} {xs ys : List Int} {x n1 : Int} {ps zs : List Int} {y : Int} (h : (isM n0 xs ys && isM n1 ps zs) = true) (h2 : (wlB n0 x && wlB n1 y) = false) : rtR n0 xs ys x n1 ps zs y = 0 ∧ rtC n0 xs ys x n1 ps zs y = 2 := by
  rw [rtR, rtC, h, h2]; exact ⟨rfl, rfl⟩
theorem rt_not {n0 : Int} {xs ys : List Int} {x n1 : Int} {ps zs : List Int} {y : Int} (h : (isM n0 xs ys && isM n1 ps zs) = true) (h2 : (wlB n0 x && wlB n1 y) = true) (h3 : rtZ xs ys ps zs x y = -1) : rtR n0 xs ys x n1 ps zs y = 0 ∧ rtC n0 xs ys x n1 ps zs y = 4 := by
  rw [rtR, rtC, h, h2, h3]; exact ⟨rfl, rfl⟩
theorem rt_ok {n0 : Int} {xs ys : List Int} {x n1 : Int} {ps zs : List Int} {y : Int} (h : (isM n0 xs ys && isM n1 ps zs) = true) (h2 : (wlB n0 x && wlB n1 y) = true) (h3 : 0 ≤ rtZ xs ys ps zs x y) : rtR n0 xs ys x n1 ps zs y = rtZ xs ys ps zs x y ∧ rtC n0 xs ys x n1 ps zs y = 0 := by
  rw [rtR, rtC, h, h2]
  simp only [if_true]
  rw [if_neg (by omega), if_neg (by omega)]
  exact ⟨rfl, rfl⟩
theorem wlB_at {n : Nat} {x : Int} (h : wlB n x = true) : ∃ k : Nat, x = k ∧ k < n := by
  unfold wlB at h
  simp at h
  exact ⟨x.toNat, by omega, by omega⟩

set_option maxHeartbeats 2000000 in
set_option maxRecDepth 100000 in
theorem l07Places_any (n0 n1 x y : Int) (xs ys ps zs : List Int) (a0 : Option Addr) (c0 : Nat) (b0 : Option Addr) (d0 : Nat) (a1 : Option Addr) (c1 : Nat) (b1 : Option Addr) (d1 : Nat) (w : World) (hl0 : xs.length ≤ 1048576) (hm0 : ys.length ≤ 1048576) (hl1 : ps.length ≤ 1048576) (hm1 : zs.length ≤ 1048576) (h0 : At w a0 xs.length xs) (h0' : At w b0 ys.length ys) (h1 : At w a1 ps.length ps) (h1' : At w b1 zs.length zs) :
    Calls Try.prog 48 #[.agg #[.int .i64 n0, .slice a0 xs.length c0, .slice b0 ys.length d0], .int .i64 x, .agg #[.int .i64 n1, .slice a1 ps.length c1, .slice b1 zs.length d1], .int .i64 y] w fun e w' => e = .returned (.int .i64 (plC (isM n0 xs ys && isM n1 ps zs) n0 x n1 y)) ∧ Below w.heap.size w w' := by
  obtain ⟨W, hW, HB, X0, X1, hWs⟩ := boxTw w n0 a0 xs.length c0 b0 ys.length d0 n1 a1 ps.length c1 b1 zs.length d1
  have C2 := Lib.hid (l07Two_any n0 n1 xs ys ps zs a0 _ c0 b0 _ d0 a1 _ c1 b1 _ d1 W hl0 hm0 hl1 hm1 (h0.keep HB.out (Nat.le_refl _)) (h0'.keep HB.out (Nat.le_refl _)) (h1.keep HB.out (Nat.le_refl _)) (h1'.keep HB.out (Nat.le_refl _)))
  have HW := Lib.hid hW
  clear h0 h0' h1 h1' hW hWs
  obtain ⟨lt0, x0, x1, x2⟩ := X0.out
  obtain ⟨lt1, y0, y1, y2⟩ := X1.out
  cases hf : (isM n0 xs ys && isM n1 ps zs)
  · have R2 := Lib.hid (gs_bad hf)
    clear hf
    go_enter Try.func48, Try.ntmps48
    go_wp2_with fail
    rw [← HW.out]
    refine C2.out.mono ?_
    rw [R2.out.1]
    rintro e w1 ⟨rfl, hb⟩
    have B1 := Lib.hid (HB.out.trans (hb.mono HB.out.size))
    clear hb x0 x1 x2 y0 y1 y2
    go_wp2
    go_ret
    exact ⟨rfl, B1.out⟩
  · have R2 := Lib.hid (gs_ok hf)
    rw [Bool.and_eq_true] at hf
    have hn0 : 0 ≤ n0 ∧ n0 ≤ 30 := by obtain ⟨-, e, e8, -⟩ := isM_ok hf.1; omega
    have hn1 : 0 ≤ n1 ∧ n1 ≤ 30 := by obtain ⟨-, e, e8, -⟩ := isM_ok hf.2; omega
    obtain ⟨hn0, hn0'⟩ := hn0
    obtain ⟨hn1, hn1'⟩ := hn1
    clear hf
    cases hx : wlB n0 x
    · have FX := Lib.hid hx
      have E := Lib.hid (show plC true n0 x n1 y = 2 by rw [plC, hx]; rfl)
      clear hx
      go_enter Try.func48, Try.ntmps48
      go_wp2_with fail
      rw [← HW.out]
      refine C2.out.mono ?_
      rw [R2.out.1]
      rintro e w1 ⟨rfl, hb⟩
      have T1 := Lib.hid hb
      clear hb x0 x1 x2 y0 y1 y2
      obtain ⟨lt0, x0, x1, x2⟩ := X0.out.keep T1.out
      obtain ⟨lt1, y0, y1, y2⟩ := X1.out.keep T1.out
      go_wp2_with fail
      refine (l05World_any n0 x _ _ _ _ hn0 hn0').mono ?_
      rw [FX.out]
      rintro e w2 ⟨rfl, hb⟩
      have T2 := Lib.hid (HB.out.trans ((T1.out.trans (hb.mono T1.out.size)).mono HB.out.size))
      clear hb x0 x1 x2 y0 y1 y2
      go_wp2
      go_ret
      exact ⟨ret_int E.out.symm, T2.out⟩
    · cases hy : wlB n1 y
      all_goals
        have FX := Lib.hid hx
        have FY := Lib.hid hy
        have e9 : plC true n0 x n1 y = (if wlB n1 y = true then 0 else 2) := by rw [plC, hx]; rfl
        rw [hy] at e9
        have E := Lib.hid e9
        clear hx hy e9
        go_enter Try.func48, Try.ntmps48
        go_wp2_with fail
        rw [← HW.out]
        refine C2.out.mono ?_
        rw [R2.out.1]
        rintro e w1 ⟨rfl, hb⟩
        have T1 := Lib.hid hb
        clear hb x0 x1 x2 y0 y1 y2
        obtain ⟨lt0, x0, x1, x2⟩ := X0.out.keep T1.out
        obtain ⟨lt1, y0, y1, y2⟩ := X1.out.keep T1.out
        go_wp2_with fail
        refine (l05World_any n0 x _ _ _ _ hn0 hn0').mono ?_
        rw [FX.out]
        rintro e w2 ⟨rfl, hb⟩
        have T2 := Lib.hid (T1.out.trans (hb.mono T1.out.size))
        clear hb x0 x1 x2 y0 y1 y2
        obtain ⟨lt1, y0, y1, y2⟩ := X1.out.keep T2.out
        go_wp2_with fail
        refine (l05World_any n1 y _ _ _ _ hn1 hn1').mono ?_
        rw [FY.out]
        rintro e w3 ⟨rfl, hb⟩
        have T3 := Lib.hid (HB.out.trans ((T2.out.trans (hb.mono T2.out.size)).mono HB.out.size))
        clear hb y0 y1 y2
        go_wp2
        go_ret
        exact ⟨ret_int E.out.symm, T3.out⟩

set_option maxHeartbeats 1000000 in
theorem l07Rounds_any (ls : Nat → List Int) (L x : Nat) (y : Int) (g cap : Nat) (w : World) (hx : x < L) (hy : 0 ≤ y) (hy2 : y ≤ 30) (hg : ∀ j, j < 17 → ∃ a c, w.cell? ⟨g, j, none⟩ = some (.slice a L c) ∧ At w a L (ls j)) :
    Calls Try.prog 49 #[.slice (some ⟨g, 0, none⟩) 17 cap, .int .i64 x, .int .i64 y] w fun e w' => e = .returned (.int .i64 (frV (fun j => bitB (nth (ls j) x) y) 17)) ∧ w = w' := by
  have G := Lib.hid hg
  clear hg
  obtain ⟨f, hf⟩ : ∃ f : Nat → Bool, f = fun j => bitB (nth (ls j) x) y := ⟨_, rfl⟩
  have F := Lib.hid hf
  rw [← hf]
  clear hf
  have hx' : (x : Int) < (L : Int) := by omega
  go_enter Try.func49, Try.ntmps49
  go_wp2
  go_loop [7] (fun i => ∃ k : Nat, k ≤ 17 ∧ i = .int .i64 k ∧ Hid (∀ j, j < k → f j = true)) (fun i => 17 - (intOf i).toNat)
  case atStart => exact ⟨0, Nat.zero_le _, rfl, Lib.hid (fun j h => absurd h (by omega))⟩
  case round =>
    obtain ⟨k, hk, rfl, P⟩ := hrel
    by_cases hlt : k < 17
    · obtain ⟨a, c, hgk, hat⟩ := G.out k hlt
      obtain ⟨lb, lo, rfl, hlb, hlc⟩ := hat.2.resolve_left (by omega)
      have hcx := hlc x hx
      have hk17 : (k : Int) < 17 := by omega
      have FK0 := Lib.hid (show bitB (nth (ls k) x) y = f k by rw [F.out])
      clear hat hlc
      cases hfk : f k
      · have FK := Lib.hid (fr_at P.out hfk hlt)
        have FB := Lib.hid (FK0.out.trans hfk)
        clear hfk
        go_wp2_with (go_at_call 66; refine (l01Bit_any _ _ _ hy hy2).mono ?_; rw [FB.out]; rintro e w' ⟨rfl, rfl⟩)
        go_ret
        exact ⟨ret_int FK.out.symm, rfl⟩
      · have PK := Lib.hid (show ∀ j, j < k + 1 → f j = true from fun j hj => by
          by_cases e : j = k
          · rw [e]; exact hfk
          · exact P.out j (by omega))
        have FB := Lib.hid (FK0.out.trans hfk)
        clear hfk
        go_wp2_with (go_at_call 66; refine (l01Bit_any _ _ _ hy hy2).mono ?_; rw [FB.out]; rintro e w' ⟨rfl, rfl⟩)
        go_round
        case rel => exact ⟨k + 1, hlt, by go_num, PK⟩
        case measure => simp [intOf]; omega
    · obtain rfl : k = 17 := by omega
      have FK := Lib.hid (fr_no P.out)
      go_wp2
      go_ret
      exact ⟨ret_int FK.out.symm, rfl⟩

set_option maxHeartbeats 4000000 in
set_option maxRecDepth 100000 in
theorem specRoundsToTell_v (n0 : Int) (xs ys : List Int) (x : Int) (n1 : Int) (ps zs : List Int) (y : Int) (v0 : Value) (lo0 hi0 : Nat) (v1 : Value) (lo1 hi1 : Nat) (w : World) (hl0 : xs.length ≤ 1048576) (hm0 : ys.length ≤ 1048576) (hl1 : ps.length ≤ 1048576) (hm1 : zs.length ≤ 1048576) (h0 : InM w lo0 hi0 v0 n0 xs ys) (h1 : InM w lo1 hi1 v1 n1 ps zs) :
    Calls Try.prog 22 #[v0, .int .i64 x, v1, .int .i64 y] w fun e w' => e = .returned (.tuple #[.int .i64 (rtR n0 xs ys x n1 ps zs y), .int .i64 (rtC n0 xs ys x n1 ps zs y)]) ∧ Below w.heap.size w w' := by
  obtain ⟨a0, c0, b0, d0, rfl, hat0, hat0', -⟩ := h0.at
  obtain ⟨a1, c1, b1, d1, rfl, hat1, hat1', -⟩ := h1.at
  obtain ⟨W, hW, HB, X0, X1, hWs⟩ := boxTw w n0 a0 xs.length c0 b0 ys.length d0 n1 a1 ps.length c1 b1 zs.length d1
  have H0 := Lib.hid (hat0.keep HB.out (Nat.le_refl _))
  have H0' := Lib.hid (hat0'.keep HB.out (Nat.le_refl _))
  have H1 := Lib.hid (hat1.keep HB.out (Nat.le_refl _))
  have H1' := Lib.hid (hat1'.keep HB.out (Nat.le_refl _))
  have CP := Lib.hid (l07Places_any n0 n1 x y xs ys ps zs a0 c0 b0 d0 a1 c1 b1 d1 W hl0 hm0 hl1 hm1 H0.out H0'.out H1.out H1'.out)
  have HW := Lib.hid hW
  clear h0 h1 hat0 hat0' hat1 hat1' hW hWs
  obtain ⟨lt0, x0, x1, x2⟩ := X0.out
  obtain ⟨lt1, y0, y1, y2⟩ := X1.out
  cases hf : (isM n0 xs ys && isM n1 ps zs)
  · have R := Lib.hid (rt_bad (x := x) (y := y) hf)
    have F := Lib.hid hf
    clear hf
    go_enter Try.func22, Try.ntmps22
    go_wp2_with fail
    rw [← HW.out]
    refine CP.out.mono ?_
    rw [F.out, show plC false n0 x n1 y = 1 from rfl]
    rintro e w1 ⟨rfl, hb⟩
    have B1 := Lib.hid (HB.out.trans (hb.mono HB.out.size))
    clear hb x0 x1 x2 y0 y1 y2
    go_wp2
    go_ret2
    exact ⟨by rw [R.out.1, R.out.2]; rfl, B1.out⟩
  · cases hp : (wlB n0 x && wlB n1 y)
    · have R := Lib.hid (rt_out hf hp)
      have F := Lib.hid hf
      have P := Lib.hid (show plC true n0 x n1 y = 2 by rw [plC, hp]; rfl)
      clear hf hp
      go_enter Try.func22, Try.ntmps22
      go_wp2_with fail
      rw [← HW.out]
      refine CP.out.mono ?_
      rw [F.out, P.out]
      rintro e w1 ⟨rfl, hb⟩
      have B1 := Lib.hid (HB.out.trans (hb.mono HB.out.size))
      clear hb x0 x1 x2 y0 y1 y2
      go_wp2
      go_ret2
      exact ⟨by rw [R.out.1, R.out.2]; rfl, B1.out⟩
    · have RN := Lib.hid (fun h3 => rt_not (x := x) (y := y) hf hp h3)
      have RO := Lib.hid (fun h3 => rt_ok (x := x) (y := y) hf hp h3)
      have F := Lib.hid hf
      have P := Lib.hid (show plC true n0 x n1 y = 0 by rw [plC, hp]; rfl)
      rw [Bool.and_eq_true] at hf hp
      have MM := Lib.hid hf
      obtain ⟨hn0, hx8⟩ : n0 = xs.length ∧ xs.length ≤ 8 := by obtain ⟨-, e, e8, -⟩ := isM_ok hf.1; exact ⟨e, e8⟩
      obtain ⟨hn1, hp8⟩ : n1 = ps.length ∧ ps.length ≤ 8 := by obtain ⟨-, e, e8, -⟩ := isM_ok hf.2; exact ⟨e, e8⟩
      subst hn0
      subst hn1
      obtain ⟨k, rfl, hk⟩ := wlB_at hp.1
      obtain ⟨l, rfl, hl⟩ := wlB_at hp.2
      clear hf hp
      obtain ⟨z, hz⟩ : ∃ z, z = rtZ xs ys ps zs k l := ⟨_, rfl⟩
      have ZZ : z = -1 ∨ 0 ≤ z := by rw [hz]; exact fr_or _ _
      have LZ := Lib.hid (show frV (fun j => bitB (nth (lkN xs ys ps zs j) k) l) 17 = z by rw [hz]; rfl)
      rw [← hz] at RN RO
      clear hz
      go_enter Try.func22, Try.ntmps22
      go_wp2_with fail
      rw [← HW.out]
      refine CP.out.mono ?_
      rw [F.out, P.out]
      rintro e w1 ⟨rfl, hb⟩
      have T1 := Lib.hid hb
      clear hb x0 x1 x2 y0 y1 y2
      obtain ⟨lt0, x0, x1, x2⟩ := X0.out.keep T1.out
      obtain ⟨lt1, y0, y1, y2⟩ := X1.out.keep T1.out
      have LB := Lib.hid (l07Bounded_any xs.length ps.length xs ys ps zs a0 c0 b0 d0 a1 c1 b1 d1 w1 (Mo.of MM.out.1 (H0.out.keep T1.out (Nat.le_refl _)) (H0'.out.keep T1.out (Nat.le_refl _))) (Mo.of MM.out.2 (H1.out.keep T1.out (Nat.le_refl _)) (H1'.out.keep T1.out (Nat.le_refl _))))
      go_wp2_with fail
      clear x0 x1 x2 y0 y1 y2
      refine LB.out.mono ?_
      rintro e w2 ⟨v1, us, rfl, hr, hb⟩
      obtain ⟨aR, cR, eR, hg⟩ := hr.form
      subst eR
      obtain ⟨g, rfl, hg1, hg2, hgc⟩ := hg.resolve_left (by omega)
      have LR := Lib.hid (l07Rounds_any (lkN xs ys ps zs) xs.length k l g cR w2 hk (by omega) (by omega) (fun j hj => by
        obtain ⟨aj, cj, euj, hoj⟩ := hr.2 j hj
        obtain ⟨a', c', e', hat, -⟩ := hoj.at
        cases e'
        rw [lkN_len] at hat euj
        exact ⟨aj, cj, (hgc j hj).trans euj, hat⟩))
      rw [LZ.out] at LR
      have B := Lib.hid (HB.out.trans ((T1.out.trans (hb.mono T1.out.size)).mono HB.out.size))
      clear hr hb hg hgc
      go_wp2_with fail
      refine LR.out.mono ?_
      rintro e w' ⟨rfl, rfl⟩
      rcases ZZ with rfl | hz0
      · have R := Lib.hid (RN.out rfl)
        go_wp2
        go_ret2
        exact ⟨by rw [R.out.1, R.out.2]; rfl, B.out⟩
      · have R := Lib.hid (RO.out hz0)
        have hzn : ¬ z < 0 := by omega
        go_wp2
        go_ret2
        exact ⟨by rw [R.out.1, R.out.2]; rfl, B.out⟩

end Go.Proofs.Ytecjmibnoldpgab
