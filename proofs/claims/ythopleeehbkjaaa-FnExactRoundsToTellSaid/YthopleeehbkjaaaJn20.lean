/- 2 texts in one: GsP, GsS. -/
import Derived.Test.YthopleeehbkjaaaJn17
import Derived.Test.YthopleeehbkjaaaSiW
import Derived.Test.YthopleeehbkjaaaRepI
import Derived.Test.YthopleeehbkjaaaJn18
/- Contracts of GreatestSimulation of the program and of the model. Conditions: those in the theorems. -/
namespace Go.Proofs.Ythopleeehbkjaaa
open Go.RowKit

noncomputable def gsV (n0 : Int) (xs ys : List Int) (n1 : Int) (ps zs : List Int) : List Int := if m2C n0 xs ys n1 ps zs = 0 then gsL xs ys ps zs else []
theorem gs_bad {n0 n1 : Int} {xs ys ps zs : List Int} (h : (isM n0 xs ys && isM n1 ps zs) = false) : m2C n0 xs ys n1 ps zs = 1 ∧ gsV n0 xs ys n1 ps zs = [] := by
  have : m2C n0 xs ys n1 ps zs = 1 := by rw [m2C, h]; rfl
  exact ⟨this, by rw [gsV, this]; rfl⟩
theorem gs_ok {n0 n1 : Int} {xs ys ps zs : List Int} (h : (isM n0 xs ys && isM n1 ps zs) = true) : m2C n0 xs ys n1 ps zs = 0 ∧ gsV n0 xs ys n1 ps zs = gsL xs ys ps zs := by
  have : m2C n0 xs ys n1 ps zs = 0 := by rw [m2C, h]; rfl
  exact ⟨this, by rw [gsV, if_pos this]⟩
theorem out_c {v : Value} {c c' : Int} (h : c' = c) : Ending.returned (.tuple #[v, .int .i64 c]) = .returned (.tuple #[v, .int .i64 c']) := by rw [h]
theorem At_new (w : World) (x : Int) : At (w.alloc (.cells #[.int .i64 x] 2)) (some ⟨w.heap.size, 0, none⟩) 1 [x] :=
  ⟨rfl, .inr ⟨w.heap.size, 0, rfl, by simp, fun j hj => (by
    obtain rfl : j = 0 := by omega
    exact World.cell?_alloc_at _ _ _ _ rfl)⟩⟩

set_option maxHeartbeats 4000000 in
set_option maxRecDepth 100000 in
theorem implGreatestSimulation_v (n0 : Int) (xs ys : List Int) (n1 : Int) (ps zs : List Int) (v0 : Value) (lo0 hi0 : Nat) (v1 : Value) (lo1 hi1 : Nat) (w : World) (hl0 : xs.length ≤ 1048576) (hm0 : ys.length ≤ 1048576) (hl1 : ps.length ≤ 1048576) (hm1 : zs.length ≤ 1048576) (h0 : InM w lo0 hi0 v0 n0 xs ys) (h1 : InM w lo1 hi1 v1 n1 ps zs) :
    Calls Try.prog 25 #[v0, v1] w fun e w' => ∃ v, e = .returned (.tuple #[v, .int .i64 (m2C n0 xs ys n1 ps zs)]) ∧ Own w' w.heap.size v (gsV n0 xs ys n1 ps zs) ∧ Below w.heap.size w w' := by
  obtain ⟨a0, c0, b0, d0, rfl, hat0, hat0', -⟩ := h0.at
  obtain ⟨a1, c1, b1, d1, rfl, hat1, hat1', -⟩ := h1.at
  obtain ⟨W, hW, HB, X0, X1, hWs⟩ := boxTw w n0 a0 xs.length c0 b0 ys.length d0 n1 a1 ps.length c1 b1 zs.length d1
  have H0 := Lib.hid (hat0.keep HB.out (Nat.le_refl _))
  have H0' := Lib.hid (hat0'.keep HB.out (Nat.le_refl _))
  have H1 := Lib.hid (hat1.keep HB.out (Nat.le_refl _))
  have H1' := Lib.hid (hat1'.keep HB.out (Nat.le_refl _))
  have CM := Lib.hid (areM2_made n0 n1 xs ys ps zs a0 _ c0 b0 _ d0 a1 _ c1 b1 _ d1 W hl0 hm0 hl1 hm1 H0.out H0'.out H1.out H1'.out hWs)
  have HW := Lib.hid hW
  clear h0 h1 hat0 hat0' hat1 hat1' hW
  have hws : w.heap.size ≤ W.heap.size := by omega
  clear hWs
  obtain ⟨lt0, x0, x1, x2⟩ := X0.out
  obtain ⟨lt1, y0, y1, y2⟩ := X1.out
  cases hf : (isM n0 xs ys && isM n1 ps zs)
  · have F := Lib.hid hf
    have R := Lib.hid (gs_bad hf)
    clear hf
    go_enter Try.func25, Try.ntmps25
    go_wp2_with fail
    rw [← HW.out]
    refine CM.out.mono ?_
    rw [F.out]
    rintro e w1 ⟨rfl, hb⟩
    have B1 := Lib.hid (HB.out.trans (hb.mono HB.out.size))
    clear hb x0 x1 x2 y0 y1 y2
    go_wp2
    go_ret2
    exact ⟨_, out_c R.out.1, by rw [R.out.2]; exact World.ownsRow_nil _ _ _ _, B1.out⟩
  · have F := Lib.hid hf
    have R := Lib.hid (gs_ok hf)
    have hff := hf
    rw [Bool.and_eq_true] at hff
    obtain ⟨hf0, hf1⟩ := hff
    have LK := Lib.hid (gs_start hf0 hf1)
    have MM := Lib.hid (And.intro hf0 hf1)
    have hx8 : xs.length ≤ 8 := by obtain ⟨-, e, e8, -⟩ := isM_ok hf0; exact e8
    have hnp : n1 = ps.length ∧ ps.length ≤ 8 := by obtain ⟨-, e, e8, -⟩ := isM_ok hf1; exact ⟨e, e8⟩
    obtain ⟨hnp, hp8⟩ := hnp
    have hn0 : 0 ≤ n1 := by omega
    have hn30 : n1 ≤ 30 := by omega
    have NP := Lib.hid hnp
    clear hf hf0 hf1 hnp
    go_enter Try.func25, Try.ntmps25
    go_wp2_with fail
    rw [← HW.out]
    refine CM.out.mono ?_
    rw [F.out]
    rintro e w1 ⟨rfl, hb⟩
    have T1 := Lib.hid hb
    clear x0 x1 x2 y0 y1 y2 hb
    obtain ⟨lt0, x0, x1, x2⟩ := X0.out.keep T1.out
    obtain ⟨lt1, y0, y1, y2⟩ := X1.out.keep T1.out
    go_wp2
    go_cut [6] (fun s wx => ∃ (a : Option Addr) (c : Nat), s = .slice a xs.length c ∧ Hid (Own wx W.heap.size (.slice a xs.length c) (gsN xs ys ps zs 0)) ∧ Hid (Below W.heap.size W wx))
    case first =>
      go_region_held3 (fun w' => w'.cell? ⟨w.heap.size, 0, none⟩ = some (.int .i64 n0) ∧ w'.cell? ⟨w.heap.size, 1, none⟩ = some (.slice a0 xs.length c0) ∧ w'.cell? ⟨w.heap.size, 2, none⟩ = some (.slice b0 ys.length d0) ∧ w'.cell? ⟨w.heap.size + 1, 0, none⟩ = some (.int .i64 n1) ∧ w'.cell? ⟨w.heap.size + 1, 1, none⟩ = some (.slice a1 ps.length c1) ∧ w'.cell? ⟨w.heap.size + 1, 2, none⟩ = some (.slice b1 zs.length d1)) (first | exact ⟨p0, p1, p2, q0, q1, q2⟩ | exact ⟨r0, r1, r2, s0, s1, s2⟩ | exact ⟨x0, x1, x2, y0, y1, y2⟩ | go_keep) (first | (go_at_call 69; refine (allWorlds_any n1 _ _ _ _ hn0 hn30).mono ?_; rintro e w2 ⟨rfl, hb⟩; have T2 := Lib.hid (T1.out.trans (Below.mono (below_of_drew hb) T1.out.size)); clear hb; obtain ⟨lr0, r0, r1, r2⟩ := X0.out.keep T2.out; obtain ⟨ls0, s0, s1, s2⟩ := X1.out.keep T2.out) | (go_at_call 68; refine (repeatI_any (full n1) xs.length _ _ _ (by omega) (At_new w2 _)).mono ?_; rintro e w3 ⟨v3, rfl, ho, hb⟩; have T3 := Lib.hid (T2.out.trans (Below.mono (below_al (Nat.le_refl _) hb) T2.out.size)); have O3 := Lib.hid (show Own w3 W.heap.size v3 (gsN xs ys ps zs 0) by have q := ho.mono (Nat.le_trans T2.out.size (below_al (C := w2.heap.size) (Nat.le_refl _) (Below.refl _ _)).size); rw [NP.out] at q; exact q); clear ho hb; obtain ⟨lp0, p0, p1, p2⟩ := X0.out.keep T3.out; obtain ⟨lq0, q0, q1, q2⟩ := X1.out.keep T3.out))
      all_goals (try go_wp2_with fail)
      all_goals go_meet
      all_goals
        obtain ⟨a3, k3, e3, -, -, -, -⟩ := O3.out.at
        rw [gsN_len] at e3
        subst e3
        exact ⟨_, _, rfl, O3, T3⟩
    case rest =>
      rename World => wz
      obtain ⟨a3, k3, rfl, O3, T3⟩ := hcut
      clear x0 x1 x2 y0 y1 y2 T1
      have N0 := Lib.hid (show muL (gsN xs ys ps zs 0) xs.length < muL (gsN xs ys ps zs 0) xs.length + 1 from Nat.lt_succ_self _)
      obtain ⟨N, hN⟩ : ∃ N, N = muL (gsN xs ys ps zs 0) xs.length + 1 := ⟨_, rfl⟩
      rw [← hN] at N0
      clear hN
      go_wp2
      go_loopg [6] N (fun g v wr => ∃ (k : Nat) (a : Option Addr) (c : Nat), v = .slice a xs.length c ∧ Hid (Own wr W.heap.size (.slice a xs.length c) (gsN xs ys ps zs k)) ∧ Hid (muL (gsN xs ys ps zs k) xs.length < g) ∧ Hid (Below W.heap.size W wr))
      case atStart => exact ⟨0, a3, k3, rfl, O3, N0, T3⟩
      case round =>
        rename World => wo
        obtain ⟨k, a2, c2, rfl, K, hn, B⟩ := hrel
        clear O3 N0 T3
        obtain ⟨m, hm⟩ : ∃ m, gk = m + 1 := ⟨gk - 1, by have := hn.out; omega⟩
        have TT := Lib.hid (show muL (gsN xs ys ps zs k) xs.length < m + 1 by rw [← hm]; exact hn.out)
        have GK := Lib.hid hm
        have LEN := Lib.hid (gsN_len xs ys ps zs k)
        have LKk := Lib.hid (gs_lk LK.out k)
        obtain ⟨a4, c4, e4, hat, -, -, -⟩ := K.out.at
        rw [LEN.out] at e4 hat
        cases e4
        have A := Lib.hid (show At wo a2 (gsN xs ys ps zs k).length (gsN xs ys ps zs k) by rw [LEN.out]; exact hat)
        obtain ⟨st, hst⟩ : ∃ s, s = decide (simL xs ys ps zs (gsN xs ys ps zs k) = gsN xs ys ps zs k) := ⟨_, rfl⟩
        have CI := Lib.hid (show Calls Try.prog 62 #[.agg #[.int .i64 n0, .slice a0 xs.length c0, .slice b0 ys.length d0], .agg #[.int .i64 n1, .slice a1 ps.length c1, .slice b1 zs.length d1], .slice a2 xs.length c2] wo fun e w' => e = .returned (.bool st) ∧ Below wo.heap.size wo w' by
          have q := isSimulation_any n0 n1 xs ys ps zs (gsN xs ys ps zs k) a0 c0 b0 d0 a1 c1 b1 d1 a2 c2 wo (Mo.of MM.out.1 (H0.out.keep B.out (Nat.le_refl _)) (H0'.out.keep B.out (Nat.le_refl _))) (Mo.of MM.out.2 (H1.out.keep B.out (Nat.le_refl _)) (H1'.out.keep B.out (Nat.le_refl _))) A.out LEN.out
          rw [← hst, LEN.out] at q
          exact q)
        have ST := Lib.hid hst
        clear hm hn hat hst
        obtain ⟨lt0, x0, x1, x2⟩ := X0.out.keep B.out
        obtain ⟨lt1, y0, y1, y2⟩ := X1.out.keep B.out
        go_wp2_with fail
        clear x0 x1 x2 y0 y1 y2
        refine CI.out.mono ?_
        rintro e w4 ⟨rfl, hb⟩
        have T4 := Lib.hid (B.out.trans (hb.mono B.out.size))
        have A4 := Lib.hid (A.out.keep hb (Nat.le_refl _))
        have K4 := Lib.hid (K.out.keep hb (Nat.le_refl _))
        obtain ⟨lt0, x0, x1, x2⟩ := X0.out.keep T4.out
        obtain ⟨lt1, y0, y1, y2⟩ := X1.out.keep T4.out
        clear hb
        cases st
        · have NE := Lib.hid (show simL xs ys ps zs (gsN xs ys ps zs k) ≠ gsN xs ys ps zs k from decide_eq_false_iff_not.1 ST.out.symm)
          have CS := Lib.hid (show Calls Try.prog 70 #[.agg #[.int .i64 n0, .slice a0 xs.length c0, .slice b0 ys.length d0], .agg #[.int .i64 n1, .slice a1 ps.length c1, .slice b1 zs.length d1], .slice a2 xs.length c2] w4 fun e w' => ∃ v, e = .returned v ∧ Own w' w4.heap.size v (gsN xs ys ps zs (k + 1)) ∧ Below w4.heap.size w4 w' by
            have q := simulated_any n0 n1 xs ys ps zs (gsN xs ys ps zs k) a0 c0 b0 d0 a1 c1 b1 d1 a2 c2 w4 (Mo.of MM.out.1 (H0.out.keep T4.out (Nat.le_refl _)) (H0'.out.keep T4.out (Nat.le_refl _))) (Mo.of MM.out.2 (H1.out.keep T4.out (Nat.le_refl _)) (H1'.out.keep T4.out (Nat.le_refl _))) A4.out LEN.out
            rw [LEN.out] at q
            exact q)
          go_wp2_with fail
          clear x0 x1 x2 y0 y1 y2
          refine CS.out.mono ?_
          rintro e w5 ⟨v5, rfl, ho, hb⟩
          have T5 := Lib.hid (T4.out.trans (hb.mono T4.out.size))
          have O5 := Lib.hid (ho.mono T4.out.size)
          obtain ⟨a5, c5, e5, -, -, -, -⟩ := ho.at
          rw [gsN_len] at e5
          subst e5
          have DR := Lib.hid (LKk.out.drop NE.out)
          clear ho hb
          go_wp2
          go_roundg m
          case measure => rw [GK.out]; omega
          case rel => exact ⟨k + 1, _, _, rfl, O5, Lib.hid (Nat.lt_of_lt_of_le DR.out (Nat.le_of_lt_succ TT.out)), T5⟩
        · have EQ := Lib.hid (gsL_eq (decide_eq_true_iff.1 ST.out.symm))
          clear x0 x1 x2 y0 y1 y2
          go_wp2
          go_ret2
          exact ⟨_, out_c R.out.1, by rw [R.out.2, EQ.out]; exact K4.out.mono hws, HB.out.trans (T4.out.mono HB.out.size)⟩

end Go.Proofs.Ythopleeehbkjaaa

/- The contract of GreatestSimulation of the model. Conditions: those in the theorem. -/
namespace Go.Proofs.Ythopleeehbkjaaa
open Go.RowKit

/-- A row of which the entries below k are met with another one's. -/
def meF (F G : Nat → Int) (k t : Nat) : Int := if t < k then bits .and .i64 (F t) (G t) else F t
theorem me_at (F G : Nat → Int) (k : Nat) : meF F G k k = F k := by unfold meF; rw [if_neg (by omega)]
theorem me_zero (F G : Nat → Int) : meF F G 0 = F := by funext t; unfold meF; rw [if_neg (by omega)]
theorem me_set {F G : Nat → Int} {k : Nat} {z : Int} (h : z = bits .and .i64 (F k) (G k)) (t : Nat) : (if t = k then z else meF F G k t) = meF F G (k + 1) t := by
  subst h
  unfold meF
  by_cases e : t = k
  · subst e; rw [if_pos rfl, if_pos (by omega)]
  · rw [if_neg e]
    by_cases h2 : t < k
    · rw [if_pos h2, if_pos (by omega)]
    · rw [if_neg h2, if_neg (by omega)]
theorem me_all {xs ys ps zs ls : List Int} (h : Lk xs ys ps zs ls) : tab xs.length (meF (belV xs ys ps zs ls) (nth ls) xs.length) = simL xs ys ps zs ls := by
  unfold simL tab
  rw [h.ll]
  refine List.map_congr_left fun t ht => ?_
  have := List.mem_range.1 ht
  unfold meF
  rw [if_pos this, h.kept]

theorem At.setO' {w : World} {a : Option Addr} {len g o : Nat} {xs : List Int} {v : Value} (h : At w a len xs) (hne : ∀ p, a = some p → p.block ≠ g) : At (w.setCell ⟨g, o, none⟩ v) a len xs := by
  refine ⟨h.1, ?_⟩
  rcases h.2 with h2 | ⟨b, off, ha, hlt, hc⟩
  · exact .inl h2
  · exact .inr ⟨b, off, ha, by simpa using hlt, fun j hj => (World.cell?_setCell_other _ _ _ _ (fun e => hne _ ha (by cases e; rfl))).trans (hc j hj)⟩
theorem own_lt {w : World} {B n c : Nat} {p : Addr} {xs : List Int} (h : Own w B (.slice (some p) n c) xs) : p.block < w.heap.size := by
  obtain ⟨-, ⟨e, -⟩ | ⟨g', c', cur, e, hB, hh, -⟩⟩ := h
  · cases e
  · simp only [Value.slice.injEq, Option.some.injEq] at e
    obtain ⟨rfl, -⟩ := e
    exact (Array.getElem?_eq_some_iff.1 hh).1
theorem own_setO {w : World} {B g o l lo len c : Nat} {xs : List Int} {v : Value} (h : Own w B (.slice (some ⟨l, lo, none⟩) len c) xs) (hne : l ≠ g) : Own (w.setCell ⟨g, o, none⟩ v) B (.slice (some ⟨l, lo, none⟩) len c) xs := by
  refine World.ownsRow.kept (w' := w.setCell ⟨g, o, none⟩ v) (row := some g) h ⟨rfl, rfl, rfl, by simp [World.setCell], fun k _ hne2 => Below.heap_setCell _ _ _ _ (fun e => hne2 (by rw [e]))⟩ (.inr fun e => hne ?_)
  cases e
  rfl

set_option maxHeartbeats 4000000 in
set_option maxRecDepth 100000 in
theorem specGreatestSimulation_v (n0 : Int) (xs ys : List Int) (n1 : Int) (ps zs : List Int) (v0 : Value) (lo0 hi0 : Nat) (v1 : Value) (lo1 hi1 : Nat) (w : World) (hl0 : xs.length ≤ 1048576) (hm0 : ys.length ≤ 1048576) (hl1 : ps.length ≤ 1048576) (hm1 : zs.length ≤ 1048576) (h0 : InM w lo0 hi0 v0 n0 xs ys) (h1 : InM w lo1 hi1 v1 n1 ps zs) :
    Calls Try.prog 24 #[v0, v1] w fun e w' => ∃ v, e = .returned (.tuple #[v, .int .i64 (m2C n0 xs ys n1 ps zs)]) ∧ Own w' w.heap.size v (gsV n0 xs ys n1 ps zs) ∧ Below w.heap.size w w' := by
  obtain ⟨a0, c0, b0, d0, rfl, hat0, hat0', -⟩ := h0.at
  obtain ⟨a1, c1, b1, d1, rfl, hat1, hat1', -⟩ := h1.at
  obtain ⟨W, hW, HB, X0, X1, hWs⟩ := boxTw w n0 a0 xs.length c0 b0 ys.length d0 n1 a1 ps.length c1 b1 zs.length d1
  have H0 := Lib.hid (hat0.keep HB.out (Nat.le_refl _))
  have H0' := Lib.hid (hat0'.keep HB.out (Nat.le_refl _))
  have H1 := Lib.hid (hat1.keep HB.out (Nat.le_refl _))
  have H1' := Lib.hid (hat1'.keep HB.out (Nat.le_refl _))
  have C2 := Lib.hid (l07Two_any n0 n1 xs ys ps zs a0 _ c0 b0 _ d0 a1 _ c1 b1 _ d1 W hl0 hm0 hl1 hm1 H0.out H0'.out H1.out H1'.out)
  have HW := Lib.hid hW
  clear h0 h1 hat0 hat0' hat1 hat1' hW
  have hws : w.heap.size ≤ W.heap.size := by omega
  clear hWs
  obtain ⟨lt0, x0, x1, x2⟩ := X0.out
  obtain ⟨lt1, y0, y1, y2⟩ := X1.out
  cases hf : (isM n0 xs ys && isM n1 ps zs)
  · have R := Lib.hid (gs_bad hf)
    clear hf
    go_enter Try.func24, Try.ntmps24
    go_wp2_with fail
    rw [← HW.out]
    refine C2.out.mono ?_
    rw [R.out.1]
    rintro e w1 ⟨rfl, hb⟩
    have B1 := Lib.hid (HB.out.trans (hb.mono HB.out.size))
    clear hb x0 x1 x2 y0 y1 y2
    go_wp2
    go_ret2
    exact ⟨_, out_c R.out.1, by rw [R.out.2]; exact World.ownsRow_nil _ _ _ _, B1.out⟩
  · have R := Lib.hid (gs_ok hf)
    have hff := hf
    rw [Bool.and_eq_true] at hff
    obtain ⟨hf0, hf1⟩ := hff
    have LK := Lib.hid (gs_start hf0 hf1)
    have MM := Lib.hid (And.intro hf0 hf1)
    have hx8 : n0 = xs.length ∧ xs.length ≤ 8 := by obtain ⟨-, e, e8, -⟩ := isM_ok hf0; exact ⟨e, e8⟩
    obtain ⟨hnx, hx8⟩ := hx8
    have hnp : n1 = ps.length ∧ ps.length ≤ 8 := by obtain ⟨-, e, e8, -⟩ := isM_ok hf1; exact ⟨e, e8⟩
    obtain ⟨hnp, hp8⟩ := hnp
    subst hnx
    subst hnp
    clear hf hf0 hf1
    go_enter Try.func24, Try.ntmps24
    go_wp2_with fail
    rw [← HW.out]
    refine C2.out.mono ?_
    rw [R.out.1]
    rintro e w1 ⟨rfl, hb⟩
    have T1 := Lib.hid hb
    clear x0 x1 x2 y0 y1 y2 hb
    go_wp2
    go_loopw [7, 8] (fun v i wr => ∃ t : Nat, t ≤ xs.length ∧ i = .int .i64 t ∧ wr.ownsRow w1.heap.size 2 1 v t ((upTo (fun _ => full ps.length) t).map (Value.int .i64)) ∧ Hid (Below w1.heap.size w1 wr)) (fun _ i _ => xs.length - (intOf i).toNat)
    case atStart => exact ⟨0, Nat.zero_le _, rfl, World.ownsRow_lit w1 #[] 0 (Nat.le_refl _) (by unfold maxLen; omega) rfl, Lib.hid ((Below.refl _ _).alloc (Nat.le_refl _) _)⟩
    case round =>
      obtain ⟨t, ht, rfl, hown, B⟩ := hrel
      have HO := Lib.hid hown
      clear hown
      have hsz := B.out.size
      have BW := Lib.hid (T1.out.trans (B.out.mono T1.out.size))
      obtain ⟨lt0, x0, x1, x2⟩ := X0.out.keep BW.out
      obtain ⟨lt1, y0, y1, y2⟩ := X1.out.keep BW.out
      by_cases hlt : t < xs.length
      · go_wp2_with (first | (go_at_call 65; refine (l01Full_any _ _ (by omega) (by omega)).mono ?_; rintro e w' ⟨rfl, rfl⟩) | (at_builtin; refine list_app1 rfl _ _ rfl w1.heap.size _ t _ rfl (HO.out.alloc _) ⟨wr.heap.size, 0, none⟩ 1 _ rfl (World.cell?_alloc_at _ _ _ _ rfl) (by omega) (by simp; omega) ?_; intro v' w1' hown1 hgr1))
        have hbel := Lib.hid (below_app B.out ((Below.refl _ _).alloc hsz _) hsz HO.out hgr1)
        clear hgr1 x0 x1 x2 y0 y1 y2
        go_roundw
        case rel => exact ⟨t + 1, hlt, by go_num, by rw [upTo, List.map_append]; exact hown1, hbel⟩
        case measure => simp [intOf]; omega
      · obtain rfl : t = xs.length := by omega
        have O5 := Lib.hid (show Own wr W.heap.size u7 (gsN xs ys ps zs 0) by have q := own_up HO.out; rw [upTo_tab] at q; exact q.mono T1.out.size)
        obtain ⟨a5, k5, e5, -, -, -, -⟩ := O5.out.at
        rw [gsN_len] at e5
        subst e5
        go_wp2
        clear x0 x1 x2 y0 y1 y2 HO B hsz
        have N0 := Lib.hid (show muL (gsN xs ys ps zs 0) xs.length < muL (gsN xs ys ps zs 0) xs.length + 1 from Nat.lt_succ_self _)
        obtain ⟨N, hN⟩ : ∃ N, N = muL (gsN xs ys ps zs 0) xs.length + 1 := ⟨_, rfl⟩
        rw [← hN] at N0
        clear hN
        go_loopg [7] N (fun g v wr => ∃ (k : Nat) (a : Option Addr) (c : Nat), v = .slice a xs.length c ∧ Hid (Own wr W.heap.size (.slice a xs.length c) (gsN xs ys ps zs k)) ∧ Hid (muL (gsN xs ys ps zs k) xs.length < g) ∧ Hid (Below W.heap.size W wr))
        case atStart => exact ⟨0, a5, k5, rfl, O5, N0, BW⟩
        case round =>
          rename World => wo
          obtain ⟨k, a2, c2, rfl, K, hn, B⟩ := hrel
          clear O5 N0 BW
          obtain ⟨m, hm⟩ : ∃ m, gk = m + 1 := ⟨gk - 1, by have := hn.out; omega⟩
          have TT := Lib.hid (show muL (gsN xs ys ps zs k) xs.length < m + 1 by rw [← hm]; exact hn.out)
          have GK := Lib.hid hm
          have LEN := Lib.hid (gsN_len xs ys ps zs k)
          have LKk := Lib.hid (gs_lk LK.out k)
          obtain ⟨a4, c4, e4, hat, -, -, -⟩ := K.out.at
          rw [LEN.out] at e4 hat
          cases e4
          have A := Lib.hid (show At wo a2 xs.length (gsN xs ys ps zs k) from hat)
          have CB := Lib.hid (show Calls Try.prog 60 #[.agg #[.int .i64 xs.length, .slice a0 xs.length c0, .slice b0 ys.length d0], .agg #[.int .i64 ps.length, .slice a1 ps.length c1, .slice b1 zs.length d1], .slice a2 xs.length c2] wo fun e w' => ∃ v, e = .returned v ∧ Own w' wo.heap.size v (tab xs.length (belV xs ys ps zs (gsN xs ys ps zs k))) ∧ Below wo.heap.size wo w' by
            have q := l07Below_any xs.length ps.length xs ys ps zs (gsN xs ys ps zs k) a0 c0 b0 d0 a1 c1 b1 d1 a2 c2 wo (Mo.of MM.out.1 (H0.out.keep B.out (Nat.le_refl _)) (H0'.out.keep B.out (Nat.le_refl _))) (Mo.of MM.out.2 (H1.out.keep B.out (Nat.le_refl _)) (H1'.out.keep B.out (Nat.le_refl _))) (by rw [LEN.out]; exact hat) (by rw [LEN.out]; exact hx8)
            rw [LEN.out] at q
            exact q)
          clear hm hn hat
          obtain ⟨lt0, x0, x1, x2⟩ := X0.out.keep B.out
          obtain ⟨lt1, y0, y1, y2⟩ := X1.out.keep B.out
          go_wp2_with fail
          clear x0 x1 x2 y0 y1 y2
          refine CB.out.mono ?_
          rintro e w4 ⟨v4, rfl, ho, hb⟩
          have T4 := Lib.hid (B.out.trans (hb.mono B.out.size))
          have A4 := Lib.hid (A.out.keep hb (Nat.le_refl _))
          have K4 := Lib.hid (K.out.keep hb (Nat.le_refl _))
          have NB := Lib.hid (fun p (hp : a2 = some p) => (show p.block < wo.heap.size by
            subst hp
            exact own_lt K.out))
          have O4 := Lib.hid (show Own w4 wo.heap.size v4 (tab xs.length (meF (belV xs ys ps zs (gsN xs ys ps zs k)) (nth (gsN xs ys ps zs k)) 0)) by rw [me_zero]; exact ho)
          obtain ⟨a6, c6, e6, -, -, -, -⟩ := ho.at
          rw [tab_len] at e6
          subst e6
          clear ho hb
          go_wp2
          go_loopw [10] (fun i wr => ∃ t : Nat, t ≤ xs.length ∧ i = .int .i64 t ∧ Hid (Own wr wo.heap.size (.slice a6 xs.length c6) (tab xs.length (meF (belV xs ys ps zs (gsN xs ys ps zs k)) (nth (gsN xs ys ps zs k)) t))) ∧ Hid (At wr a2 xs.length (gsN xs ys ps zs k)) ∧ Hid (Own wr W.heap.size (.slice a2 xs.length c2) (gsN xs ys ps zs k)) ∧ Hid (Below W.heap.size W wr)) (fun i _ => xs.length - (intOf i).toNat)
          case atStart => exact ⟨0, Nat.zero_le _, rfl, O4, A4, K4, T4⟩
          case round =>
            clear O4 A4 K4 T4
            obtain ⟨t, ht, rfl, O, A5, K5, B5⟩ := hrel
            by_cases hlt : t < xs.length
            · obtain ⟨g, k2', e2, hg⟩ := own_zero O.out (by rw [tab_len]; omega)
              rw [tab_len] at e2
              cases e2
              have GB := Lib.hid (own_blk O.out)
              obtain ⟨hck, hfk⟩ := own_cell O.out hlt
              rw [me_at] at hck
              obtain ⟨lb, lo, rfl, hlb, hlc⟩ := A5.out.2.resolve_left (by omega)
              have hcl := hlc t hlt
              clear hlc
              have NE := Lib.hid (fun p (hp : some (⟨lb, lo, none⟩ : Addr) = some p) => (by have k1 := NB.out p hp; have k2 := GB.out.1; omega : p.block ≠ g))
              have hbg : W.heap.size ≤ g := Nat.le_trans B.out.size GB.out.1
              go_wp2
              go_region
              all_goals
                go_wp2
                go_roundw
                case rel => exact ⟨t + 1, hlt, by go_num, Lib.hid (own_set (show Own (World.drew _) _ _ _ from O.out) (fun t => me_set rfl t)), Lib.hid (At.setO' (show At (World.drew _) _ _ _ from A5.out) NE.out), Lib.hid (own_setO (show Own (World.drew _) _ _ _ from K5.out) (by have := NE.out _ rfl; exact this)), Lib.hid ((B5.out.drew).setCell (p := ⟨g, t, none⟩) hbg _)⟩
                case measure => simp [intOf]; omega
            · obtain rfl : t = xs.length := by omega
              have O6 := Lib.hid (show Own wr wo.heap.size (.slice a6 xs.length c6) (gsN xs ys ps zs (k + 1)) by have q := O.out; rw [me_all LKk.out] at q; exact q)
              obtain ⟨a7, c7, e7, hat7, -, -, -⟩ := O6.out.at
              rw [gsN_len] at e7 hat7
              cases e7
              have A6 := Lib.hid hat7
              clear hat7
              obtain ⟨st, hst⟩ : ∃ s, s = decide (gsN xs ys ps zs (k + 1) = gsN xs ys ps zs k) := ⟨_, rfl⟩
              have ST := Lib.hid hst
              go_wp2_with fail
              refine (l01Same_any _ _ _ _ _ _ _ _ _ hl0 hl0 A6.out A5.out).mono ?_
              rw [← hst]
              clear hst
              rintro e w7 ⟨rfl, hb⟩
              have T7 := Lib.hid (B5.out.trans (hb.mono B5.out.size))
              have K7 := Lib.hid (K5.out.keep hb (Nat.le_refl _))
              have O7 := Lib.hid ((O6.out.keep hb (Nat.le_refl _)).mono B.out.size)
              clear hb
              cases st
              · have NE := Lib.hid (show simL xs ys ps zs (gsN xs ys ps zs k) ≠ gsN xs ys ps zs k from decide_eq_false_iff_not.1 ST.out.symm)
                have DR := Lib.hid (LKk.out.drop NE.out)
                go_wp2
                go_roundg m
                case measure => rw [GK.out]; omega
                case rel => exact ⟨k + 1, _, _, rfl, O7, Lib.hid (Nat.lt_of_lt_of_le DR.out (Nat.le_of_lt_succ TT.out)), T7⟩
              · have EQ := Lib.hid (gsL_eq (show simL xs ys ps zs (gsN xs ys ps zs k) = gsN xs ys ps zs k from decide_eq_true_iff.1 ST.out.symm))
                go_wp2
                go_ret2
                exact ⟨_, out_c R.out.1, by rw [R.out.2, EQ.out]; exact K7.out.mono hws, HB.out.trans (T7.out.mono HB.out.size)⟩

theorem GreatestSimulation_len (n0 : Int) (xs ys : List Int) (n1 : Int) (ps zs : List Int) : (gsV n0 xs ys n1 ps zs).length ≤ 1048576 := by
  cases hf : (isM n0 xs ys && isM n1 ps zs)
  · rw [(gs_bad hf).2]; simp
  · rw [(gs_ok hf).2]
    rw [Bool.and_eq_true] at hf
    have LK := gs_start hf.1 hf.2
    have h8 := LK.x8
    -- some round is the last
    have key : ∀ m k, muL (gsN xs ys ps zs k) xs.length < m → ∃ k, simL xs ys ps zs (gsN xs ys ps zs k) = gsN xs ys ps zs k := by
      intro m
      induction m with
      | zero => intro k h; omega
      | succ m ih =>
        intro k h
        by_cases e : simL xs ys ps zs (gsN xs ys ps zs k) = gsN xs ys ps zs k
        · exact ⟨k, e⟩
        · have := (gs_lk LK k).drop e
          exact ih (k + 1) (by show muL (simL xs ys ps zs (gsN xs ys ps zs k)) _ < m; omega)
    obtain ⟨k, hk⟩ := key _ 0 (Nat.lt_succ_self _)
    rw [gsL_len hk]
    omega

end Go.Proofs.Ythopleeehbkjaaa
