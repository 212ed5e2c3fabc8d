/- The model's quotient of a frame by a congruence; contracts of QuotientFrame of both. Conditions: those in the theorems. -/
import Derived.Test.YtecjmibnoldpgaaCgP
namespace Go.Proofs.Ytecjmibnoldpgaa
open Go.RowKit

set_option maxHeartbeats 4000000 in
set_option maxRecDepth 100000 in
theorem l08Quotient_any (cs xs : List Int) (n m : Nat) (a : Option Addr) (cap : Nat) (ac : Option Addr) (cc : Nat) (w : World) (hq : Cq cs n m) (hn : n ≤ 8) (hx : ∀ i, InMk n (nth xs i)) (hg : cgO cs xs n = true) (h : At w a n xs) (h' : At w ac n cs) :
    Calls Try.prog 62 #[.agg #[.int .i64 n, .slice a n cap], .slice ac n cc] w fun e w' => ∃ v, e = .returned v ∧ OwnF w' w.heap.size v m (tab m (qaF cs xs n n)) ∧ Below w.heap.size w w' := by
  obtain ⟨W, hW, HB, X, Z, hWs⟩ := boxF1 w n a n cap
  have H := Lib.hid (h.keep HB.out (Nat.le_refl _))
  have H' := Lib.hid (h'.keep HB.out (Nat.le_refl _))
  have hm8 : m ≤ 8 := by have := hq.mn; omega
  have hmk := fun (W : World) => run_make_row' (P := Try.prog) 22 2 (.int .i64 0) 8 Try.underlying22 info64 rfl .i64 .i64 m (by omega) (by omega) W
  have CO := Lib.hid (fun q a c w (hat : At w a n cs) => by
    have z := l08Image_any cs q a c w (by rw [hq.len]; omega) (fun i => ⟨(hq.b30 i).1, by have := (hq.b30 i).2; omega⟩) (by rw [hq.len]; exact hat)
    rw [hq.len] at z
    exact z)
  have LQ := Lib.hid (fun c (hc : c < m) => hq.lq hn hx hg hc)
  have CF := Lib.hid (fun k => show ciF cs xs k = coTo cs (nth xs k) n by unfold ciF; rw [hq.len])
  have Q := Lib.hid hq
  have HW := Lib.hid hW
  have hz0 : w.heap.size + 1 + 1 ≤ W.heap.size := by omega
  obtain ⟨lt, x0, x1⟩ := X.out
  clear h h' hW hWs hq hx hg
  go_enter Try.func62, Try.ntmps62
  go_wp2
  rw [← HW.out]
  clear x0 x1
  go_loop [5, 6] (fun c i => ∃ k : Nat, k ≤ n ∧ i = .int .i64 k ∧ c = .int .i64 (mxF cs k)) (fun _ i => n - (intOf i).toNat)
  case atStart => exact ⟨0, Nat.zero_le _, rfl, rfl⟩
  case round =>
    obtain ⟨k, hk, rfl, rfl⟩ := hrel
    by_cases hlt : k < n
    · obtain ⟨cb, co, rfl, hcb, hcc⟩ := H'.out.2.resolve_left (by omega)
      have hck := hcc k hlt
      clear hcc
      have hbk := Q.out.bd k hlt
      have hmx := Q.out.mx_le k hk
      have hmx0 := (mx_ge cs k).1
      have MX := Lib.hid (show mxF cs (k + 1) = (if mxF cs k < nth cs k + 1 then nth cs k + 1 else mxF cs k) from rfl)
      obtain ⟨p, hp⟩ : ∃ p, p = mxF cs k := ⟨_, rfl⟩
      obtain ⟨q, hqq⟩ : ∃ q, q = nth cs k := ⟨_, rfl⟩
      rw [← hp] at hmx hmx0 MX ⊢
      rw [← hqq] at hck hbk MX
      clear hp hqq
      by_cases hc : p < q + 1
      · have E := Lib.hid (MX.out.trans (if_pos hc))
        go_wp2
        go_round
        case rel => exact ⟨k + 1, hlt, by go_num, by rw [E.out]⟩
        case measure => simp [intOf]; omega
      · have E := Lib.hid (MX.out.trans (if_neg hc))
        go_wp2
        go_round
        case rel => exact ⟨k + 1, hlt, by go_num, by rw [E.out]⟩
        case measure => simp [intOf]; omega
    · obtain rfl : k = n := by omega
      rw [Q.out.mx]
      have R0 := Lib.hid (World.rowIs_made W (.int .i64 0) m 2)
      go_wp2
      clear hmk
      go_loopw [8] (fun i wr => ∃ j : Nat, j ≤ k ∧ i = .int .i64 j ∧ Hid (wr.rowIs W.heap.size 2 m (fun t => .int .i64 (lqF cs xs j t))) ∧ Hid (Below W.heap.size W wr)) (fun i _ => k - (intOf i).toNat)
      case atStart => exact ⟨0, Nat.zero_le _, rfl, R0, Lib.hid (alloc_keep _ _).1⟩
      case round =>
        obtain ⟨j, hj, rfl, R, B⟩ := hrel
        by_cases hjt : j < k
        · have AC := Lib.hid (H'.out.keep B.out (Nat.le_refl _))
          obtain ⟨cb, co, rfl, hcb, hcc⟩ := AC.out.2.resolve_left (by omega)
          obtain ⟨xb, xo, rfl, hxb, hxc⟩ := (H.out.keep B.out (Nat.le_refl _)).2.resolve_left (by omega)
          have hck := hcc j hjt
          have hxk := hxc j hjt
          obtain ⟨c, hc⟩ := Int.eq_ofNat_of_zero_le (Q.out.bd j hjt).1
          have hcm : c < m := by have := (Q.out.bd j hjt).2; omega
          rw [hc] at hck
          obtain ⟨u, hu⟩ : ∃ u, u = lqF cs xs j c := ⟨_, rfl⟩
          have hcg : wr.cell? ⟨W.heap.size, c, none⟩ = some (.int .i64 u) := by rw [hu]; exact R.out.cell hcm
          have hfg : wr.frozen? ⟨W.heap.size, c, none⟩ = false := R.out.frozen c
          have hcm' : (c : Int) < (m : Int) := by omega
          have hjn' : (j : Int) < (k : Int) := by omega
          obtain ⟨lt0, x0, x1⟩ := X.out.keep B.out
          have SETS := Lib.hid (show ∀ z t, z = coTo cs (nth xs j) k → (if t = c then z else lqF cs xs j t) = lqF cs xs (j + 1) t from fun z t hz => lq_set hc (hz.trans (CF.out j).symm) t)
          clear hcc hxc hc hu
          go_wp2
          go_region_with (first | (go_at_call 74; refine (CO.out _ _ _ _ AC.out.drw).mono ?_; rintro e w' ⟨rfl, rfl⟩))
          all_goals
            go_wp2
            go_roundw
            case rel => exact ⟨j + 1, hjt, by go_num, Lib.hid (row_setI (show World.rowIs (World.drew _) _ _ _ _ from R.out) (fun t => SETS.out _ t rfl)), Lib.hid ((B.out.drew).setCell (p := ⟨W.heap.size, c, none⟩) (Nat.le_refl _) _)⟩
            case measure => simp [intOf]; omega
        · obtain rfl : j = k := by omega
          have O5 := Lib.hid (own_of_row (F := qaF cs xs j j) (B := W.heap.size) (Nat.le_refl _) (by omega) (R.out.congr fun t ht => by rw [LQ.out t ht]))
          obtain ⟨lt2, z0, z1, z2, z3⟩ := Z.out.keep B.out
          have B3 := Lib.hid (HB.out.trans (B.out.mono HB.out.size))
          go_wp2
          refine bodyPost_ret (v := .agg #[.int .i64 m, .slice (some ⟨W.heap.size, 0, none⟩) m m]) (by simp [results, Try.results62, go_sem, z0, z1]) rfl ⟨_, rfl, ?_, (B3.out.setCell (by show _ ≤ _; simp) _).setCell (by show _ ≤ _; simp) _⟩
          exact ((OwnF.mk (n := m) (show Own wr W.heap.size _ (tab m (qaF cs xs j j)) from O5.out)).out2 (by omega)).mono (by omega)

theorem l08Quo_l {cs xs : List Int} {n m k : Nat} (e : k = n) (a : Option Addr) (cap : Nat) (ac : Option Addr) (cc : Nat) (w : World) (hq : Cq cs k m) (hn : n ≤ 8) (hx : ∀ i, InMk n (nth xs i)) (hg : cgO cs xs k = true) (h : At w a n xs) (h' : At w ac k cs) :
    Calls Try.prog 62 #[.agg #[.int .i64 n, .slice a n cap], .slice ac k cc] w fun e w' => ∃ v, e = .returned v ∧ OwnF w' w.heap.size v m (tab m (qaF cs xs k k)) ∧ Below w.heap.size w w' := by
  subst e
  exact l08Quotient_any cs xs k m a cap ac cc w hq hn hx hg h h'

noncomputable def qfK (n : Int) (xs ls : List Int) : Bool := frB n xs && cgK n xs ls
noncomputable def qfC (n : Int) (xs ls : List Int) : Int := if qfK n xs ls then 0 else 1
noncomputable def qfM (ls : List Int) : Nat := (stF (lbI ls) ls.length).1
noncomputable def qfL (n : Int) (xs ls : List Int) : List Int := if qfK n xs ls then tab (qfM ls) (qaF ls xs ls.length ls.length) else []
theorem qf_bad {n : Int} {xs ls : List Int} (h : qfK n xs ls = false) : qfC n xs ls = 1 ∧ qfL n xs ls = [] := by rw [qfC, qfL, h]; exact ⟨rfl, rfl⟩
theorem qf_ok {n : Int} {xs ls : List Int} (h : qfK n xs ls = true) : qfC n xs ls = 0 ∧ qfL n xs ls = tab (qfM ls) (qaF ls xs ls.length ls.length) := by rw [qfC, qfL, h]; exact ⟨rfl, rfl⟩
theorem qf_of {n : Int} {xs ls : List Int} (hf : frB n xs = true) (hk : cgK n xs ls = true) : n = xs.length ∧ ls.length = xs.length ∧ xs.length ≤ 8 ∧ Rel xs.length (nth xs) ∧ Cq ls ls.length (qfM ls) ∧ cgO ls xs ls.length = true := by
  obtain ⟨hn, x8, -, hr⟩ := frB_ok hf
  rw [cgK, odB, Bool.and_eq_true, Bool.and_eq_true, decide_eq_true_eq] at hk
  exact ⟨hn, by omega, x8, hr, nm_cq hk.1.2, hk.2⟩
theorem QuotientFrame_len (n : Int) (xs ls : List Int) : (qfL n xs ls).length ≤ 1048576 := by
  cases h : qfK n xs ls
  · rw [(qf_bad h).2]; simp
  · rw [(qf_ok h).2, tab_len]
    rw [qfK, Bool.and_eq_true] at h
    obtain ⟨-, a, b, -, c, -⟩ := qf_of h.1 h.2
    have := c.mn
    omega


set_option maxHeartbeats 2000000 in
set_option maxRecDepth 100000 in
theorem specQuotientFrame_v (n : Int) (xs ls : List Int) (v : Value) (lo hi : Nat) (v1 : Value) (lo1 hi1 : Nat) (w : World) (hl : xs.length ≤ 1048576) (hll : ls.length ≤ 1048576) (h : InF w lo hi v n xs) (h1 : OwnIn w lo1 hi1 v1 ls) :
    Calls Try.prog 32 #[v, v1] w fun e w' => ∃ v, e = .returned (.tuple #[v, .int .i64 (qfC n xs ls)]) ∧ OwnF w' w.heap.size v (qfL n xs ls).length (qfL n xs ls) ∧ Below w.heap.size w w' := by
  suffices q : Calls Try.prog 32 #[v, v1] w (fun e w' => RF w' w.heap.size (qfL n xs ls).length (qfC n xs ls) (qfL n xs ls) e ∧ Below w.heap.size w w') from q.mono fun e w' ⟨⟨v, e1, o⟩, b⟩ => ⟨v, e1, o, b⟩
  obtain ⟨a, cap, rfl, hat, -⟩ := h.at
  obtain ⟨al, cl, rfl, hatl⟩ := own_lst h1
  obtain ⟨W, hW, HB, X, Z, hWs⟩ := boxF1 w n a xs.length cap
  have H := Lib.hid (hat.keep HB.out (Nat.le_refl _))
  have HL := Lib.hid (hatl.keep HB.out (Nat.le_refl _))
  have HW := Lib.hid hW
  have hz0 : w.heap.size + 1 + 1 ≤ W.heap.size := by omega
  clear h h1 hat hatl hW hWs
  obtain ⟨lt, x0, x1⟩ := X.out
  cases hf : frB n xs
  · have F := Lib.hid hf
    have C := Lib.hid (qf_bad (show qfK n xs ls = false by rw [qfK, hf]; rfl))
    clear hf
    go_enter Try.func32, Try.ntmps32
    go_wp2_with fail
    rw [← HW.out]
    refine (l05Is_any n xs _ _ _ _ hl H.out).mono ?_
    rw [F.out]
    rintro e w1 ⟨rfl, hb⟩
    have T1 := Lib.hid hb
    clear hb lt x0 x1
    obtain ⟨lt2, z0, z1, z2, z3⟩ := Z.out.keep T1.out
    go_wp2
    exact bodyPost_ret (v := .tuple #[.agg #[.int .i64 0, .slice none 0 0], .int .i64 1]) (by simp [results, Try.results32, go_sem, z0, z1]) rfl ⟨RF.bad C.out.1 (by rw [C.out.2]; rfl) C.out.2, ((HB.out.trans (T1.out.mono HB.out.size)).setCell (by show _ ≤ _; simp) _).setCell (by show _ ≤ _; simp) _⟩
  · cases hk : cgK n xs ls
    · have F := Lib.hid hf
      have G := Lib.hid hk
      have C := Lib.hid (qf_bad (show qfK n xs ls = false by rw [qfK, hf, hk]; rfl))
      clear hf hk
      go_enter Try.func32, Try.ntmps32
      go_wp2_with fail
      rw [← HW.out]
      refine (l05Is_any n xs _ _ _ _ hl H.out).mono ?_
      rw [F.out]
      rintro e w1 ⟨rfl, hb⟩
      have T1 := Lib.hid hb
      clear hb lt x0 x1
      obtain ⟨lt, x0, x1⟩ := X.out.keep T1.out
      go_wp2_with fail
      refine (l08Congruence_any n xs ls _ _ _ _ _ F.out hll (H.out.keep T1.out (Nat.le_refl _)) (HL.out.keep T1.out (Nat.le_refl _))).mono ?_
      rw [G.out]
      rintro e w2 ⟨rfl, hb⟩
      have T2 := Lib.hid (T1.out.trans (hb.mono T1.out.size))
      clear hb lt x0 x1
      obtain ⟨lt2, z0, z1, z2, z3⟩ := Z.out.keep T2.out
      go_wp2
      exact bodyPost_ret (v := .tuple #[.agg #[.int .i64 0, .slice none 0 0], .int .i64 1]) (by simp [results, Try.results32, go_sem, z0, z1]) rfl ⟨RF.bad C.out.1 (by rw [C.out.2]; rfl) C.out.2, ((HB.out.trans (T2.out.mono HB.out.size)).setCell (by show _ ≤ _; simp) _).setCell (by show _ ≤ _; simp) _⟩
    · have F := Lib.hid hf
      have G := Lib.hid hk
      have C := Lib.hid (qf_ok (show qfK n xs ls = true by rw [qfK, hf, hk]; rfl))
      have E := Lib.hid (qf_of hf hk)
      have hne := E.out.1
      clear hf hk
      subst hne
      go_enter Try.func32, Try.ntmps32
      go_wp2_with fail
      rw [← HW.out]
      refine (l05Is_any _ xs _ _ _ _ hl H.out).mono ?_
      rw [F.out]
      rintro e w1 ⟨rfl, hb⟩
      have T1 := Lib.hid hb
      clear hb lt x0 x1
      obtain ⟨lt, x0, x1⟩ := X.out.keep T1.out
      go_wp2_with fail
      refine (l08Congruence_any _ xs ls _ _ _ _ _ F.out hll (H.out.keep T1.out (Nat.le_refl _)) (HL.out.keep T1.out (Nat.le_refl _))).mono ?_
      rw [G.out]
      rintro e w2 ⟨rfl, hb⟩
      have T2 := Lib.hid (T1.out.trans (hb.mono T1.out.size))
      clear hb lt x0 x1
      obtain ⟨lt, x0, x1⟩ := X.out.keep T2.out
      have hs2 := T2.out.size
      go_wp2_with fail
      clear lt x0 x1
      refine (l08Quo_l (cs := ls) (xs := xs) (m := qfM ls) E.out.2.1 _ _ _ _ _ E.out.2.2.2.2.1 E.out.2.2.1 E.out.2.2.2.1 E.out.2.2.2.2.2 (H.out.keep T2.out (Nat.le_refl _)) (HL.out.keep T2.out (Nat.le_refl _))).mono ?_
      rw [← C.out.2]
      rintro e w3 ⟨v3, rfl, ho, hb⟩
      obtain ⟨a3, k3, rfl⟩ := ho.form
      have T3 := Lib.hid (T2.out.trans (hb.mono T2.out.size))
      have O3 := Lib.hid ho
      have NL := Lib.hid (show (qfM ls : Int) = ((qfL (xs.length : Int) xs ls).length : Nat) by rw [C.out.2, tab_len])
      clear hb ho
      obtain ⟨lt2, z0, z1, z2, z3⟩ := Z.out.keep T3.out
      go_wp2
      exact bodyPost_ret (v := .tuple #[.agg #[.int .i64 (qfM ls), .slice a3 (qfL (xs.length : Int) xs ls).length k3], .int .i64 0]) (by simp [results, Try.results32, go_sem, z0, z1]) rfl ⟨RF.good C.out.1 NL.out.symm rfl (O3.out.out2 (by omega)) (by omega), ((HB.out.trans (T3.out.mono HB.out.size)).setCell (by show _ ≤ _; simp) _).setCell (by show _ ≤ _; simp) _⟩

set_option maxHeartbeats 2000000 in
set_option maxRecDepth 100000 in
theorem implQuotientFrame_v (n : Int) (xs ls : List Int) (v : Value) (lo hi : Nat) (v1 : Value) (lo1 hi1 : Nat) (w : World) (hl : xs.length ≤ 1048576) (hll : ls.length ≤ 1048576) (h : InF w lo hi v n xs) (h1 : OwnIn w lo1 hi1 v1 ls) (hwf : WfL ls) :
    Calls Try.prog 33 #[v, v1] w fun e w' => ∃ v, e = .returned (.tuple #[v, .int .i64 (qfC n xs ls)]) ∧ OwnF w' w.heap.size v (qfL n xs ls).length (qfL n xs ls) ∧ Below w.heap.size w w' := by
  suffices q : Calls Try.prog 33 #[v, v1] w (fun e w' => RF w' w.heap.size (qfL n xs ls).length (qfC n xs ls) (qfL n xs ls) e ∧ Below w.heap.size w w') from q.mono fun e w' ⟨⟨v, e1, o⟩, b⟩ => ⟨v, e1, o, b⟩
  obtain ⟨a, cap, rfl, hat, -⟩ := h.at
  obtain ⟨al, cl, rfl, hatl⟩ := own_lst h1
  obtain ⟨W, hW, HB, X, Z, hWs⟩ := boxF1 w n a xs.length cap
  have H := Lib.hid (hat.keep HB.out (Nat.le_refl _))
  have HL := Lib.hid (hatl.keep HB.out (Nat.le_refl _))
  have HW := Lib.hid hW
  have hz0 : w.heap.size + 1 + 1 ≤ W.heap.size := by omega
  have WF := Lib.hid hwf
  clear h h1 hat hatl hW hWs
  obtain ⟨lt, x0, x1⟩ := X.out
  cases hf : frB n xs
  · have F := Lib.hid hf
    have C := Lib.hid (qf_bad (show qfK n xs ls = false by rw [qfK, hf]; rfl))
    clear hf
    go_enter Try.func33, Try.ntmps33
    go_wp2_with fail
    rw [← HW.out]
    refine (implIsFrame_any n xs _ _ _ _ hl H.out).mono ?_
    rw [F.out]
    rintro e w1 ⟨rfl, hb⟩
    have T1 := Lib.hid hb
    clear hb lt x0 x1
    obtain ⟨lt2, z0, z1, z2, z3⟩ := Z.out.keep T1.out
    go_wp2
    exact bodyPost_ret (v := .tuple #[.agg #[.int .i64 0, .slice none 0 0], .int .i64 1]) (by simp [results, Try.results33, go_sem, z0, z1]) rfl ⟨RF.bad C.out.1 (by rw [C.out.2]; rfl) C.out.2, ((HB.out.trans (T1.out.mono HB.out.size)).setCell (by show _ ≤ _; simp) _).setCell (by show _ ≤ _; simp) _⟩
  · cases hk : cgK n xs ls
    · have F := Lib.hid hf
      have G := Lib.hid hk
      have C := Lib.hid (qf_bad (show qfK n xs ls = false by rw [qfK, hf, hk]; rfl))
      clear hf hk
      go_enter Try.func33, Try.ntmps33
      go_wp2_with fail
      rw [← HW.out]
      refine (implIsFrame_any n xs _ _ _ _ hl H.out).mono ?_
      rw [F.out]
      rintro e w1 ⟨rfl, hb⟩
      have T1 := Lib.hid hb
      clear hb lt x0 x1
      obtain ⟨lt, x0, x1⟩ := X.out.keep T1.out
      go_wp2_with fail
      refine (isCongruence_any n xs ls _ _ _ _ _ F.out hll WF.out (H.out.keep T1.out (Nat.le_refl _)) (HL.out.keep T1.out (Nat.le_refl _))).mono ?_
      rw [G.out]
      rintro e w2 ⟨rfl, hb⟩
      have T2 := Lib.hid (T1.out.trans (hb.mono T1.out.size))
      clear hb lt x0 x1
      obtain ⟨lt2, z0, z1, z2, z3⟩ := Z.out.keep T2.out
      go_wp2
      exact bodyPost_ret (v := .tuple #[.agg #[.int .i64 0, .slice none 0 0], .int .i64 1]) (by simp [results, Try.results33, go_sem, z0, z1]) rfl ⟨RF.bad C.out.1 (by rw [C.out.2]; rfl) C.out.2, ((HB.out.trans (T2.out.mono HB.out.size)).setCell (by show _ ≤ _; simp) _).setCell (by show _ ≤ _; simp) _⟩
    · have F := Lib.hid hf
      have G := Lib.hid hk
      have C := Lib.hid (qf_ok (show qfK n xs ls = true by rw [qfK, hf, hk]; rfl))
      have E := Lib.hid (qf_of hf hk)
      have hne := E.out.1
      clear hf hk
      subst hne
      go_enter Try.func33, Try.ntmps33
      go_wp2_with fail
      rw [← HW.out]
      refine (implIsFrame_any _ xs _ _ _ _ hl H.out).mono ?_
      rw [F.out]
      rintro e w1 ⟨rfl, hb⟩
      have T1 := Lib.hid hb
      clear hb lt x0 x1
      obtain ⟨lt, x0, x1⟩ := X.out.keep T1.out
      go_wp2_with fail
      refine (isCongruence_any _ xs ls _ _ _ _ _ F.out hll WF.out (H.out.keep T1.out (Nat.le_refl _)) (HL.out.keep T1.out (Nat.le_refl _))).mono ?_
      rw [G.out]
      rintro e w2 ⟨rfl, hb⟩
      have T2 := Lib.hid (T1.out.trans (hb.mono T1.out.size))
      clear hb lt x0 x1
      obtain ⟨lt, x0, x1⟩ := X.out.keep T2.out
      have hs2 := T2.out.size
      go_wp2_with fail
      clear lt x0 x1
      refine (fquo_l (cs := ls) (xs := xs) (m := qfM ls) E.out.2.1 _ _ _ _ _ E.out.2.2.2.2.1 E.out.2.2.1 E.out.2.2.2.1 (H.out.keep T2.out (Nat.le_refl _)) (HL.out.keep T2.out (Nat.le_refl _))).mono ?_
      rw [← C.out.2]
      rintro e w3 ⟨v3, rfl, ho, hb⟩
      obtain ⟨a3, k3, rfl⟩ := ho.form
      have T3 := Lib.hid (T2.out.trans (hb.mono T2.out.size))
      have O3 := Lib.hid ho
      have NL := Lib.hid (show (qfM ls : Int) = ((qfL (xs.length : Int) xs ls).length : Nat) by rw [C.out.2, tab_len])
      clear hb ho
      obtain ⟨lt2, z0, z1, z2, z3⟩ := Z.out.keep T3.out
      go_wp2
      exact bodyPost_ret (v := .tuple #[.agg #[.int .i64 (qfM ls), .slice a3 (qfL (xs.length : Int) xs ls).length k3], .int .i64 0]) (by simp [results, Try.results33, go_sem, z0, z1]) rfl ⟨RF.good C.out.1 NL.out.symm rfl (O3.out.out2 (by omega)) (by omega), ((HB.out.trans (T3.out.mono HB.out.size)).setCell (by show _ ≤ _; simp) _).setCell (by show _ ≤ _; simp) _⟩

end Go.Proofs.Ytecjmibnoldpgaa
