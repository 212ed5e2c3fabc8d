/- What the program answers for a local consequence: the walk of isConsequence with its test. Conditions: those in the theorems. -/
import Derived.Test.YtnoaaklkbfbdbaaLcF
namespace Go.Proofs.Ytnoaaklkbfbdbaa
open Go.RowKit Go.Shelf

theorem okAll_pre {xss : List (List Nd)} {zs : List Nd} (h : okAll (xss ++ [zs]) (xss.length + 1) = true) : okAll xss xss.length = true ∧ isB zs zs.length = true := by
  refine ⟨List.all_eq_true.2 fun j hj => ?_, ?_⟩
  · have hj' := List.mem_range.1 hj
    have := okAll_at h (show j < xss.length + 1 by omega)
    rw [nthL_app, if_pos hj'] at this
    exact this
  · have := okAll_at h (show xss.length < xss.length + 1 by omega)
    rw [nthL_app, if_neg (by omega), if_pos rfl] at this
    exact this
theorem hi_pre {xss : List (List Nd)} {zs : List Nd} {n : Nat} (h : ∀ j, j < xss.length + 1 → (nthL (xss ++ [zs]) j).length ≤ n) : (∀ j, j < xss.length → (nthL xss j).length ≤ n) ∧ zs.length ≤ n := by
  refine ⟨fun j hj => ?_, ?_⟩
  · have := h j (by omega)
    rw [nthL_app, if_pos hj] at this
    exact this
  · have := h xss.length (by omega)
    rw [nthL_app, if_neg (by omega), if_pos rfl] at this
    exact this

attribute [local go_sem] Oper.semAt_some

set_option maxHeartbeats 4000000 in
set_option maxRecDepth 100000 in
theorem isCqL_any (n0 : Int) (xs : List Int) (xss : List (List Nd)) (zs : List Nd) (a0 : Option Addr) (c0 : Nat) (p : Option Addr) (c : Nat) (a1 : Option Addr) (c1 P A : Nat) (w : World) (hl0 : xs.length ≤ 1048576) (hl : xss.length ≤ 1048576) (hsz : szTo (xss ++ [zs]) (xss.length + 1) ≤ 4194304) (hi : ∀ j, j < xss.length + 1 → (nthL (xss ++ [zs]) j).length ≤ 1048576)
    (h0 : At w a0 xs.length xs) (h : AtNC w p xss.length xss) (hz : AtN w a1 zs.length zs) (hc1 : zs.length ≤ c1) (hc2 : c1 ≤ maxLen) (gp : w.cell? ⟨P, 0, none⟩ = some (.slice p xss.length c)) (ga : w.cell? ⟨A, 0, none⟩ = some (.slice a1 zs.length c1)) :
    Calls Try.prog 50 #[.agg #[.int .i64 n0, .slice a0 xs.length c0], .slice p xss.length c, .slice a1 zs.length c1, .func (.func 51) #[] #[.pointer (some ⟨P, 0, none⟩), .pointer (some ⟨A, 0, none⟩)]] w fun e w' => e = .returned (.tuple #[.bool (cqV (fun k => loB xs (vlL xs.length (vrM (xss ++ [zs]) (xss.length + 1)) k) xss xss.length zs) n0 xs xss zs), .int .i64 (cqC n0 xs xss zs)]) ∧ Below w.heap.size w w' := by
  obtain ⟨W, hW, HB, X, Y, R, HS⟩ := box4 w n0 a0 xs.length c0 (.func (.func 51) #[] #[.pointer (some ⟨P, 0, none⟩), .pointer (some ⟨A, 0, none⟩)])
  have H0z := Lib.hid h0
  have H0 := Lib.hid (h0.keep HB.out (Nat.le_refl _))
  have H := Lib.hid (h.keep HB.out (Nat.le_refl _))
  have HZz := Lib.hid hz
  have HZ := Lib.hid (hz.keep HB.out (Nat.le_refl _))
  have HW := Lib.hid hW
  have HI := Lib.hid hi
  have HIP := Lib.hid (hi_pre hi)
  have Hz := Lib.hid h
  have GPz := Lib.hid gp
  have GAz := Lib.hid ga
  have GP := Lib.hid ((HB.out.cell (p := ⟨P, 0, none⟩) (World.block_lt_of_cell? _ _ gp)).trans gp)
  have GA := Lib.hid ((HB.out.cell (p := ⟨A, 0, none⟩) (World.block_lt_of_cell? _ _ ga)).trans ga)
  have hPw : P < w.heap.size := World.block_lt_of_cell? _ _ gp
  have hAw : A < w.heap.size := World.block_lt_of_cell? _ _ ga
  have x2 := Y.out
  obtain ⟨lt0, x0, x1⟩ := X.out
  have HWS := HS.out
  have hres : Try.f50.results = #[.cell 8 4, .cell 9 2] := by kernel_rfl
  obtain ⟨V, hV, bV, cV, cV1, cV2⟩ : ∃ V : World, V = (W.alloc (.cells #[.slice a1 zs.length c1] 32)).alloc (.cells #[.slice p xss.length c, .slice (some ⟨w.heap.size + 1 + 1 + 1 + 1, 0, none⟩) 1 1] 41) ∧ Hid (Below W.heap.size W V) ∧ Hid (V.cell? ⟨w.heap.size + 1 + 1 + 1 + 1 + 1, 0, none⟩ = some (.slice p xss.length c)) ∧ Hid (V.cell? ⟨w.heap.size + 1 + 1 + 1 + 1 + 1, 1, none⟩ = some (.slice (some ⟨w.heap.size + 1 + 1 + 1 + 1, 0, none⟩) 1 1)) ∧ Hid (V.cell? ⟨w.heap.size + 1 + 1 + 1 + 1, 0, none⟩ = some (.slice a1 zs.length c1)) := by
    rw [← HWS]
    refine ⟨_, rfl, Lib.hid (((Below.refl W.heap.size W).alloc (Nat.le_refl _) _).alloc (by simp) _), Lib.hid (World.cell?_alloc_at _ _ _ _ (by simp)), Lib.hid (World.cell?_alloc_at _ _ _ _ (by simp)), Lib.hid ?_⟩
    exact ((alloc_keep _ _).1.cell (p := ⟨W.heap.size, 0, none⟩) (by simp)).trans (World.cell?_alloc_at _ _ _ _ rfl)
  have CC := Lib.hid (concatL_any xss zs p xss.length c (w.heap.size + 1 + 1 + 1 + 1 + 1) (w.heap.size + 1 + 1 + 1 + 1) a1 c1 V hl (H.out.keep bV.out (Nat.le_refl _)) (HZ.out.keep bV.out (Nat.le_refl _)) hc1 hc2 cV.out cV1.out cV2.out)
  have HV := Lib.hid hV
  obtain ⟨yss, hy⟩ : ∃ yss, yss = xss ++ [zs] := ⟨_, rfl⟩
  have YY := Lib.hid hy
  have CQ := Lib.hid (show cqC n0 xs xss zs = csC n0 xs (okAll yss (xss.length + 1)) (vrM yss (xss.length + 1)).length by rw [cqC, hy])
  rw [← hy] at hsz CC HI ⊢
  clear h0 h hz hW hi gp ga hV hy
  refine (callsIn_wide (n := 6)).1 ?_
  refine callsIn_of_wp_marks Try.func50 rfl trivial ?_ rfl
  simp only [Try.ntmps50, List.size_toArray, List.length_cons, List.length_nil, Nat.reduceAdd, Nat.reduceSub, Array.replicate_succ, Array.replicate_zero, List.push_toArray, List.append_toArray, List.nil_append, List.cons_append]
  gi_wp2
  refine ⟨trivial, ?_⟩
  rw [← HW.out, ← HV.out]
  refine (callsIn_wide.2 CC.out).mono ?_
  rintro e w1 ⟨a2, c2, rfl, hat, hb⟩
  have T1 := Lib.hid (bV.out.trans (hb.mono bV.out.size))
  have A2 := Lib.hid hat
  have CSX := Lib.hid (checkSearch_any n0 xs a0 c0 a2 (xss.length + 1) c2 (okAll yss (xss.length + 1)) (vrM yss (xss.length + 1)) w1 hl0 (fun h => (vrM_vs h).l6) (H0.out.keep T1.out (Nat.le_refl _)) (afL yss a2 _ c2 w1 (by omega) HI.out A2.out.nn) (fun hok => viL yss a2 _ c2 w1 (by omega) hsz (by omega) hok A2.out.nn))
  clear hb hat x0 x1 x2 lt0 CC cV cV1 cV2 bV HV
  obtain ⟨lt0, x0, x1⟩ := X.out.keep T1.out
  gi_wp2
  refine ⟨trivial, ?_⟩
  refine (callsIn_wide.2 CSX.out).mono ?_
  rintro e w2 ⟨rfl, hb⟩
  rw [← CQ.out]
  have T2 := Lib.hid (T1.out.trans (hb.mono T1.out.size))
  have A3 := Lib.hid (A2.out.keep hb (Nat.le_refl _))
  clear hb x0 x1 lt0 CSX A2
  by_cases hz : cqC n0 xs xss zs = 0
  · have HZC := Lib.hid hz
    obtain ⟨hf, hok, h16⟩ := csC_ok (CQ.out.symm.trans hz)
    rw [hz]
    have OKY := Lib.hid hok
    have VV := Lib.hid (vrM_vs hok)
    obtain ⟨hn0, h8, -, hr⟩ := frB_ok hf
    have REL := Lib.hid hr
    subst hn0
    obtain ⟨okx, okz⟩ := okAll_pre (YY.out ▸ hok)
    obtain ⟨b1, o1, ea1, hf1⟩ := (show ∃ b off, a1 = some ⟨b, off, none⟩ ∧ AtF w b off zs.length c1 (toFm zs) from AtN.fm' HZz.out hc1 hc2 okz)
    subst ea1
    have LC := Lib.hid (fun W' (hb : Below w.heap.size w W') ys a' c' (hm : Mo W' xs.length a0 a' xs ys) => loc1_any xs.length xs ys xss zs a0 c0 a' c' p xss.length c b1 o1 c1 P A W' hl HIP.out.1 okx okz HIP.out.2 hm (Hz.out.keep hb (Nat.le_refl _)) (hf1.keep hb (Nat.le_refl _)) ((hb.cell (p := ⟨P, 0, none⟩) hPw).trans GPz.out) ((hb.cell (p := ⟨A, 0, none⟩) hAw).trans GAz.out))
    have H8 := Lib.hid (show xs.length ≤ 8 from h8)
    have h8' : xs.length ≤ 8 := h8
    have h16' : xs.length * (vrM yss (xss.length + 1)).length ≤ 16 := by exact_mod_cast h16
    clear hf hok hr hz okx okz hf1
    obtain ⟨lt0, x0, x1⟩ := X.out.keep T2.out
    gi_wp2
    refine ⟨trivial, ?_⟩
    refine (callsIn_wide.2 (modelsOn_any xs.length a0 xs.length c0 a2 _ c2 (vrM yss (xss.length + 1)) w2 VV.out.l6 (viL yss a2 _ c2 w2 (by omega) hsz (by omega) OKY.out A3.out.nn))).mono ?_
    rintro e w3 ⟨bc, bf, bv, av, cv, rfl, hit, k1, k2, k3, k4, hb⟩
    have T3 := Lib.hid (T2.out.trans (hb.mono T2.out.size))
    have hs2 := T2.out.size
    have hs3 := hb.size
    have IT := Lib.hid hit
    have K1 := Lib.hid (show w.heap.size + 1 + 1 + 1 < bc by omega)
    have K2 := Lib.hid (show w.heap.size + 1 + 1 + 1 < bf by omega)
    have K3 := Lib.hid (show w.heap.size + 1 + 1 + 1 < bv by omega)
    have K4 := Lib.hid (show 0 < (vrM yss (xss.length + 1)).length → ∀ q, av = some q → ¬ (w.heap.size + 1 + 1 ≤ q.block ∧ q.block ≤ w.heap.size + 1 + 1 + 1) from fun h q hq e => by have := k4 h q hq; omega)
    have lt3 : w.heap.size + 1 + 1 + 1 < w3.heap.size := by omega
    have R3 := Lib.hid (R.out.keep T3.out)
    clear hit k1 k2 k3 k4 hb x0 x1 lt0 hs2 hs3
    gi_wp2
    have BW := Lib.hid (fun W' (hb : But (D2 w.heap.size) w3 W') => show Below w.heap.size w W' from HB.out.trans ((T3.out.mono HB.out.size).trans (hb.out (by omega) (fun k q => by have := q.1; omega))))
    have HY := Lib.hid (fun W' (hb : But (D2 w.heap.size) w3 W') => hb.cell (p := ⟨w.heap.size + 1, 0, none⟩) ((T3.out.cell (p := ⟨w.heap.size + 1, 0, none⟩) (by have := HS.out; show w.heap.size + 1 < W.heap.size; omega)).trans Y.out) (by show ¬ (w.heap.size + 1 + 1 ≤ w.heap.size + 1 ∧ _); omega))
    obtain ⟨vs, hvs⟩ : ∃ vs, vs = vrM yss (xss.length + 1) := ⟨_, rfl⟩
    rw [← hvs] at VV IT K4 h16'
    have VS := Lib.hid hvs
    obtain ⟨pr, hpr⟩ : ∃ pr : Nat → Bool, pr = fun k => loB xs (vlL xs.length vs k) xss xss.length zs := ⟨_, rfl⟩
    have PR := Lib.hid hpr
    have NQ := Lib.hid (show cqN xs xss zs = 2 ^ (xs.length * vs.length) by rw [cqN, ← YY.out, ← hvs])
    have RV := Lib.hid (fun b (hb : noB pr (2 ^ (xs.length * vs.length)) = b) => show Ending.returned (.tuple #[.bool b, .int .i64 0]) = .returned (.tuple #[.bool (cqV (fun k => loB xs (vlL xs.length (vrM yss (xss.length + 1)) k) xss xss.length zs) xs.length xs xss zs), .int .i64 (cqC xs.length xs xss zs)]) by
      rw [HZC.out, cqV, HZC.out, NQ.out, ← hvs, ← hpr, hb]; simp)
    clear hvs hpr
    refine wpIn_rangeFunc_X (F := Fence.wide) (n := 6) rfl (by decide) (gf := 84) (lb := #[.pointer (some ⟨bc, 0, none⟩), .pointer (some ⟨bf, 0, none⟩), .pointer (some ⟨bv, 0, none⟩)]) rfl trivial (enters_of Try.func84 (by kernel_rfl) rfl)
      (D := D2 w.heap.size) (Fx := FxM w3.heap.size xs.length a0 xs.length c0 vs) (N := 2 ^ (xs.length * vs.length))
      (modelsOn_seq _ bc bf bv xs.length a0 xs.length c0 av cv vs w3 (6 - 1) (by decide) VV.out h8' h16' IT.out (by have := K1.out; show ¬ (_ ∧ _); omega) (by have := K2.out; show ¬ (_ ∧ _); omega) (by have := K3.out; show ¬ (_ ∧ _); omega) K4.out) rfl (fun b hb => by have := hb.2; omega)
      (fun k W' => Rt2 W' (w.heap.size + 1 + 1) (.bool false) 0 ∧ (∀ j, j < k → pr j = false) ∧ But (D2 w.heap.size) w3 W')
      (fun c k W' => c = .ret ∧ Rt2 W' (w.heap.size + 1 + 1) (.bool false) 0 ∧ pr k = true ∧ But (D2 w.heap.size) w3 W')
      (fun k A B hi hb => ⟨hi.1.below hb lt3, hi.2.1, hi.2.2.then hb (Nat.le_refl _)⟩)
      (fun c k A B h hb => ⟨h.1, h.2.1.keep hb, h.2.2.1, h.2.2.2.then hb h.2.2.2.size⟩)
      (fun c k A l r o h hl hle => ⟨h.1, h.2.1.putO hl rfl, h.2.2.1, h.2.2.2.then (below_putObj A o hle) (Nat.le_refl _)⟩)
      ⟨R3.out, fun j hj => absurd hj (Nat.not_lt_zero _), But.refl _ _⟩
      (fun k x a' W' => ∃ B b, Bm W' B xs.length a0 xs.length c0 (some ⟨b, 0, none⟩) 6 6 ∧ At W' (some ⟨b, 0, none⟩) 6 (vlL xs.length vs k) ∧ a' = { tmps := #[.agg #[.int .i64 xs.length, .slice a0 xs.length c0], .slice p xss.length c, .slice (some ⟨b1, o1, none⟩) zs.length c1, .func (.func 51) #[] #[.pointer (some ⟨P, 0, none⟩), .pointer (some ⟨A, 0, none⟩)], .pointer (some ⟨w.heap.size, 0, none⟩), undef, undef, .pointer (some ⟨w.heap.size + 1, 0, none⟩), .pointer (some ⟨w.heap.size + 1 + 1, 0, none⟩), .pointer (some ⟨w.heap.size + 1 + 1 + 1, 0, none⟩), .slice a2 (xss.length + 1) c2, .int .i64 0, .pointer (some ⟨B, 0, none⟩), .slice p xss.length c, .slice (some ⟨b1, o1, none⟩) zs.length c1, .slice (some ⟨w.heap.size + 1 + 1 + 1 + 1, 0, none⟩) 1 1, .slice (some ⟨w.heap.size + 1 + 1 + 1 + 1 + 1, 0, none⟩) 2 2, .slice a2 (xss.length + 1) c2, .agg #[.int .i64 xs.length, .slice a0 xs.length c0], .slice a2 (xss.length + 1) c2, .int .i64 0, .int .i64 0, .bool false, undef, .agg #[.int .i64 xs.length, .slice a0 xs.length c0], .slice a2 (xss.length + 1) c2, .func (.func 84) #[] #[.pointer (some ⟨bc, 0, none⟩), .pointer (some ⟨bf, 0, none⟩), .pointer (some ⟨bv, 0, none⟩)], .agg #[.int .i64 xs.length, .slice a0 xs.length c0, .slice (some ⟨b, 0, none⟩) 6 6], undef, undef, undef], defers := [] })
      ?hax ?assign ?body ?done ?stop
    case hax =>
      rintro k x a' A l r o ⟨B, b, hbm, hat, rfl⟩ hl _
      exact ⟨B, b, bm_putO hbm hl, at_putO hat hl, rfl⟩
    case assign =>
      rintro l k x W' K hi hs ⟨b, rfl, hat, -, -⟩ hK
      gi_wp2
      exact hK _ _ (alloc_keep _ _).1 ⟨W'.heap.size, b, Bm.new _ _ _ _ _ _ _ _ _, hat.keep (alloc_keep _ _).1 (Nat.le_refl _), rfl⟩
    case body =>
      rintro l k x a' W' hl hs ⟨hr0, hz0, hB⟩ ⟨B, b, hbm, hat, rfl⟩ hk
      have MO := Lib.hid (show Mo W' xs.length a0 (some ⟨b, 0, none⟩) xs (vlL xs.length vs k) from ⟨rfl, h8', ⟨(mksTo_iff (by omega) _ _).2 fun i _ => REL.out i, vlL_mks _ (by omega) _ _⟩, vlL_len _ _ _, H0z.out.keep (BW.out _ hB) (Nat.le_refl _), by rw [vlL_len]; exact hat⟩)
      obtain ⟨q, hq⟩ : ∃ q : Bool, q = pr k := ⟨_, rfl⟩
      have QQ := Lib.hid hq
      have FA := Lib.hid (show Calls Try.prog 51 #[.agg #[.int .i64 xs.length, .slice a0 xs.length c0, .slice (some ⟨b, 0, none⟩) 6 6], .pointer (some ⟨P, 0, none⟩), .pointer (some ⟨A, 0, none⟩)] W' fun e w'' => e = .returned (.bool q) ∧ Below W'.heap.size W' w'' by
        have g := LC.out W' (BW.out _ hB) _ _ 6 MO.out
        rw [vlL_len] at g
        rw [hq, PR.out]
        exact g)
      have hy := HY.out _ hB
      obtain ⟨lb, m0, m1, m2⟩ := hbm
      have BB := Lib.hid hB
      have ZZ := Lib.hid hz0
      have RR := Lib.hid hr0
      clear hat hB hz0 hr0 hq hk
      cases q
      · gi_wp2_with (refine ⟨trivial, ?_⟩; gi_at_call 51; refine (CallsIn.inRound l (callsIn_wide.2 FA.out)).mono ?_; rintro e w4 ⟨rfl, hb4⟩; have B4 := Lib.hid hb4; clear hb4)
        have bt : But (D2 w.heap.size) W' w4 := But.below B4.out
        exact ⟨bt, RR.out.keep B4.out, fun j hj => by rcases Nat.lt_succ_iff_lt_or_eq.1 hj with e | e; exact ZZ.out j e; subst e; exact QQ.out.symm, BB.out.trans bt⟩
      · gi_wp2_with (refine ⟨trivial, ?_⟩; gi_at_call 51; refine (CallsIn.inRound l (callsIn_wide.2 FA.out)).mono ?_; rintro e w4 ⟨rfl, hb4⟩; have B4 := Lib.hid hb4; clear hb4 hy m0 m1 m2; have R4 := Lib.hid (RR.out.keep B4.out); obtain ⟨r0, r1, s0, s1⟩ := R4.out)
        have bt : But (D2 w.heap.size) W' ((w4.setCell ⟨w.heap.size + 1 + 1, 0, none⟩ (.bool false)).setCell ⟨w.heap.size + 1 + 1 + 1, 0, none⟩ (.int .i64 0)) := (But.below B4.out).trans (sets_but2 _ _ _ _)
        exact ⟨bt, rfl, R4.out.set, QQ.out.symm, BB.out.trans bt⟩
    case done =>
      rintro E W' hE ⟨hr0, hz0, hB⟩ hK
      have RW := Lib.hid hr0
      have BB := Lib.hid hB
      have FN := Lib.hid (RV.out true (noB_true hz0))
      have hE2 : ¬ D2 w.heap.size E := fun q => by have := q.2; omega
      have hK2 : ((W'.setCell ⟨w.heap.size + 1 + 1, 0, none⟩ (.bool true)).setCell ⟨w.heap.size + 1 + 1 + 1, 0, none⟩ (.int .i64 0)).heap[E]? = some (.deferred (some [])) :=
        ((sets_but2 W' w.heap.size (.bool true) (.int .i64 0)).block E (Array.getElem?_eq_some_iff.1 hK).1 hE2).trans hK
      obtain ⟨r0, r1, s0, s1⟩ := hr0
      have HK := Lib.hid hK2
      have hCE : w.heap.size ≤ E := by omega
      have hC3 : w.heap.size ≤ w3.heap.size := by omega
      clear hK hK2 hz0 hB
      gi_wp2
      refine ⟨by simp, .inl ⟨_, _, rfl, run_takeDeferred HK.out, ?_⟩⟩
      refine ⟨_, results_r2 hres ((RW.out.set (u := .bool true) (j' := 0)).putO HK.out rfl) rfl rfl, FN.out, ?_⟩
      exact HB.out.trans ((T3.out.mono HB.out.size).trans (((BB.out.trans (sets_but2 _ _ _ _)).out hC3 (fun k q => by have := q.1; omega)).trans (below_putObj _ _ hCE)))
    case stop =>
      rintro E c k W' hE hk ⟨rfl, hr0, hpk, hB⟩ hK
      have RW := Lib.hid hr0
      have BB := Lib.hid hB
      have FN := Lib.hid (RV.out false (noB_false hk hpk))
      have HK := Lib.hid hK
      have hCE : w.heap.size ≤ E := by clear hk; omega
      have hC3 : w.heap.size ≤ w3.heap.size := by clear hk; omega
      clear hK hB hr0 hk hpk
      gi_wp2
      refine ⟨by simp, .inl ⟨_, _, rfl, run_takeDeferred HK.out, ?_⟩⟩
      refine ⟨_, results_r2 hres (RW.out.putO HK.out rfl) rfl rfl, FN.out, ?_⟩
      exact HB.out.trans ((T3.out.mono HB.out.size).trans ((BB.out.out hC3 (fun k q => by have := q.1; omega)).trans (below_putObj _ _ hCE)))
  · obtain ⟨z, hzz⟩ : ∃ z, z = cqC n0 xs xss zs := ⟨_, rfl⟩
    have hz1 : (z == 0) = false := by rw [hzz]; simpa using hz
    have hz2 : (z != 0) = true := by rw [hzz]; simpa using hz
    have RV := Lib.hid (show Ending.returned (.tuple #[.bool false, .int .i64 z]) = .returned (.tuple #[.bool (cqV (fun k => loB xs (vlL xs.length (vrM yss (xss.length + 1)) k) xss xss.length zs) n0 xs xss zs), .int .i64 (cqC n0 xs xss zs)]) by rw [cqV, decide_eq_false hz, hzz]; rfl)
    rw [← hzz]
    clear hz hzz
    have RR := Lib.hid (R.out.keep T2.out)
    obtain ⟨r0, r1, q0, q1⟩ := RR.out
    have RS := Lib.hid (RR.out.set (u := .bool false) (j' := z))
    gi_wp2
    refine ⟨_, results_r2 hres RS.out rfl rfl, ?_, ?_⟩
    · exact RV.out
    · exact HB.out.trans (((T2.out.mono HB.out.size).setCell (by show w.heap.size ≤ w.heap.size + 1 + 1; omega) _).setCell (by show w.heap.size ≤ w.heap.size + 1 + 1 + 1; omega) _)

end Go.Proofs.Ytnoaaklkbfbdbaa
