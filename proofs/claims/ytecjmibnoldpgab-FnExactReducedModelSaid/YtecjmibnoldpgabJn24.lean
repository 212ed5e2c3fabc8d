/- 2 texts in one: QuV, RdM. -/
import Derived.Test.YtecjmibnoldpgabQuS
import Derived.Test.YtecjmibnoldpgabCtV
import Derived.Test.YtecjmibnoldpgabPm
import Derived.Test.YtecjmibnoldpgabJn22
import Derived.Test.YtecjmibnoldpgabSubsMath
/- Contracts of QuotientModel of the model and of the program. Conditions: those in the theorems. -/
namespace Go.Proofs.Ytecjmibnoldpgab
open Go.RowKit

noncomputable def qCt (xs ys : List Int) : Nat := (stF (lF xs.length xs ys 16) xs.length).1
noncomputable def qmL (n : Int) (xs ys : List Int) : List Int := if isM n xs ys then tab (qCt xs ys) (qaF (cLs xs.length xs ys 16) xs xs.length xs.length) else []
noncomputable def qmV (n : Int) (xs ys : List Int) : List Int := if isM n xs ys then tab ys.length (fun v => coTo (cLs xs.length xs ys 16) (nth ys v) xs.length) else []
theorem q_cq (xs ys : List Int) : Cq (cLs xs.length xs ys 16) xs.length (qCt xs ys) := by
  rw [cLs_eq]
  exact cq_of _ _
theorem qm_bad {n : Int} {xs ys : List Int} (h : isM n xs ys = false) : bcC n xs ys = 1 ∧ qmL n xs ys = [] ∧ qmV n xs ys = [] := by
  rw [bcC, qmL, qmV, h]; exact ⟨rfl, rfl, rfl⟩
theorem qm_ok {n : Int} {xs ys : List Int} (h : isM n xs ys = true) : bcC n xs ys = 0 ∧ bcL n xs ys = cLs xs.length xs ys 16 ∧ qmL n xs ys = tab (qCt xs ys) (qaF (cLs xs.length xs ys 16) xs xs.length xs.length) ∧ qmV n xs ys = tab ys.length (fun v => coTo (cLs xs.length xs ys 16) (nth ys v) xs.length) := by
  rw [bcC, bcL, qmL, qmV, h]; exact ⟨rfl, rfl, rfl, rfl⟩
theorem QuotientModel_len (n : Int) (xs ys : List Int) : (qmL n xs ys).length ≤ 1048576 ∧ (qmV n xs ys).length ≤ 1048576 := by
  cases h : isM n xs ys
  · obtain ⟨-, e1, e2⟩ := qm_bad h
    rw [e1, e2]; simp
  · obtain ⟨-, -, e1, e2⟩ := qm_ok h
    obtain ⟨-, -, h8, -, h6, -⟩ := isM_ok h
    have := (q_cq xs ys).mn
    rw [e1, e2, tab_len, tab_len]
    omega

set_option maxHeartbeats 4000000 in
set_option maxRecDepth 100000 in
theorem implQuotientModel_any (n : Int) (xs ys : List Int) (v : Value) (lo hi : Nat) (w : World) (hl : xs.length ≤ 1048576) (hm : ys.length ≤ 1048576) (h : InM w lo hi v n xs ys) :
    Calls Try.prog 25 #[v] w fun e w' => RM w' w.heap.size (qmL n xs ys).length (bcC n xs ys) (qmL n xs ys) (qmV n xs ys) e ∧ Below w.heap.size w w' := by
  obtain ⟨a, cap, b, d, e0, hat, hat', -⟩ := h.at
  subst e0
  obtain ⟨W, hW, HB, X, Z, hWs⟩ := boxM2 w n a xs.length cap b ys.length d
  have H := Lib.hid (hat.keep HB.out (Nat.le_refl _))
  have H' := Lib.hid (hat'.keep HB.out (Nat.le_refl _))
  have CB := Lib.hid (implBisimulationClasses_v n xs ys _ lo hi W hl hm (h.below HB.out h.hi))
  have hz0 : w.heap.size + 1 + 1 ≤ W.heap.size := by omega
  have HW := Lib.hid hW
  obtain ⟨lt, x0, x1, x2⟩ := X.out
  clear h hat hat' hW hWs
  cases hf : isM n xs ys
  · obtain ⟨c1, l1, l2⟩ := qm_bad hf
    have C := Lib.hid c1
    have L1 := Lib.hid l1
    have L2 := Lib.hid l2
    clear hf c1 l1 l2
    go_enter Try.func25, Try.ntmps25
    go_wp2_with fail
    rw [← HW.out]
    refine CB.out.mono ?_
    rw [C.out]
    rintro e w1 ⟨v1, rfl, -, hb⟩
    have B1 := Lib.hid (HB.out.trans (hb.mono HB.out.size))
    obtain ⟨lt2, z0, z1, z2, z3, z4, z5⟩ := (Z.out.keep hb).all
    clear hb x0 x1 x2
    go_wp2
    exact bodyPost_ret (v := .tuple #[.agg #[.int .i64 0, .slice none 0 0, .slice none 0 0], .int .i64 1]) (by simp [results, Try.results25, go_sem, z0, z1, z2]) rfl ⟨RM.bad C.out.symm (by rw [L1.out]; rfl) L1.out L2.out, ((B1.out.setCell (by show _ ≤ _; simp) _).setCell (by show _ ≤ _; simp) _).setCell (by show _ ≤ _; simp) _⟩
  · obtain ⟨c1, cl, l1, l2⟩ := qm_ok hf
    obtain ⟨e1, e2, e3, e4⟩ := isM_rel hf
    obtain ⟨-, -, -, -, h6, -⟩ := isM_ok hf
    have Y6 := Lib.hid h6
    have C := Lib.hid c1
    have CL := Lib.hid cl
    have L1 := Lib.hid l1
    have L2 := Lib.hid l2
    have E3 := Lib.hid e3
    subst e1
    clear hf c1 cl l1 l2 e3 e4 h6
    go_enter Try.func25, Try.ntmps25
    go_wp2_with fail
    rw [← HW.out]
    refine CB.out.mono ?_
    rw [C.out, CL.out]
    rintro e w1 ⟨v1, rfl, ho, hb⟩
    have T1 := Lib.hid hb
    obtain ⟨a1, k1, e1, hat1, -, -, -⟩ := ho.at
    rw [cLs_len] at e1 hat1
    subst e1
    have A1 := Lib.hid hat1
    clear hb ho hat1 x0 x1 x2
    obtain ⟨lt, x0, x1, x2⟩ := X.out.keep T1.out
    go_wp2_with fail
    clear x0 x1 x2
    refine (mquo_any (cLs xs.length xs ys 16) xs ys xs.length (qCt xs ys) _ _ _ _ _ _ _ (q_cq xs ys) e2 (by have := Y6.out; omega) E3.out (H.out.keep T1.out (Nat.le_refl _)) (H'.out.keep T1.out (Nat.le_refl _)) A1.out).mono ?_
    rw [← L1.out, ← L2.out]
    rintro e w3 ⟨v3, rfl, ho, hb⟩
    obtain ⟨a3, k3, b3, d3, rfl⟩ := ho.form
    have B3 := Lib.hid (T1.out.trans (hb.mono T1.out.size))
    obtain ⟨lt2, z0, z1, z2, z3, z4, z5⟩ := (Z.out.keep B3.out).all
    have B4 := Lib.hid (HB.out.trans (B3.out.mono HB.out.size))
    have hs1 := T1.out.size
    have NL := Lib.hid (show (qCt xs ys : Int) = ((qmL (xs.length : Int) xs ys).length : Nat) by rw [L1.out, tab_len])
    have O3 := Lib.hid ho
    clear ho hb
    go_wp2
    exact bodyPost_ret (v := .tuple #[.agg #[.int .i64 (qCt xs ys), .slice a3 (qmL (xs.length : Int) xs ys).length k3, .slice b3 (qmV (xs.length : Int) xs ys).length d3], .int .i64 0]) (by simp [results, Try.results25, go_sem, z0, z1, z2]) rfl ⟨RM.good C.out NL.out.symm rfl rfl (O3.out.out3 (by omega)) (by omega), ((B4.out.setCell (by show _ ≤ _; simp) _).setCell (by show _ ≤ _; simp) _).setCell (by show _ ≤ _; simp) _⟩

set_option maxHeartbeats 8000000 in
set_option maxRecDepth 100000 in
theorem specQuotientModel_any (n : Int) (xs ys : List Int) (v : Value) (lo hi : Nat) (w : World) (hl : xs.length ≤ 1048576) (hm : ys.length ≤ 1048576) (h : InM w lo hi v n xs ys) :
    Calls Try.prog 24 #[v] w fun e w' => RM w' w.heap.size (qmL n xs ys).length (bcC n xs ys) (qmL n xs ys) (qmV n xs ys) e ∧ Below w.heap.size w w' := by
  obtain ⟨a, cap, b, d, e0, hat, hat', -⟩ := h.at
  subst e0
  obtain ⟨W, hW, HB, X, Z, hWs⟩ := boxM2 w n a xs.length cap b ys.length d
  have H := Lib.hid (hat.keep HB.out (Nat.le_refl _))
  have H' := Lib.hid (hat'.keep HB.out (Nat.le_refl _))
  have IS := Lib.hid (l06Is_any n xs ys a xs.length cap b ys.length d W hl hm H.out H'.out)
  have hz0 : w.heap.size + 1 + 1 ≤ W.heap.size := by omega
  have HW := Lib.hid hW
  obtain ⟨lt, x0, x1, x2⟩ := X.out
  clear h hat hat' hW hWs
  cases hf : isM n xs ys
  · obtain ⟨c1, l1, l2⟩ := qm_bad hf
    have F := Lib.hid hf
    have C := Lib.hid c1
    have L1 := Lib.hid l1
    have L2 := Lib.hid l2
    clear hf c1 l1 l2
    go_enter Try.func24, Try.ntmps24
    go_wp2_with fail
    rw [← HW.out]
    refine IS.out.mono ?_
    rw [F.out]
    rintro e w1 ⟨rfl, hb⟩
    have B1 := Lib.hid (HB.out.trans (hb.mono HB.out.size))
    obtain ⟨lt2, z0, z1, z2, z3, z4, z5⟩ := (Z.out.keep hb).all
    clear hb x0 x1 x2
    go_wp2
    exact bodyPost_ret (v := .tuple #[.agg #[.int .i64 0, .slice none 0 0, .slice none 0 0], .int .i64 1]) (by simp [results, Try.results24, go_sem, z0, z1, z2]) rfl ⟨RM.bad C.out.symm (by rw [L1.out]; rfl) L1.out L2.out, ((B1.out.setCell (by show _ ≤ _; simp) _).setCell (by show _ ≤ _; simp) _).setCell (by show _ ≤ _; simp) _⟩
  · obtain ⟨c1, cl, l1, l2⟩ := qm_ok hf
    obtain ⟨e1, e2, e3, e4⟩ := isM_rel hf
    obtain ⟨-, -, -, -, h6, -⟩ := isM_ok hf
    have Y6 := Lib.hid h6
    have F := Lib.hid hf
    have C := Lib.hid c1
    have L1 := Lib.hid l1
    have L2 := Lib.hid l2
    have E3 := Lib.hid e3
    subst e1
    clear hf c1 cl l1 l2 e3 e4 h6
    go_enter Try.func24, Try.ntmps24
    go_wp2_with fail
    rw [← HW.out]
    refine IS.out.mono ?_
    rw [F.out]
    rintro e w1 ⟨rfl, hb⟩
    have T1 := Lib.hid hb
    clear hb x0 x1 x2
    obtain ⟨lt, x0, x1, x2⟩ := X.out.keep T1.out
    obtain ⟨lt2, z0, z1, z2, z3, z4, z5⟩ := (Z.out.keep T1.out).all
    have CC := Lib.hid (fun w' (hw : Below w1.heap.size w1 w') => l07Classes_any xs.length xs ys a cap b d w' F.out (Mo.of F.out (H.out.keep (T1.out.trans (hw.mono T1.out.size)) (Nat.le_refl _)) (H'.out.keep (T1.out.trans (hw.mono T1.out.size)) (Nat.le_refl _))))
    have QQ := Lib.hid (fun w' ac cc (hw : Below w1.heap.size w1 w') (hc : At w' ac xs.length (cLs xs.length xs ys 16)) => l07Quotient_any (cLs xs.length xs ys 16) xs ys xs.length (qCt xs ys) a cap b d ac cc w' (q_cq xs ys) e2 (by have := Y6.out; omega) E3.out (H.out.keep (T1.out.trans (hw.mono T1.out.size)) (Nat.le_refl _)) (H'.out.keep (T1.out.trans (hw.mono T1.out.size)) (Nat.le_refl _)) hc)
    have NL := Lib.hid (show (qCt xs ys : Int) = ((qmL (xs.length : Int) xs ys).length : Nat) by rw [L1.out, tab_len])
    have XX := Lib.hid (fun w' (hw : Below w1.heap.size w1 w') => And.intro (X.out.keep (T1.out.trans (hw.mono T1.out.size))) ((Z.out.keep (T1.out.trans (hw.mono T1.out.size))).all))
    have hs1 := T1.out.size
    go_wp2
    go_region_held3 (fun w' => w'.cell? ⟨w.heap.size, 0, none⟩ = some (.int .i64 xs.length) ∧ w'.cell? ⟨w.heap.size, 1, none⟩ = some (.slice a xs.length cap) ∧ w'.cell? ⟨w.heap.size, 2, none⟩ = some (.slice b ys.length d)) (first | exact ⟨s0, s1, s2⟩ | exact ⟨r0, r1, r2⟩ | exact ⟨x0, x1, x2⟩ | go_keep) (first | (go_at_call 32; refine (CC.out _ (by first | exact (Below.refl _ _).drew | exact Below.refl _ _)).mono ?_; rintro e w2 ⟨v2, rfl, ho, hb⟩; have T2 := Lib.hid (show Below w1.heap.size w1 w2 from below_of_drew hb); obtain ⟨a2, k2, e2, hat2, -⟩ := ho.at; rw [cLs_len] at e2 hat2; subst e2; have A2 := Lib.hid hat2; clear hb ho hat2; obtain ⟨⟨lr, r0, r1, r2⟩, -⟩ := XX.out _ T2.out) | (go_at_call 52; refine (QQ.out _ _ _ T2.out A2.out).mono ?_; rw [← L1.out, ← L2.out]; rintro e w3 ⟨v3, rfl, ho, hb⟩; obtain ⟨a3, k3, b3, d3, rfl⟩ := ho.form; have T3 := Lib.hid (T2.out.trans (hb.mono T2.out.size)); have O3 := Lib.hid (ho.mono T2.out.size); clear ho hb; obtain ⟨⟨ls, s0, s1, s2⟩, ⟨lz, y0, y1, y2, y3, y4, y5⟩⟩ := XX.out _ T3.out))
    all_goals
      have B4 := Lib.hid (HB.out.trans ((T1.out.trans (T3.out.mono T1.out.size)).mono HB.out.size))
      go_wp2
      exact bodyPost_ret (v := .tuple #[.agg #[.int .i64 (qCt xs ys), .slice a3 (qmL (xs.length : Int) xs ys).length k3, .slice b3 (qmV (xs.length : Int) xs ys).length d3], .int .i64 0]) (by simp [results, Try.results24, go_sem, y0, y1, y2]) rfl ⟨RM.good C.out NL.out.symm rfl rfl (O3.out.out3 (by omega)) (by omega), ((B4.out.setCell (by show _ ≤ _; simp) _).setCell (by show _ ≤ _; simp) _).setCell (by show _ ≤ _; simp) _⟩

theorem specQuotientModel_v (n : Int) (xs ys : List Int) (v : Value) (lo hi : Nat) (w : World) (hl : xs.length ≤ 1048576) (hm : ys.length ≤ 1048576) (h : InM w lo hi v n xs ys) :
    Calls Try.prog 24 #[v] w fun e w' => ∃ v', e = .returned (.tuple #[v', .int .i64 (bcC n xs ys)]) ∧ OwnM w' w.heap.size v' (qmL n xs ys).length (qmL n xs ys) (qmV n xs ys) ∧ Below w.heap.size w w' :=
  (specQuotientModel_any n xs ys v lo hi w hl hm h).mono fun e w' ⟨⟨v, e1, o⟩, b⟩ => ⟨v, e1, o, b⟩
theorem implQuotientModel_v (n : Int) (xs ys : List Int) (v : Value) (lo hi : Nat) (w : World) (hl : xs.length ≤ 1048576) (hm : ys.length ≤ 1048576) (h : InM w lo hi v n xs ys) :
    Calls Try.prog 25 #[v] w fun e w' => ∃ v', e = .returned (.tuple #[v', .int .i64 (bcC n xs ys)]) ∧ OwnM w' w.heap.size v' (qmL n xs ys).length (qmL n xs ys) (qmV n xs ys) ∧ Below w.heap.size w w' :=
  (implQuotientModel_any n xs ys v lo hi w hl hm h).mono fun e w' ⟨⟨v, e1, o⟩, b⟩ => ⟨v, e1, o, b⟩

end Go.Proofs.Ytecjmibnoldpgab

/- Parts of models are models; the place of a world among the members of a mask. Plain mathematics, and the model's l01Index. Conditions: those in the theorems. -/
namespace Go.Proofs.Ytecjmibnoldpgab
open Go.RowKit

theorem sq_in {ls : List Int} (hl : ls.length ≤ 30) (x : Int) : ∀ k, k ≤ ls.length → InMk ls.length (sqTo ls x k)
  | 0, _ => InMk.zero _
  | k + 1, hk => by
    rw [sqTo]
    split
    · exact (sq_in hl x k (by omega)).or hl (InMk.one hl (by omega))
    · exact sq_in hl x k (by omega)
theorem part_is {xs ys ls : List Int} (hl : ls.length ≤ 8) (hy : ys.length = 6) : isM ls.length (arV xs ls) (mvV ys ls) = true := by
  have ha : (arV xs ls).length = ls.length := tab_len _ _
  have hm : (mvV ys ls).length = 6 := by rw [mvV_len, hy]
  have h1 : frB (ls.length : Int) (arV xs ls) = true := by
    refine frB_eq (by unfold inB; simp; omega) (by rw [ha]) ?_
    refine (mksTo_iff (by omega) _ _).2 fun i hi => ?_
    rw [ha] at hi
    rw [arV, tab_nth _ _ _ hi]
    exact sq_in (by omega) _ _ (Nat.le_refl _)
  refine isM_eq h1 (by rw [hm]; rfl) ?_
  refine (mksTo_iff (by omega) _ _).2 fun i hi => ?_
  rw [hm] at hi
  rw [mvV, tab_nth _ _ _ (by omega)]
  exact sq_in (by omega) _ _ (Nat.le_refl _)

theorem memTo_pre (m : Nat) {w : Nat} : ∀ k, w ≤ k → ∃ tl, memTo m k = memTo m w ++ tl
  | 0, h => ⟨[], by obtain rfl : w = 0 := by omega
                    simp⟩
  | k + 1, h => by
    by_cases e : w = k + 1
    · exact ⟨[], by rw [e]; simp⟩
    · obtain ⟨tl, ht⟩ := memTo_pre m (w := w) k (by omega)
      rw [memTo]
      split
      · exact ⟨tl ++ [((k : Nat) : Int)], by rw [ht, List.append_assoc]⟩
      · exact ⟨tl, ht⟩
theorem mem_at {m w : Nat} (hb : bitN m w = true) (hw : w < 30) : (memTo m w).length < (memTo m 30).length ∧ nth (memTo m 30) (memTo m w).length = (w : Int) ∧ ∀ j, j < (memTo m w).length → nth (memTo m 30) j ≠ (w : Int) := by
  obtain ⟨tl, ht⟩ := memTo_pre m (w := w + 1) 30 (by omega)
  have e : memTo m (w + 1) = memTo m w ++ [((w : Nat) : Int)] := by rw [memTo, hb, if_pos rfl]
  have hl : (memTo m (w + 1)).length = (memTo m w).length + 1 := by rw [e]; simp
  refine ⟨by rw [ht, List.length_append]; omega, ?_, fun j hj => ?_⟩
  · rw [ht, nth_left _ _ _ (by omega), e, nth_snoc _ _ _ rfl]
  · rw [ht, nth_left _ _ _ (by omega), e, nth_left _ _ _ hj]
    obtain ⟨p, hp, hpw⟩ := memTo_ok m w j hj
    omega
theorem memTo_mod (m w : Nat) : ∀ k, k ≤ w → memTo (m % 2 ^ w) k = memTo m k
  | 0, _ => rfl
  | k + 1, hk => by
    have e : bitN (m % 2 ^ w) k = bitN m k := by
      have h := Nat.testBit_mod_two_pow m w k
      rw [decide_eq_true (by omega), Bool.true_and] at h
      have t : ∀ q, bitN q k = q.testBit k := fun q => by
        unfold bitN
        rw [Nat.testBit_eq_decide_div_mod_eq]
      rw [t, t, h]
    rw [memTo, memTo, e, memTo_mod m w k (by omega)]
theorem pop_below (m w : Nat) : pop (m % 2 ^ w) = (memTo m w).length := by
  rw [← memTo_pop w _ (Nat.mod_lt _ (Nat.two_pow_pos w)), memTo_mod m w w (Nat.le_refl w)]
theorem and_below {r n w : Nat} (hn : n ≤ 30) (hw : w < n) (hr : InMk n (r : Int)) : bits .and .i64 (r : Int) (full w) = ((r % 2 ^ w : Nat) : Int) := by
  have h1 := (InMk.full (n := w) (by omega)).bd (by omega)
  have h2 := hr.bd hn
  have e : full (w : Int) = ((2 ^ w - 1 : Nat) : Int) := by
    rw [full_eq _ (by omega) (by omega), Int.toNat_natCast]
    have := Nat.two_pow_pos w
    have e : ((2 : Int) ^ w) = ((2 ^ w : Nat) : Int) := by simp
    rw [e]; omega
  rw [e] at h1 ⊢
  rw [iand _ _ (by omega) (by omega), Nat.and_two_pow_sub_one_eq_mod]

set_option maxHeartbeats 400000 in
theorem l01Index_any (xs : List Int) (n : Int) (p : Nat) (a : Option Addr) (cap : Nat) (w : World) (h30 : xs.length ≤ 4096) (hp : p < xs.length) (hn : nth xs p = n) (hb : ∀ j, j < p → nth xs j ≠ n) (h : At w a xs.length xs) :
    Calls Try.prog 59 #[.slice a xs.length cap, .int .i64 n] w fun e w' => e = .returned (.int .i64 p) ∧ w = w' := by
  obtain ⟨b, off, rfl, hbb, hc⟩ := h.2.resolve_left (by omega)
  have HC := Lib.hid hc
  have HB := Lib.hid hb
  obtain ⟨l, hl⟩ : ∃ l, l = xs.length := ⟨_, rfl⟩
  rw [← hl] at hp HC h30 ⊢
  clear hc hb h hl
  go_enter Try.func59, Try.ntmps59
  go_wp2
  go_loop [5] (fun i => ∃ k : Nat, k ≤ p ∧ i = .int .i64 k) (fun i => p - (intOf i).toNat)
  case atStart => exact ⟨0, Nat.zero_le _, rfl⟩
  case round =>
    obtain ⟨k, hk, rfl⟩ := hrel
    have hck := HC.out k (by omega)
    have hkl : (k : Int) < (l : Int) := by omega
    by_cases e : k = p
    · subst e
      rw [hn] at hck
      go_wp2
      go_ret
      exact ⟨rfl, rfl⟩
    · have hkp : k < p := by omega
      have hne := HB.out k hkp
      have hbe : (nth xs k == n) = false := by simp [hne]
      go_wp2
      go_round
      case rel => exact ⟨k + 1, hkp, by go_num⟩
      case measure => simp [intOf]; omega

end Go.Proofs.Ytecjmibnoldpgab
