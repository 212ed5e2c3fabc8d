/- 3 texts in one: RdV, RdP, RdI. -/
import Derived.Test.YtomldealpmohhaaJn24
/- Contracts of ReducedModel of the program. Conditions: those in the theorems. -/
namespace Go.Proofs.Ytomldealpmohhaa
open Go.RowKit

def rdS (xs : List Int) (k : Nat) : List Int := memTo (nth (rcL xs) k).toNat xs.length
noncomputable def rdC (n : Int) (xs ys : List Int) (w : Int) : Int := if isM n xs ys then (if wlB n w then 0 else 2) else 1
noncomputable def rdL (n : Int) (xs ys : List Int) (w : Int) : List Int := if isM n xs ys && wlB n w then qmL (rdS xs w.toNat).length (arV xs (rdS xs w.toNat)) (mvV ys (rdS xs w.toNat)) else []
noncomputable def rdV (n : Int) (xs ys : List Int) (w : Int) : List Int := if isM n xs ys && wlB n w then qmV (rdS xs w.toNat).length (arV xs (rdS xs w.toNat)) (mvV ys (rdS xs w.toNat)) else []
noncomputable def rdA (n : Int) (xs ys : List Int) (w : Int) : Int := if isM n xs ys && wlB n w then nth (cLs (rdS xs w.toNat).length (arV xs (rdS xs w.toNat)) (mvV ys (rdS xs w.toNat)) 16) (memTo (nth (rcL xs) w.toNat).toNat w.toNat).length else 0
theorem rd_bad {n : Int} {xs ys : List Int} {w : Int} (h : isM n xs ys = false) : rdC n xs ys w = 1 ∧ rdL n xs ys w = [] ∧ rdV n xs ys w = [] ∧ rdA n xs ys w = 0 := by
  rw [rdC, rdL, rdV, rdA, h]; exact ⟨rfl, rfl, rfl, rfl⟩
theorem rd_out {n : Int} {xs ys : List Int} {w : Int} (h : isM n xs ys = true) (h2 : wlB n w = false) : rdC n xs ys w = 2 ∧ rdL n xs ys w = [] ∧ rdV n xs ys w = [] ∧ rdA n xs ys w = 0 := by
  rw [rdC, rdL, rdV, rdA, h, h2]; exact ⟨rfl, rfl, rfl, rfl⟩
theorem rd_ok {n : Int} {xs ys : List Int} {k : Nat} (h : isM n xs ys = true) (h2 : wlB n k = true) : rdC n xs ys k = 0 ∧ rdL n xs ys k = qmL (rdS xs k).length (arV xs (rdS xs k)) (mvV ys (rdS xs k)) ∧ rdV n xs ys k = qmV (rdS xs k).length (arV xs (rdS xs k)) (mvV ys (rdS xs k)) ∧ rdA n xs ys k = nth (cLs (rdS xs k).length (arV xs (rdS xs k)) (mvV ys (rdS xs k)) 16) (memTo (nth (rcL xs) k).toNat k).length := by
  rw [rdC, rdL, rdV, rdA, h, h2]; exact ⟨rfl, rfl, rfl, rfl⟩
theorem ReducedModel_len (n : Int) (xs ys : List Int) (w : Int) : (rdL n xs ys w).length ≤ 1048576 ∧ (rdV n xs ys w).length ≤ 1048576 := by
  rw [rdL, rdV]
  split
  · exact QuotientModel_len _ _ _
  · simp

theorem wlB_at' {n : Nat} {x : Int} (h : wlB n x = true) : ∃ k : Nat, x = k ∧ k < n := by
  unfold wlB at h
  simp at h
  exact ⟨x.toNat, by omega, by omega⟩

/-- What the part on the worlds that are reached is. -/
structure Rd (xs ys : List Int) (k r : Nat) (pX pY : List Int) : Prop where
  hr : nth (rcL xs) k = (r : Int)
  r30 : r < 1073741824
  rin : InMk xs.length (r : Int)
  hX : pX = arV xs (rdS xs k)
  hY : pY = mvV ys (rdS xs k)
  len : pX.length = (rdS xs k).length
  x8 : pX.length ≤ 8
  y6 : pY.length = 6
  is : isM pX.length pX pY = true
  mem : memTo r 30 = rdS xs k
  at1 : (memTo r k).length < pX.length
  at2 : nth (rdS xs k) (memTo r k).length = (k : Int)
  at3 : ∀ j, j < (memTo r k).length → nth (rdS xs k) j ≠ (k : Int)
theorem Rd.of {n : Int} {xs ys : List Int} {k : Nat} (h : isM n xs ys = true) (hk : k < xs.length) : ∃ r pX pY, Rd xs ys k r pX pY ∧ pmC n xs ys (nth (rcL xs) k) = 0 ∧ pmL n xs ys (nth (rcL xs) k) = pX ∧ pmV n xs ys (nth (rcL xs) k) = pY := by
  obtain ⟨e1, e2, e3, e4⟩ := isM_rel h
  obtain ⟨-, -, -, -, y6, -⟩ := isM_ok h
  obtain ⟨c1, c2⟩ := rc_T (by omega) e3
  obtain ⟨r, hr⟩ := Int.eq_ofNat_of_zero_le (c1 k).1
  have hin := c1 k
  have hbd := hin.bd (by omega)
  have hnat := hin.nat
  rw [hr] at hin hbd hnat
  rw [Int.toNat_natCast] at hnat
  have hC : pmC n xs ys (nth (rcL xs) k) = 0 := pmC_0 h (by rw [e1]; exact (mskB_InN (by omega) _).2 (c1 k))
  have hP := pm_ok hC
  have hl : (rdS xs k).length ≤ 8 := Nat.le_trans (memTo_len _ _) e2
  have hX : (arV xs (rdS xs k)).length = (rdS xs k).length := tab_len _ _
  have hm : memTo r 30 = rdS xs k := by
    rw [rdS, hr, Int.toNat_natCast]
    exact memTo_high hnat 30 (by omega)
  have hb : bitN r k = true := by
    have q := (c2 k k hk).2 (.inl rfl)
    rw [hr, T, Int.toNat_natCast] at q
    unfold bitN
    rw [← Nat.testBit_eq_decide_div_mod_eq]
    exact q
  obtain ⟨m1, m2, m3⟩ := mem_at hb (by omega)
  rw [hm] at m1 m2 m3
  refine ⟨r, _, _, ⟨hr, by omega, hin, rfl, rfl, hX, by omega, by rw [mvV_len, y6], by rw [hX]; exact part_is hl y6, hm, by rw [hX]; exact m1, m2, m3⟩, hC, hP.1, hP.2⟩

theorem contestL_any (xs ys : List Int) (a2 : Option Addr) (c2 : Nat) (b2 : Option Addr) (d2 : Nat) (w2 : World) (hM : isM xs.length xs ys = true) (hs1 : At w2 a2 xs.length xs) (hs2 : At w2 b2 ys.length ys) :
    Calls Try.prog 72 #[.agg #[.int .i64 xs.length, .slice a2 xs.length c2, .slice b2 ys.length d2]] w2 fun e w3 => ∃ vC, e = .returned vC ∧ Calls Try.prog 73 #[vC] w3 (fun e w' => ∃ a c, e = .returned (.slice a xs.length c) ∧ At w' a xs.length (cLs xs.length xs ys 16) ∧ (∀ p, a = some p → w2.heap.size ≤ p.block) ∧ Below w3.heap.size w3 w') ∧ Below w2.heap.size w2 w3 := by
  have SM := isM_sm hM
  obtain ⟨-, -, h8, -, y6, -⟩ := isM_ok hM
  refine (contestIn_any xs.length xs ys _ _ _ _ _ SM rfl y6 hs1 hs2).mono ?_
  rintro e w3 ⟨K, vR, us, rfl, hr, hst, hne, hb⟩
  obtain ⟨aR, cR, rfl, hg⟩ := hr.form
  obtain ⟨g, rfl, hg1, hg2, hgc⟩ := hg.resolve_left (by omega)
  obtain ⟨aj, cj, euj, hoj⟩ := hr.2 K (by omega)
  have UJ := (hgc K (by omega)).trans euj
  have hK := stop_le SM hne
  have E16 : cLs xs.length xs ys 16 = cLs xs.length xs ys K := cLs_far hst (by omega)
  obtain ⟨a', c', e', hat, -, -, hblk⟩ := hoj.at
  cases e'
  rw [cLs_len] at UJ hat
  refine ⟨_, rfl, ?_, hb⟩
  refine (last_any _ _ _ _ _ _ _ g K cR _ w3 (by omega) hg2 UJ).mono ?_
  rintro e w4 ⟨rfl, hb4⟩
  exact ⟨aj, cj, rfl, by rw [E16]; exact hat.keep hb4 (Nat.le_refl _), fun p hp => (hblk p hp).1, hb4⟩

end Go.Proofs.Ytomldealpmohhaa

/- Contract of ReducedModel of the model. Conditions: those in the theorems. -/
namespace Go.Proofs.Ytomldealpmohhaa
open Go.RowKit

set_option maxHeartbeats 8000000 in
set_option maxRecDepth 100000 in
theorem specReducedModel_v (n : Int) (xs ys : List Int) (w' : Int) (v : Value) (lo hi : Nat) (w : World) (hl : xs.length ≤ 1048576) (hm : ys.length ≤ 1048576) (h : InM w lo hi v n xs ys) :
    Calls Try.prog 27 #[v, .int .i64 w'] w fun e wE => ∃ v', e = .returned (.tuple #[v', .int .i64 (rdA n xs ys w'), .int .i64 (rdC n xs ys w')]) ∧ OwnM wE w.heap.size v' (rdL n xs ys w').length (rdL n xs ys w') (rdV n xs ys w') ∧ Below w.heap.size w wE := by
  obtain ⟨a, cap, b, d, e0, hat, hat', -⟩ := h.at
  subst e0
  obtain ⟨W, hW, HB, X, Z, hWs⟩ := boxM2 w n a xs.length cap b ys.length d
  have H := Lib.hid (hat.keep HB.out (Nat.le_refl _))
  have H' := Lib.hid (hat'.keep HB.out (Nat.le_refl _))
  have IS := Lib.hid (l06Is_any n xs ys a xs.length cap b ys.length d W hl hm H.out H'.out)
  have hz0 : w.heap.size + 1 + 1 ≤ W.heap.size := by omega
  have HW := Lib.hid hW
  obtain ⟨lt, x0, x1, x2⟩ := X.out
  clear h hat hat' hW hWs
  cases hf : isM n xs ys
  · obtain ⟨c1, l1, l2, a1⟩ := rd_bad (w := w') hf
    have F := Lib.hid hf
    have C := Lib.hid c1
    have L1 := Lib.hid l1
    have L2 := Lib.hid l2
    have A1 := Lib.hid a1
    clear hf c1 l1 l2 a1
    go_enter Try.func27, Try.ntmps27
    go_wp2_with fail
    rw [← HW.out]
    refine IS.out.mono ?_
    rw [F.out]
    rintro e w1 ⟨rfl, hb⟩
    have B1 := Lib.hid (HB.out.trans (hb.mono HB.out.size))
    obtain ⟨lt2, z0, z1, z2, z3, z4, z5⟩ := (Z.out.keep hb).all
    clear hb x0 x1 x2
    go_wp2
    refine bodyPost_ret (v := .tuple #[.agg #[.int .i64 0, .slice none 0 0, .slice none 0 0], .int .i64 0, .int .i64 1]) (by simp [results, Try.results27, go_sem, z0, z1, z2]) rfl ⟨_, by rw [C.out, A1.out], ?_, ((B1.out.setCell (by show _ ≤ _; simp) _).setCell (by show _ ≤ _; simp) _).setCell (by show _ ≤ _; simp) _⟩
    rw [L1.out, L2.out]
    exact ownM_nil _ _
  · obtain ⟨e1, e2, e3, e4⟩ := isM_rel hf
    have hn8 : 0 ≤ n ∧ n ≤ 30 := by omega
    cases hw : wlB n w'
    · obtain ⟨c1, l1, l2, a1⟩ := rd_out hf hw
      have F := Lib.hid hf
      have FW := Lib.hid hw
      have C := Lib.hid c1
      have L1 := Lib.hid l1
      have L2 := Lib.hid l2
      have A1 := Lib.hid a1
      clear hf hw c1 l1 l2 a1 e1 e2 e3 e4
      go_enter Try.func27, Try.ntmps27
      go_wp2_with fail
      rw [← HW.out]
      refine IS.out.mono ?_
      rw [F.out]
      rintro e w1 ⟨rfl, hb⟩
      have B1 := Lib.hid (HB.out.trans (hb.mono HB.out.size))
      have Z1 := Lib.hid (Z.out.keep hb)
      clear x0 x1 x2
      obtain ⟨lt, x0, x1, x2⟩ := X.out.keep hb
      clear hb
      go_wp2_with fail
      refine (l05World_any n w' _ _ _ _ hn8.1 hn8.2).mono ?_
      rw [FW.out]
      rintro e w2 ⟨rfl, hb⟩
      have B2 := Lib.hid (B1.out.trans (hb.mono B1.out.size))
      obtain ⟨lt3, z0, z1, z2, z3, z4, z5⟩ := (Z1.out.keep hb).all
      clear hb x0 x1 x2
      go_wp2
      refine bodyPost_ret (v := .tuple #[.agg #[.int .i64 0, .slice none 0 0, .slice none 0 0], .int .i64 0, .int .i64 2]) (by simp [results, Try.results27, go_sem, z0, z1, z2]) rfl ⟨_, by rw [C.out, A1.out], ?_, ((B2.out.setCell (by show _ ≤ _; simp) _).setCell (by show _ ≤ _; simp) _).setCell (by show _ ≤ _; simp) _⟩
      rw [L1.out, L2.out]
      exact ownM_nil _ _
    · subst e1
      obtain ⟨k, rfl, hk⟩ := wlB_at' hw
      obtain ⟨r, pX, pY, hrd, hC0, hPL, hPV⟩ := Rd.of hf hk
      obtain ⟨c1, l1, l2, a1⟩ := rd_ok hf hw
      rw [hrd.hr] at hC0 hPL hPV a1
      rw [← hrd.hX, ← hrd.hY, ← hrd.len] at l1 l2 a1
      rw [Int.toNat_natCast] at a1
      have RD := Lib.hid hrd
      have F := Lib.hid hf
      have FW := Lib.hid hw
      have C := Lib.hid c1
      have L1 := Lib.hid l1
      have L2 := Lib.hid l2
      have A1 := Lib.hid a1
      have C0 := Lib.hid hC0
      have PL := Lib.hid hPL
      have PV := Lib.hid hPV
      have HR := Lib.hid e3
      have hx30 : xs.length ≤ 30 := by omega
      have hp8 := hrd.x8
      have hat1 := hrd.at1
      have RV := Lib.hid (show rchV xs (one k) = (r : Int) by rw [rchV_one (by omega) e3 hk]; exact hrd.hr)
      obtain ⟨p, hp⟩ : ∃ p, p = (memTo r k).length := ⟨_, rfl⟩
      have ML := Lib.hid hrd.mem
      have NP := Lib.hid (show nth (memTo r 30) p = (k : Int) by rw [hp, hrd.mem]; exact hrd.at2)
      have NB := Lib.hid (show ∀ j, j < p → nth (memTo r 30) j ≠ (k : Int) by rw [hp, hrd.mem]; exact hrd.at3)
      have LL := Lib.hid (show (memTo r 30).length = pX.length by rw [hrd.mem, hrd.len])
      have hr30 := hrd.r30
      rw [← hp] at A1 hat1
      have ICO := Lib.hid (q_cq pX pY)
      have hn8' : (0 : Int) ≤ (xs.length : Int) ∧ (xs.length : Int) ≤ 30 := hn8
      clear hf hw c1 l1 l2 a1 hC0 hPL hPV e3 e4 hrd hp hn8
      go_enter Try.func27, Try.ntmps27
      go_wp2_with fail
      rw [← HW.out]
      refine IS.out.mono ?_
      rw [F.out]
      rintro e w1 ⟨rfl, hb⟩
      have T1 := Lib.hid hb
      clear hb x0 x1 x2
      obtain ⟨lt, x0, x1, x2⟩ := X.out.keep T1.out
      go_wp2_with fail
      refine (l05World_any _ k _ _ _ _ hn8'.1 hn8'.2).mono ?_
      rw [FW.out]
      rintro e w2 ⟨rfl, hb⟩
      have T2 := Lib.hid (T1.out.trans (hb.mono T1.out.size))
      clear hb x0 x1 x2
      obtain ⟨lt, x0, x1, x2⟩ := X.out.keep T2.out
      have RC := Lib.hid (fun w' (hw : Below w2.heap.size w2 w') => l05Reach_any xs.length (one k) xs a xs.length cap w' e2 HR.out (InMk.one hx30 hk) (H.out.keep (T2.out.trans (hw.mono T2.out.size)) (Nat.le_refl _)))
      rw [RV.out] at RC
      have XX := Lib.hid (fun w' (hw : Below w2.heap.size w2 w') => X.out.keep (T2.out.trans (hw.mono T2.out.size)))
      go_wp2
      go_cut [7] (fun s wx => s = .int .i64 r ∧ Hid (Below w2.heap.size w2 wx))
      case first =>
        go_region_held3 (fun w' => w'.cell? ⟨w.heap.size, 0, none⟩ = some (.int .i64 xs.length) ∧ w'.cell? ⟨w.heap.size, 1, none⟩ = some (.slice a xs.length cap)) (first | exact ⟨r0, r1⟩ | exact ⟨x0, x1⟩ | go_keep) (first | (go_at_call 66; refine (l01One_any _ _ (by omega) (by omega)).mono ?_; rintro e w' ⟨rfl, rfl⟩) | (go_at_call 65; refine (RC.out _ (by first | exact (Below.refl _ _).drew | exact Below.refl _ _)).mono ?_; rintro e w7 ⟨rfl, hb⟩; have T7 := Lib.hid (show Below w2.heap.size w2 w7 from below_of_drew hb); clear hb; obtain ⟨lr, r0, r1, r2⟩ := XX.out _ T7.out))
        all_goals (try go_wp2_with fail)
        all_goals go_meet
        all_goals exact ⟨rfl, T7⟩
      case rest =>
        rename World => wr
        obtain ⟨rfl, T7⟩ := hcut
        have T3 := Lib.hid (T2.out.trans (T7.out.mono T2.out.size))
        clear x0 x1 x2
        obtain ⟨lt, x0, x1, x2⟩ := X.out.keep T3.out
        go_wp2_with fail
        clear x0 x1 x2
        refine (specPartOfModel_any xs.length r xs ys a cap b d wr hl hm (H.out.keep T3.out (Nat.le_refl _)) (H'.out.keep T3.out (Nat.le_refl _))).mono ?_
        rw [C0.out, PL.out, PV.out]
        rintro e w3 ⟨⟨v3, rfl, ho⟩, hb⟩
        have T4 := Lib.hid (T3.out.trans (hb.mono T3.out.size))
        obtain ⟨a3, c3, b3, d3, rfl, hs1, hs2, -⟩ := (ho.inM hb.size).at
        have A3 := Lib.hid hs1
        have A3' := Lib.hid hs2
        clear ho hb hs1 hs2
        obtain ⟨V, hV, hVb, hVm⟩ : ∃ V, V = w3.alloc (.cells #[.int .i64 pX.length, .slice a3 pX.length c3, .slice b3 pY.length d3] 34) ∧ Below w3.heap.size w3 V ∧ Bm V w3.heap.size pX.length a3 pX.length c3 b3 pY.length d3 := ⟨_, rfl, (alloc_keep _ _).1, Bm.new _ _ _ _ _ _ _ _ _⟩
        have HV := Lib.hid hV
        have VB := Lib.hid hVb
        have VM := Lib.hid hVm
        obtain ⟨ltv, y0, y1, y2⟩ := hVm
        clear hV hVb
        go_wp2_with fail
        rw [← HV.out]
        clear y0 y1 y2
        refine (l07Classes_any pX.length pX pY a3 c3 b3 d3 V RD.out.is (Mo.of RD.out.is (A3.out.keep VB.out (Nat.le_refl _)) (A3'.out.keep VB.out (Nat.le_refl _)))).mono ?_
        rintro e w4 ⟨v4, rfl, ho, hb⟩
        obtain ⟨ac, cc, e4, hac, -, -, hbk⟩ := ho.at
        rw [cLs_len] at e4 hac
        subst e4
        have V4 := Lib.hid hb
        have AC4 := Lib.hid hac
        clear hb hac ho
        go_wp2_with fail
        refine (l01List_any r hr30 _).mono ?_
        rintro e w5 ⟨v5, rfl, ho, hb⟩
        obtain ⟨al, kl, e5, hal, -, -, -⟩ := ho.at
        subst e5
        have V5 := Lib.hid (V4.out.trans (hb.mono V4.out.size))
        have AC := Lib.hid (AC4.out.keep hb (Nat.le_refl _))
        have AL := Lib.hid hal
        clear hb hal ho AC4
        go_wp2_with fail
        refine (l01Index_any (memTo r 30) k p al kl w5 (by rw [LL.out]; omega) (by rw [LL.out]; exact hat1) NP.out NB.out AL.out).mono ?_
        rintro e w6 ⟨rfl, rfl⟩
        have T5 := Lib.hid (T4.out.trans ((VB.out.trans (V5.out.mono VB.out.size)).mono T4.out.size))
        obtain ⟨lty, y0, y1, y2⟩ := VM.out.keep V5.out
        obtain ⟨cb, co, rfl, hcb, hcc⟩ := AC.out.2.resolve_left (by omega)
        have hcp := hcc p hat1
        have hbk := (hbk _ rfl).1
        clear hcc
        rw [← A1.out] at hcp
        have hpl : (p : Int) < (pX.length : Int) := by omega
        have MQ := Lib.hid (fun w' (hw : Below w5.heap.size w5 w') => l07Quotient_any (cLs pX.length pX pY 16) pX pY pX.length (qCt pX pY) a3 c3 b3 d3 (some ⟨cb, co, none⟩) cc w' ICO.out hp8 (by have := RD.out.y6; omega) (isM_rel RD.out.is).2.2.1 (A3.out.keep ((VB.out.trans (V5.out.mono VB.out.size)).trans (hw.mono (VB.out.trans (V5.out.mono VB.out.size)).size)) (Nat.le_refl _)) (A3'.out.keep ((VB.out.trans (V5.out.mono VB.out.size)).trans (hw.mono (VB.out.trans (V5.out.mono VB.out.size)).size)) (Nat.le_refl _)) (AC.out.keep hw (Nat.le_refl _)))
        have QO := Lib.hid (qm_ok RD.out.is)
        have L3 := Lib.hid (L1.out.trans QO.out.2.2.1)
        have L4 := Lib.hid (L2.out.trans QO.out.2.2.2)
        have NL := Lib.hid (show (qCt pX pY : Int) = ((rdL (xs.length : Int) xs ys k).length : Nat) by rw [L3.out, tab_len])
        have XX := Lib.hid (fun w' (hw : Below w5.heap.size w5 w') => And.intro (And.intro ((hw.cell (p := ⟨w3.heap.size, 0, none⟩) lty).trans y0) (And.intro ((hw.cell (p := ⟨w3.heap.size, 1, none⟩) lty).trans y1) (And.intro ((hw.cell (p := ⟨w3.heap.size, 2, none⟩) lty).trans y2) ((hw.cell (p := ⟨cb, co + p, none⟩) hcb).trans hcp)))) ((Z.out.keep (T5.out.trans (hw.mono T5.out.size))).all))
        have hs5 := T5.out.size
        have hs3 := T4.out.size
        have hvs := VB.out.size
        have hn1 : ¬ w3.heap.size = w.heap.size + 1 := by omega
        have hn2 : ¬ w.heap.size + 1 = w3.heap.size := by omega
        have hn3 : ¬ cb = w.heap.size + 1 := by simp at hbk; omega
        have hn4 : ¬ w.heap.size + 1 = cb := by simp at hbk; omega
        have hs35 : w3.heap.size ≤ w5.heap.size := (VB.out.trans (V5.out.mono VB.out.size)).size
        go_wp2
        go_region_held3 (fun w' => w'.cell? ⟨w3.heap.size, 0, none⟩ = some (.int .i64 pX.length) ∧ w'.cell? ⟨w3.heap.size, 1, none⟩ = some (.slice a3 pX.length c3) ∧ w'.cell? ⟨w3.heap.size, 2, none⟩ = some (.slice b3 pY.length d3) ∧ w'.cell? ⟨cb, co + p, none⟩ = some (.int .i64 (rdA xs.length xs ys k))) (first | exact ⟨r0, r1, r2, r3⟩ | exact ⟨y0, y1, y2, hcp⟩ | go_keep) (first | (go_at_call 69; refine (MQ.out _ (by first | exact (Below.refl _ _).drew | exact Below.refl _ _)).mono ?_; rw [← L3.out, ← L4.out]; rintro e w8 ⟨v7, rfl, ho, hb⟩; have T8 := Lib.hid (show Below w5.heap.size w5 w8 from below_of_drew hb); obtain ⟨a7, k7, b7, d7, rfl⟩ := ho.form; have O7 := Lib.hid (show OwnM w8 w5.heap.size _ _ _ _ from ho); clear ho hb; obtain ⟨⟨r0, r1, r2, r3⟩, ⟨lz, u0, u1, u2, u3, u4, u5⟩⟩ := XX.out _ T8.out))
        all_goals
          have B4 := Lib.hid (HB.out.trans ((T5.out.trans (T8.out.mono T5.out.size)).mono HB.out.size))
          go_wp2
          refine bodyPost_ret (v := .tuple #[.agg #[.int .i64 (qCt pX pY), .slice a7 (rdL (xs.length : Int) xs ys k).length k7, .slice b7 (rdV (xs.length : Int) xs ys k).length d7], .int .i64 (rdA xs.length xs ys k), .int .i64 0]) (by simp [results, Try.results27, go_sem, u0, u1, u2]) rfl ⟨_, by rw [C.out], ?_, ((B4.out.setCell (by show _ ≤ _; simp) _).setCell (by show _ ≤ _; simp) _).setCell (by show _ ≤ _; simp) _⟩
          rw [← NL.out]
          exact (O7.out.out3 (by omega)).mono (by omega)

end Go.Proofs.Ytomldealpmohhaa

/- Contract of ReducedModel of the program. Conditions: those in the theorems. -/
namespace Go.Proofs.Ytomldealpmohhaa
open Go.RowKit

set_option maxHeartbeats 8000000 in
set_option maxRecDepth 100000 in
theorem implReducedModel_v (n : Int) (xs ys : List Int) (w' : Int) (v : Value) (lo hi : Nat) (w : World) (hl : xs.length ≤ 1048576) (hm : ys.length ≤ 1048576) (h : InM w lo hi v n xs ys) :
    Calls Try.prog 28 #[v, .int .i64 w'] w fun e wE => ∃ v', e = .returned (.tuple #[v', .int .i64 (rdA n xs ys w'), .int .i64 (rdC n xs ys w')]) ∧ OwnM wE w.heap.size v' (rdL n xs ys w').length (rdL n xs ys w') (rdV n xs ys w') ∧ Below w.heap.size w wE := by
  obtain ⟨a, cap, b, d, e0, hat, hat', -⟩ := h.at
  subst e0
  obtain ⟨W, hW, HB, X, Z, hWs⟩ := boxM2 w n a xs.length cap b ys.length d
  have H := Lib.hid (hat.keep HB.out (Nat.le_refl _))
  have H' := Lib.hid (hat'.keep HB.out (Nat.le_refl _))
  have IS := Lib.hid (implIsModel_any n xs ys a xs.length cap b ys.length d W hl hm H.out H'.out)
  have hz0 : w.heap.size + 1 + 1 ≤ W.heap.size := by omega
  have HW := Lib.hid hW
  obtain ⟨lt, x0, x1, x2⟩ := X.out
  clear h hat hat' hW hWs
  cases hf : isM n xs ys
  · obtain ⟨c1, l1, l2, a1⟩ := rd_bad (w := w') hf
    have F := Lib.hid hf
    have C := Lib.hid c1
    have L1 := Lib.hid l1
    have L2 := Lib.hid l2
    have A1 := Lib.hid a1
    clear hf c1 l1 l2 a1
    go_enter Try.func28, Try.ntmps28
    go_wp2_with fail
    rw [← HW.out]
    refine IS.out.mono ?_
    rw [F.out]
    rintro e w1 ⟨rfl, hb⟩
    have B1 := Lib.hid (HB.out.trans (hb.mono HB.out.size))
    obtain ⟨lt2, z0, z1, z2, z3, z4, z5⟩ := (Z.out.keep hb).all
    clear hb x0 x1 x2
    go_wp2
    refine bodyPost_ret (v := .tuple #[.agg #[.int .i64 0, .slice none 0 0, .slice none 0 0], .int .i64 0, .int .i64 1]) (by simp [results, Try.results28, go_sem, z0, z1, z2]) rfl ⟨_, by rw [C.out, A1.out], ?_, ((B1.out.setCell (by show _ ≤ _; simp) _).setCell (by show _ ≤ _; simp) _).setCell (by show _ ≤ _; simp) _⟩
    rw [L1.out, L2.out]
    exact ownM_nil _ _
  · obtain ⟨e1, e2, e3, e4⟩ := isM_rel hf
    have hn8 : 0 ≤ n ∧ n ≤ 30 := by omega
    cases hw : wlB n w'
    · obtain ⟨c1, l1, l2, a1⟩ := rd_out hf hw
      have F := Lib.hid hf
      have FW := Lib.hid hw
      have C := Lib.hid c1
      have L1 := Lib.hid l1
      have L2 := Lib.hid l2
      have A1 := Lib.hid a1
      clear hf hw c1 l1 l2 a1 e1 e2 e3 e4 hn8
      go_enter Try.func28, Try.ntmps28
      go_wp2_with fail
      rw [← HW.out]
      refine IS.out.mono ?_
      rw [F.out]
      rintro e w1 ⟨rfl, hb⟩
      have B1 := Lib.hid (HB.out.trans (hb.mono HB.out.size))
      obtain ⟨lt2, z0, z1, z2, z3, z4, z5⟩ := (Z.out.keep hb).all
      clear x0 x1 x2
      obtain ⟨lt, x0, x1, x2⟩ := X.out.keep hb
      clear hb
      go_wp2_with (go_at_call 53; refine (isBelow_any _ _ _).mono ?_; rw [FW.out]; rintro e w' ⟨rfl, rfl⟩)
      refine bodyPost_ret (v := .tuple #[.agg #[.int .i64 0, .slice none 0 0, .slice none 0 0], .int .i64 0, .int .i64 2]) (by simp [results, Try.results28, go_sem, z0, z1, z2]) rfl ⟨_, by rw [C.out, A1.out], ?_, ((B1.out.setCell (by show _ ≤ _; simp) _).setCell (by show _ ≤ _; simp) _).setCell (by show _ ≤ _; simp) _⟩
      rw [L1.out, L2.out]
      exact ownM_nil _ _
    · subst e1
      obtain ⟨k, rfl, hk⟩ := wlB_at' hw
      obtain ⟨r, pX, pY, hrd, hC0, hPL, hPV⟩ := Rd.of hf hk
      obtain ⟨c1, l1, l2, a1⟩ := rd_ok hf hw
      rw [hrd.hr] at hC0 hPL hPV a1
      rw [← hrd.hX, ← hrd.hY, ← hrd.len] at l1 l2 a1
      rw [Int.toNat_natCast] at a1
      have RD := Lib.hid hrd
      have F := Lib.hid hf
      have FW := Lib.hid hw
      have C := Lib.hid c1
      have L1 := Lib.hid l1
      have L2 := Lib.hid l2
      have A1 := Lib.hid a1
      have C0 := Lib.hid hC0
      have PL := Lib.hid hPL
      have PV := Lib.hid hPV
      have hx30 : xs.length ≤ 30 := by omega
      have hp8 := hrd.x8
      have hat1 := hrd.at1
      have hpq : (memTo r k).length < 30 := by omega
      obtain ⟨p, hp⟩ : ∃ p, p = (memTo r k).length := ⟨_, rfl⟩
      rw [← hp] at A1 hat1 hpq
      have AB := Lib.hid (and_below (r := r) (n := xs.length) (w := k) (by omega) hk hrd.rin)
      have PB := Lib.hid (show pop (r % 2 ^ k) = p by rw [hp, pop_below])
      have hr30 : r % 2 ^ k < 1073741824 := Nat.lt_of_le_of_lt (Nat.mod_le _ _) hrd.r30
      obtain ⟨q, hq⟩ : ∃ q, q = r % 2 ^ k := ⟨_, rfl⟩
      rw [← hq] at AB PB hr30
      have ICO := Lib.hid (q_cq pX pY)
      clear hf hw c1 l1 l2 a1 hC0 hPL hPV e3 e4 hn8 hrd hp hq
      go_enter Try.func28, Try.ntmps28
      go_wp2_with fail
      rw [← HW.out]
      refine IS.out.mono ?_
      rw [F.out]
      rintro e w1 ⟨rfl, hb⟩
      have T1 := Lib.hid hb
      clear hb x0 x1 x2
      obtain ⟨lt, x0, x1, x2⟩ := X.out.keep T1.out
      go_wp2_with (go_at_call 53; refine (isBelow_any _ _ _).mono ?_; rw [FW.out]; rintro e w' ⟨rfl, rfl⟩)
      clear x0 x1 x2
      refine (reach_any _ xs _ _ _ _ hx30 (H.out.keep T1.out (Nat.le_refl _))).mono ?_
      rintro e w2 ⟨v2, rfl, ho, hb⟩
      have T2 := Lib.hid (T1.out.trans (hb.mono T1.out.size))
      obtain ⟨a2, c2, e2', hat2, -, -, -⟩ := ho.at
      rw [rcL_len] at e2' hat2
      subst e2'
      obtain ⟨rb, ro, rfl, hrb, hrc⟩ := hat2.2.resolve_left (by omega)
      have hck := hrc k hk
      rw [RD.out.hr] at hck
      have hkl : (k : Int) < (xs.length : Int) := by omega
      clear ho hb hat2 hrc
      obtain ⟨lt, x0, x1, x2⟩ := X.out.keep T2.out
      go_wp2_with fail
      clear x0 x1 x2 hck
      refine (implPartOfModel_any xs.length r xs ys a cap b d w2 hl hm (H.out.keep T2.out (Nat.le_refl _)) (H'.out.keep T2.out (Nat.le_refl _))).mono ?_
      rw [C0.out, PL.out, PV.out]
      rintro e w3 ⟨⟨v3, rfl, ho⟩, hb⟩
      have T3 := Lib.hid (T2.out.trans (hb.mono T2.out.size))
      obtain ⟨a3, c3, b3, d3, rfl, hs1, hs2, -⟩ := (ho.inM hb.size).at
      have A3 := Lib.hid hs1
      have A3' := Lib.hid hs2
      clear ho hb hs1 hs2
      obtain ⟨V, hV, hVb, hVm⟩ : ∃ V, V = w3.alloc (.cells #[.int .i64 pX.length, .slice a3 pX.length c3, .slice b3 pY.length d3] 34) ∧ Below w3.heap.size w3 V ∧ Bm V w3.heap.size pX.length a3 pX.length c3 b3 pY.length d3 := ⟨_, rfl, (alloc_keep _ _).1, Bm.new _ _ _ _ _ _ _ _ _⟩
      have HV := Lib.hid hV
      have VB := Lib.hid hVb
      have VM := Lib.hid hVm
      obtain ⟨ltv, y0, y1, y2⟩ := hVm
      clear hV hVb
      go_wp2_with fail
      rw [← HV.out]
      clear y0 y1 y2
      refine (contestL_any pX pY a3 c3 b3 d3 V RD.out.is (A3.out.keep VB.out (Nat.le_refl _)) (A3'.out.keep VB.out (Nat.le_refl _))).mono ?_
      rintro e w4 ⟨vC, rfl, hla, hb⟩
      have V4 := Lib.hid hb
      have LA := Lib.hid hla
      clear hb hla
      go_wp2_with fail
      refine LA.out.mono ?_
      rintro e w5 ⟨ac, cc, rfl, hac, hbk, hb⟩
      have V5 := Lib.hid (V4.out.trans (hb.mono V4.out.size))
      have AC := Lib.hid hac
      clear hb hac
      go_wp2_with fail
      rw [show bits .and .i64 (r : Int) (wrap64 (wrap64 (2 ^ k) - 1)) = (q : Int) by have h := AB.out; unfold full one at h; simpa using h]
      refine (countBits_any q hr30 _).mono ?_
      rw [PB.out]
      rintro e w6 ⟨rfl, rfl⟩
      have T5 := Lib.hid (T3.out.trans ((VB.out.trans (V5.out.mono VB.out.size)).mono T3.out.size))
      obtain ⟨lty, y0, y1, y2⟩ := VM.out.keep V5.out
      obtain ⟨cb, co, rfl, hcb, hcc⟩ := AC.out.2.resolve_left (by omega)
      have hcp := hcc p hat1
      have hbk := hbk _ rfl
      clear hcc
      rw [← A1.out] at hcp
      have hpl : (p : Int) < (pX.length : Int) := by omega
      have MQ := Lib.hid (fun w' (hw : Below w5.heap.size w5 w') => mquo_any (cLs pX.length pX pY 16) pX pY pX.length (qCt pX pY) a3 c3 b3 d3 (some ⟨cb, co, none⟩) cc w' ICO.out hp8 (by have := RD.out.y6; omega) (isM_rel RD.out.is).2.2.1 (A3.out.keep ((VB.out.trans (V5.out.mono VB.out.size)).trans (hw.mono (VB.out.trans (V5.out.mono VB.out.size)).size)) (Nat.le_refl _)) (A3'.out.keep ((VB.out.trans (V5.out.mono VB.out.size)).trans (hw.mono (VB.out.trans (V5.out.mono VB.out.size)).size)) (Nat.le_refl _)) (AC.out.keep hw (Nat.le_refl _)))
      have QO := Lib.hid (qm_ok RD.out.is)
      have L3 := Lib.hid (L1.out.trans QO.out.2.2.1)
      have L4 := Lib.hid (L2.out.trans QO.out.2.2.2)
      have NL := Lib.hid (show (qCt pX pY : Int) = ((rdL (xs.length : Int) xs ys k).length : Nat) by rw [L3.out, tab_len])
      have XX := Lib.hid (fun w' (hw : Below w5.heap.size w5 w') => And.intro (And.intro ((hw.cell (p := ⟨w3.heap.size, 0, none⟩) lty).trans y0) (And.intro ((hw.cell (p := ⟨w3.heap.size, 1, none⟩) lty).trans y1) (And.intro ((hw.cell (p := ⟨w3.heap.size, 2, none⟩) lty).trans y2) ((hw.cell (p := ⟨cb, co + p, none⟩) hcb).trans hcp)))) ((Z.out.keep (T5.out.trans (hw.mono T5.out.size))).all))
      have hs5 := T5.out.size
      have hs3 := T3.out.size
      have hvs := VB.out.size
      have hn1 : ¬ w3.heap.size = w.heap.size + 1 := by omega
      have hn2 : ¬ w.heap.size + 1 = w3.heap.size := by omega
      have hn3 : ¬ cb = w.heap.size + 1 := by simp at hbk; omega
      have hn4 : ¬ w.heap.size + 1 = cb := by simp at hbk; omega
      have hs35 : w3.heap.size ≤ w5.heap.size := (VB.out.trans (V5.out.mono VB.out.size)).size
      go_wp2
      go_region_held3 (fun w' => w'.cell? ⟨w3.heap.size, 0, none⟩ = some (.int .i64 pX.length) ∧ w'.cell? ⟨w3.heap.size, 1, none⟩ = some (.slice a3 pX.length c3) ∧ w'.cell? ⟨w3.heap.size, 2, none⟩ = some (.slice b3 pY.length d3) ∧ w'.cell? ⟨cb, co + p, none⟩ = some (.int .i64 (rdA xs.length xs ys k))) (first | exact ⟨r0, r1, r2, r3⟩ | exact ⟨y0, y1, y2, hcp⟩ | go_keep) (first | (go_at_call 75; refine (MQ.out _ (by first | exact (Below.refl _ _).drew | exact Below.refl _ _)).mono ?_; rw [← L3.out, ← L4.out]; rintro e w7 ⟨v7, rfl, ho, hb⟩; have T7 := Lib.hid (show Below w5.heap.size w5 w7 from below_of_drew hb); obtain ⟨a7, k7, b7, d7, rfl⟩ := ho.form; have O7 := Lib.hid (show OwnM w7 w5.heap.size _ _ _ _ from ho); clear ho hb; obtain ⟨⟨r0, r1, r2, r3⟩, ⟨lz, u0, u1, u2, u3, u4, u5⟩⟩ := XX.out _ T7.out))
      all_goals
        have B4 := Lib.hid (HB.out.trans ((T5.out.trans (T7.out.mono T5.out.size)).mono HB.out.size))
        go_wp2
        refine bodyPost_ret (v := .tuple #[.agg #[.int .i64 (qCt pX pY), .slice a7 (rdL (xs.length : Int) xs ys k).length k7, .slice b7 (rdV (xs.length : Int) xs ys k).length d7], .int .i64 (rdA xs.length xs ys k), .int .i64 0]) (by simp [results, Try.results28, go_sem, u0, u1, u2]) rfl ⟨_, by rw [C.out], ?_, ((B4.out.setCell (by show _ ≤ _; simp) _).setCell (by show _ ≤ _; simp) _).setCell (by show _ ≤ _; simp) _⟩
        rw [← NL.out]
        exact (O7.out.out3 (by omega)).mono (by omega)

end Go.Proofs.Ytomldealpmohhaa
