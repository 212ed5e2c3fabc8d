/- The walk of the law FnTruthTables. Conditions: the two tables, and those in the theorems. -/
import Derived.Deep.CutRange
import Derived.Test.YtfkahkhmnchnjaaDoorTtM
import Derived.Test.YtfkahkhmnchnjaaDoorJn15
import Derived.Test.YtfkahkhmnchnjaaDoorCi
import Derived.Test.YtfkahkhmnchnjaaDoorJn17
namespace Go.Proofs.YtfkahkhmnchnjaaDoor
open Go.RowKit

theorem u64_small {k : Nat} (h : k < 6) : IntKind.u64.wrap (k : Int) = (k : Int) := by
  have hh : k = 0 ∨ k = 1 ∨ k = 2 ∨ k = 3 ∨ k = 4 ∨ k = 5 := by omega
  rcases hh with rfl | rfl | rfl | rfl | rfl | rfl <;> rfl
theorem shl_small {k p : Nat} (h : k < 6) (hp : p = 2 ^ k) : IntKind.i64.wrap ((2 : Int) ^ min (k : Int).toNat 64) = (p : Int) := by
  subst hp
  have hh : k = 0 ∨ k = 1 ∨ k = 2 ∨ k = 3 ∨ k = 4 ∨ k = 5 := by omega
  rcases hh with rfl | rfl | rfl | rfl | rfl | rfl <;> rfl
theorem shl_small2 {k p : Nat} (h : k < 6) (hp : p = 2 ^ k) : IntKind.i64.wrap ((2 : Int) ^ min k 64) = (p : Int) := by
  subst hp
  have hh : k = 0 ∨ k = 1 ∨ k = 2 ∨ k = 3 ∨ k = 4 ∨ k = 5 := by omega
  rcases hh with rfl | rfl | rfl | rfl | rfl | rfl <;> rfl
theorem shl_small3 {k p : Nat} (h : k < 6) (hp : p = 2 ^ k) : IntKind.i64.wrap ((2 : Int) ^ k) = (p : Int) := by
  subst hp
  have hh : k = 0 ∨ k = 1 ∨ k = 2 ∨ k = 3 ∨ k = 4 ∨ k = 5 := by omega
  rcases hh with rfl | rfl | rfl | rfl | rfl | rfl <;> rfl
theorem pow_small {k p : Nat} (h : k < 6) (hp : p = 2 ^ k) : (2 : Int) ^ k = (p : Int) := by
  subst hp
  have hh : k = 0 ∨ k = 1 ∨ k = 2 ∨ k = 3 ∨ k = 4 ∨ k = 5 := by omega
  rcases hh with rfl | rfl | rfl | rfl | rfl | rfl <;> rfl
theorem wrap_small {p : Nat} (h : p ≤ 32) : IntKind.i64.wrap (p : Int) = (p : Int) := IntWalk.i64_in _ (by omega)
theorem i64_small {r p : Nat} (h : r + p < 64) : IntKind.i64.wrap ((r : Int) + (p : Int)) = ((r + p : Nat) : Int) := by
  rw [IntWalk.i64_in _ (by omega)]; omega

theorem own_tt {w : World} {lo : Nat} {v : Value} {f : Fm} (h : Own w lo v (ttL f 64)) : ∃ a c, v = .slice a 64 c ∧ InI w lo w.heap.size (.slice a 64 c) (ttL f 64) := by
  obtain ⟨a, c, rfl, -⟩ := h.at
  have h2 := h.inI
  rw [ttL_len] at h2 ⊢
  exact ⟨a, c, rfl, h2⟩
theorem in_tt {w : World} {lo hi : Nat} {a : Option Addr} {c : Nat} {f : Fm} (h : InI w lo hi (.slice a 64 c) (ttL f 64)) : At w a 64 (ttL f 64) := by
  obtain ⟨a', c', e, hat, -⟩ := h.1.at
  rw [ttL_len] at e hat
  cases e
  exact hat
theorem InI.drewN {w : World} {lo hi : Nat} {v : Value} {xs : List Int} (h : InI w lo hi v xs) (q : Nat) : InI (w.drewN q) lo hi v xs := h.below (below_drewN (Below.refl w.heap.size w) q) h.2.1

set_option maxHeartbeats 8000000 in
set_option maxRecDepth 100000 in
theorem lawTruthTables (a : Option Addr) (len cap : Nat) (zs : List Int) (w : World) (h : IsRow .u8 w a len cap zs) (hT : Tb w) (hB : Db w) :
    Calls Tryd.prog 3 #[.slice a len cap] w fun e w' => e = .returned (.bool true) ∧ Below w.heap.size w w' := by
  have TT := Lib.hid hT
  have TB := Lib.hid hB
  clear hT hB
  by_cases hbig : 4096 < len
  · clear h
    go_enter Tryd.func3, Tryd.ntmps3
    go_wp2_with (go_at_call 4; refine (bigY _ _ _ _ hbig).mono ?_; rintro e w' ⟨rfl, rfl⟩)
    go_ret
    exact ⟨rfl, Below.refl _ _⟩
  have hl : len ≤ 4096 := by omega
  have HC := Lib.hid (Code.of_row h hl)
  clear h hbig
  go_enter Tryd.func3, Tryd.ntmps3
  go_wp2_with fail
  refine (bigN _ _ _ _ hl).mono ?_
  rintro e w' ⟨rfl, rfl⟩
  go_wp2_with fail
  refine (DrawTruthTable_any a len cap w HC.out).mono ?_
  rintro e w1 ⟨⟨v1, z, rfl, ho1, hz64⟩, hb1⟩
  have B1 := Lib.hid hb1
  have I1 := Lib.hid ho1.inn
  have hzl : z.length ≤ 1048576 := by omega
  clear ho1 hb1 hz64
  by_cases hc : ck z = 0
  · have f1 := ck_ok' hc
    have IT := Lib.hid (fun lo hi v W (hI : InN W lo hi v z) (hT : Tb W) => by have := implTruthTable_v z v lo hi W hzl hI hT; rw [ttR_good hc, hc] at this; exact this)
    have ST := Lib.hid (fun lo hi v W (hI : InN W lo hi v z) => by have := specTruthTable_v z v lo hi W hzl hI; rw [ttR_good hc, hc] at this; exact this)
    have TA := Lib.hid (fun lo hi v W (hI : InN W lo hi v z) (hT : Tb W) => by have := implIsTautology_v z v lo hi W hzl hI hT; rw [tauR_good hc, hc, tau_cn] at this; exact this)
    have FM := Lib.hid (fun lo hi v W (hI : InN W lo hi v z) (hT : Tb W) (hB : Db W) => implFirstModel_v z v lo hi W hzl hI hT hB)
    have CM := Lib.hid (fun lo hi v W (hI : InN W lo hi v z) (hT : Tb W) => by have := implCountModels_v z 6 v lo hi W hzl hI hT; rw [(cm_six hc).1, (cm_six hc).2] at this; exact this)
    have DP := Lib.hid (fun lo hi v W (hI : InN W lo hi v z) (hT : Tb W) => by have := implDependsOn_v z v lo hi W hzl hI hT; rw [dpV_good hc, hc] at this; exact this)
    have NT := Lib.hid (fun lo hi v W (hI : InN W lo hi v z) => by have := implNotFormula_v z v lo hi W hzl hI; exact this)
    have NEG := Lib.hid (fun h2 => fm_none (xs := z) hc h2)
    have POS := Lib.hid (fun h2 => fm_some (xs := z) hc h2)
    have HCK := Lib.hid hc
    have NOT := Lib.hid (fun h40 => not_ok (xs := z) hc h40)
    have HB := Lib.hid (ck_good hc).1
    clear hc f1
    generalize toFm z = f at IT ST TA CM DP NEG POS NOT
    go_wp2_with fail
    refine (IT.out _ _ _ w1 I1.out (TT.out.keep B1.out (Nat.le_refl _))).mono ?_
    rintro e w2 ⟨v2, rfl, ho, hb⟩
    obtain ⟨a2, c2, rfl, ho2⟩ := own_tt ho
    have P2 := Lib.hid ho2
    have B2 := Lib.hid (B1.out.trans (hb.mono B1.out.size))
    have I2 := Lib.hid (I1.out.below hb I1.out.2.1)
    clear ho hb ho2 I1 IT
    go_wp2_with fail
    refine (ST.out _ _ _ w2 I2.out).mono ?_
    rintro e w3 ⟨v3, rfl, ho, hb⟩
    obtain ⟨a3, c3, rfl, ho3⟩ := own_tt ho
    have M3 := Lib.hid ho3
    have B3 := Lib.hid (B2.out.trans (hb.mono B2.out.size))
    have I3 := Lib.hid (I2.out.below hb I2.out.2.1)
    have P3 := Lib.hid (P2.out.below hb P2.out.2.1)
    clear ho hb ho3 I2 P2 ST
    go_wp2_with fail
    refine (likeInts_any (ttL f 64) a2 a3 64 c2 c3 w3 (by omega) (in_tt P3.out) (in_tt M3.out)).mono ?_
    rintro e w4 ⟨rfl, q4, hw4⟩
    have B4 := Lib.hid (show Below w.heap.size w w4 by rw [hw4]; exact below_drewN B3.out q4)
    have I4 := Lib.hid (show InN w4 _ _ v1 z by rw [hw4]; exact I3.out.drewN q4)
    have M4 := Lib.hid (show InI w4 _ _ (.slice a3 64 c3) (ttL f 64) by rw [hw4]; exact M3.out.drewN q4)
    clear hw4 B3 I3 M3 P3
    go_wp2_with fail
    refine (sumTt_any f a3 c3 w4 (in_tt M4.out)).mono ?_
    have hcle := cnF_le f 64
    obtain ⟨c, hcc⟩ : ∃ c, c = cnF f 64 := ⟨_, rfl⟩
    have CC := Lib.hid hcc
    rw [← hcc] at TA CM hcle ⊢
    clear hcc
    obtain ⟨tb, htb⟩ : ∃ tb, tb = decide (c = 64) := ⟨_, rfl⟩
    rw [← htb] at TA
    have HTB := Lib.hid htb
    clear htb
    rintro e w' ⟨rfl, rfl⟩
    go_wp2
    go_loop [9, 10] (fun fi i => ∃ k : Nat, k ≤ 64 ∧ i = .int .i64 ((k : Int) - 1) ∧ fi = .int .i64 (fs ((tbl f 64).drop k) true k)) (fun _ i => (intOf i + 1).toNat)
    case atStart => exact ⟨64, Nat.le_refl _, rfl, by rw [fs_top]⟩
    case round =>
      obtain ⟨k, hk, rfl, rfl⟩ := hrel
      obtain ⟨hr1, hr2⟩ := fs_rng f k hk
      by_cases hk0 : k = 0
      · subst hk0
        have FR := Lib.hid (show fs (tbl f 64) true 0 = fs ((tbl f 64).drop 0) true 0 from rfl)
        generalize fs ((tbl f 64).drop 0) true 0 = fi at hr1 hr2 FR ⊢
        go_wp2_with fail
        refine (TA.out _ _ _ w4 I4.out (TT.out.keep B4.out (Nat.le_refl _))).mono ?_
        rintro e w5 ⟨rfl, hb⟩
        have B5 := Lib.hid (B4.out.trans (hb.mono B4.out.size))
        have I5 := Lib.hid (I4.out.below hb I4.out.2.1)
        have M5 := Lib.hid (M4.out.below hb M4.out.2.1)
        clear hb B4 I4 M4 TA
        obtain ⟨V, C, hVC, eV, eC⟩ : ∃ V C : Int, ((fi = -1 ∧ V = 0 ∧ C = 4) ∨ (0 ≤ fi ∧ V = fi ∧ C = 0)) ∧ fmV z = V ∧ fmC z = C := by
          by_cases hneg : fi < 0
          · obtain ⟨e1, e2⟩ := NEG.out (by rw [FR.out]; exact hneg)
            exact ⟨0, 4, .inl ⟨by omega, rfl, rfl⟩, e1, e2⟩
          · obtain ⟨e1, e2⟩ := POS.out (by rw [FR.out]; omega)
            rw [FR.out] at e1
            exact ⟨fi, 0, .inr ⟨by omega, rfl, rfl⟩, e1, e2⟩
        rw [eV, eC] at FM
        have HVC := Lib.hid hVC
        clear hVC eV eC NEG POS FR hr1 hr2
        go_wp2_with fail
        refine (FM.out _ _ _ w5 I5.out (TT.out.keep B5.out (Nat.le_refl _)) (TB.out.keep B5.out (Nat.le_refl _))).mono ?_
        rintro e w6 ⟨rfl, hb⟩
        have B6 := Lib.hid (B5.out.trans (hb.mono B5.out.size))
        have I6 := Lib.hid (I5.out.below hb I5.out.2.1)
        have M6 := Lib.hid (M5.out.below hb M5.out.2.1)
        clear hb B5 I5 M5 FM
        go_wp2_with fail
        refine (CM.out _ _ _ w6 I6.out (TT.out.keep B6.out (Nat.le_refl _))).mono ?_
        rintro e w7 ⟨rfl, hb⟩
        have B7 := Lib.hid (B6.out.trans (hb.mono B6.out.size))
        have I7 := Lib.hid (I6.out.below hb I6.out.2.1)
        have M7 := Lib.hid (M6.out.below hb M6.out.2.1)
        clear hb B6 I6 M6 CM
        go_wp2_with fail
        refine (DP.out _ _ _ w7 I7.out (TT.out.keep B7.out (Nat.le_refl _))).mono ?_
        rintro e w8 ⟨v8, rfl, ho, hb⟩
        have hdl := dpL_len f 6
        obtain ⟨a8, c8, rfl, hat8, -, -, -⟩ := ho.at
        have L8 := Lib.hid hat8
        have B8 := Lib.hid (B7.out.trans (hb.mono B7.out.size))
        have I8 := Lib.hid (I7.out.below hb I7.out.2.1)
        obtain ⟨b3, off3, rfl, hb3, hc3⟩ := (in_tt (M7.out.below hb M7.out.2.1)).2.resolve_left (by omega)
        have C3 := Lib.hid hc3
        clear hb ho hat8 B7 I7 M7 DP hb3 hc3
        go_upto_region 20 with fail
        go_cut [119] from 83 to 118 (fun s119 wx => s119 = .bool false ∧ w8 = wx)
        case first =>
          have htb := HTB.out
          have hvc := HVC.out
          clear HVC HTB
          by_cases hc64 : c = 64
          all_goals
            first
            | (subst hc64; rw [decide_eq_true rfl] at htb; subst htb)
            | (rw [decide_eq_false hc64] at htb; subst htb; have hcn : ((c : Int) == 64) = false := by simp; omega)
            rcases hvc with ⟨rfl, rfl, rfl⟩ | ⟨h0, rfl, rfl⟩
            all_goals
              go_wp2_with fail
              go_meet
              exact ⟨rfl, rfl⟩
        case rest =>
        obtain ⟨rfl, rfl⟩ := hcut
        clear HVC HTB
        go_wp2
        go_loopw [19] (fun i wr => ∃ k q : Nat, k ≤ 6 ∧ i = .int .i64 k ∧ wr = w8.drewN q) (fun i _ => 6 - (intOf i).toNat)
        case atStart => exact ⟨0, 0, Nat.zero_le _, rfl, rfl⟩
        case round =>
          obtain ⟨k, q, hk6, rfl, rfl⟩ := hrel
          by_cases hkl : k < 6
          · obtain ⟨p, hp, hone, hp32⟩ := one_p hkl
            have P := Lib.hid hp
            unfold one at hone
            rw [Int.toNat_natCast] at hone
            go_wp2
            go_loopw [20, 21] (fun d i wr => ∃ r q2 : Nat, r ≤ 64 ∧ i = .int .i64 r ∧ d = .bool (dpR f k r) ∧ wr = w8.drewN q2) (fun _ i _ => 64 - (intOf i).toNat)
            case atStart => exact ⟨0, q, Nat.zero_le _, rfl, rfl, rfl⟩
            case round =>
              obtain ⟨r, q2, hr, rfl, rfl, rfl⟩ := hrel
              by_cases hrl : r < 64
              · cases hd : dpR f k r
                · cases hbt : r.testBit k
                  · have N := Lib.hid (dpR_3 hd hbt P.out)
                    have BT := Lib.hid (show bitB (r : Int) (k : Int) = false by rw [bit_row r k hrl]; exact hbt)
                    have hrp : r + p < 64 := by rw [P.out]; exact (fl_no k hkl r hrl hbt).1
                    have c1 := C3.out r hrl
                    have c2 := C3.out (r + p) hrp
                    rw [ttL_at f hrl] at c1
                    rw [ttL_at f hrp] at c2
                    have M := Lib.hid (show dpR f k (r + 1) = (b01 (f.ev r) != b01 (f.ev (r + p))) by rw [N.out]; cases f.ev r <;> cases f.ev (r + p) <;> rfl)
                    generalize b01 (f.ev r) = x at c1 M
                    generalize b01 (f.ev (r + p)) = y at c2 M
                    have S1 := Lib.hid (u64_small hkl)
                    have S2 := Lib.hid (shl_small hkl P.out)
                    have S4 := Lib.hid (shl_small2 hkl P.out)
                    have S5 := Lib.hid (shl_small3 hkl P.out)
                    have S6 := Lib.hid (pow_small hkl P.out)
                    have S7 := Lib.hid (wrap_small hp32)
                    have S3 := Lib.hid (i64_small hrp)
                    clear hd hbt N
                    go_wp2
                    refine wp_region_quiet_lit (by kernel_rfl) (by kernel_rfl) ?_
                    repeat
                      refine wpQuiet_step (fun K hK => ?_)
                      go_simp
                      try (simp only [S1.out, S2.out, S4.out, S5.out, S6.out, S7.out, S3.out])
                      first
                        | (refine hK _ ?_; clear hK K)
                        | (apply Exists.intro
                           refine ⟨fun _ => ?_, hK _ ?_⟩
                           (go_at_call 14; exact q_same ((bit5_any _ _ _ (by omega) (by omega)).mono fun _ _ h => ⟨h.1.trans (ret_bool BT.out), h.2⟩) rfl)
                           clear hK K)
                    refine wpQuiet_nil ?_
                    intro _ hw'
                    obtain ⟨nq, hw''⟩ := hw'
                    subst hw''
                    go_wp2
                    go_roundw
                    case rel => exact ⟨r + 1, _, hrl, by go_num, by rw [M.out], by first | rfl | rw [World.drewN_drewN]⟩
                    case measure => simp [intOf]; omega
                  · have N := Lib.hid (dpR_2 hd hbt)
                    have BT := Lib.hid (show bitB (r : Int) (k : Int) = true by rw [bit_row r k hrl]; exact hbt)
                    clear hd hbt
                    go_wp2
                    go_quiet ((go_at_call 14; exact q_same ((bit5_any _ _ _ (by omega) (by omega)).mono fun _ _ h => ⟨h.1.trans (ret_bool BT.out), h.2⟩) rfl))
                    go_wp2
                    go_roundw
                    case rel => exact ⟨r + 1, _, hrl, by go_num, by rw [N.out], by first | rfl | rw [World.drewN_drewN]⟩
                    case measure => simp [intOf]; omega
                · have N := Lib.hid (dpR_1 hd)
                  clear hd
                  go_wp2
                  go_quiet (fail)
                  go_wp2
                  go_roundw
                  case rel => exact ⟨r + 1, _, hrl, by go_num, by rw [N.out], by first | rfl | rw [World.drewN_drewN]⟩
                  case measure => simp [intOf]; omega
              · obtain rfl : r = 64 := by omega
                have HH := Lib.hid (haB_dp f hkl)
                clear hone
                go_wp2_with fail
                refine (hasInt_any (dpL f 6) k a8 _ c8 _ (by omega) (L8.out.keep (below_drewN (Below.refl w8.heap.size w8) q2) (Nat.le_refl _))).mono ?_
                rw [HH.out]
                generalize dpR f k 64 = x
                rintro e w' ⟨rfl, rfl⟩
                cases x
                all_goals
                  go_wp2
                  go_roundw
                  case rel => exact ⟨k + 1, q2, hkl, by go_num, rfl⟩
                  case measure => simp [intOf]; omega
          · obtain rfl : k = 6 := by omega
            have I9 := Lib.hid (I8.out.drewN q)
            have B9 := Lib.hid (below_drewN B8.out q)
            obtain ⟨w9, hw9⟩ : ∃ w9, w9 = w8.drewN q := ⟨_, rfl⟩
            rw [← hw9] at I9 B9 ⊢
            clear hw9
            obtain ⟨n1, n2⟩ := not_good HB.out
            by_cases h40 : 40 < (notL z).length
            · have e1 : notR z = [] := n1.trans (if_pos h40)
              have e2 : notC z = 3 := n2.trans (if_pos h40)
              clear n1 n2
              go_wp2_with fail
              refine (NT.out _ _ _ w9 I9.out).mono ?_
              rw [e1, e2]
              rintro e w10 ⟨v10, rfl, ho, hb⟩
              have B10 := Lib.hid (B9.out.trans (hb.mono B9.out.size))
              clear ho hb e1 e2
              go_wp2
              go_ret
              exact ⟨rfl, B10.out⟩
            · have e1 : notR z = notL z := n1.trans (if_neg h40)
              have e2 : notC z = 0 := n2.trans (if_neg h40)
              obtain ⟨g1, g2⟩ := NOT.out (by omega)
              have CM := Lib.hid (fun lo hi v W (hI : InN W lo hi v (notL z)) (hT : Tb W) => by have := implCountModels_v (notL z) 6 v lo hi W (by omega) hI hT; rw [(cm_six g1).1, (cm_six g1).2, g2] at this; exact this)
              have hm := cnF_not f 64
              rw [← CC.out] at hm
              generalize cnF (Fm.bi 4 f .fa) 64 = m at CM hm
              clear n1 n2 g1 g2
              go_wp2_with fail
              refine (NT.out _ _ _ w9 I9.out).mono ?_
              rw [e1, e2]
              rintro e w10 ⟨v10, rfl, ho, hb⟩
              have B10 := Lib.hid (B9.out.trans (hb.mono B9.out.size))
              have J10 := Lib.hid ho.inn
              clear ho hb e1 e2
              go_wp2_with fail
              refine (CM.out _ _ _ w10 J10.out (TT.out.keep B10.out (Nat.le_refl _))).mono ?_
              rintro e w11 ⟨rfl, hb⟩
              have B11 := Lib.hid (B10.out.trans (hb.mono B10.out.size))
              clear hb
              go_wp2
              go_ret
              exact ⟨ret_bool (by first | rfl | (simp; omega) | (rw [beq_iff_eq]; omega)), B11.out⟩
      · have hlt : k - 1 < 64 := by omega
        obtain ⟨j, rfl⟩ : ∃ j, k = j + 1 := ⟨k - 1, by omega⟩
        have hat := in_tt M4.out
        obtain ⟨b3, off3, rfl, hb3, hc3⟩ := hat.2.resolve_left (by omega)
        have c1 := hc3 j (by omega)
        rw [ttL_at f (by omega : j < 64)] at c1
        have N := Lib.hid (fs_down (f := f) (k := j) (by omega))
        have ej : (((j + 1 : Nat) : Int) - 1) = (j : Int) := by omega
        rw [ej]
        generalize fs ((tbl f 64).drop (j + 1)) true (j + 1) = fi at N hr1 hr2 ⊢
        generalize f.ev j = y at c1 N
        clear hat hb3 hc3 hlt hk0 ej
        cases y
        · replace c1 : w4.cell? ⟨b3, off3 + j, none⟩ = some (.int .i64 0) := c1
          go_wp2
          go_round
          case rel => exact ⟨j, by omega, by first | rfl | (simp; done) | go_num, by first | (rw [N.out]; done) | (rw [N.out]; rfl)⟩
          case measure => simp [intOf] <;> omega
        · replace c1 : w4.cell? ⟨b3, off3 + j, none⟩ = some (.int .i64 1) := c1
          go_wp2
          go_round
          case rel => exact ⟨j, by omega, by first | rfl | (simp; done) | go_num, by first | (rw [N.out]; done) | (rw [N.out]; rfl)⟩
          case measure => simp [intOf] <;> omega
  · have IT := Lib.hid (fun lo hi v W (hI : InN W lo hi v z) (hT : Tb W) => by have := implTruthTable_v z v lo hi W hzl hI hT; rw [ttR_bad hc] at this; exact this)
    have ST := Lib.hid (fun lo hi v W (hI : InN W lo hi v z) => by have := specTruthTable_v z v lo hi W hzl hI; rw [ttR_bad hc] at this; exact this)
    have hne : (ck z == 0) = false := by simpa using hc
    generalize ck z = cz at IT ST hne
    clear hc
    go_wp2_with fail
    refine (IT.out _ _ _ w1 I1.out (TT.out.keep B1.out (Nat.le_refl _))).mono ?_
    rintro e w2 ⟨v2, rfl, ho, hb⟩
    obtain ⟨a2, c2, rfl, hat2, -, -, -⟩ := ho.at
    have P2 := Lib.hid hat2
    have B2 := Lib.hid (B1.out.trans (hb.mono B1.out.size))
    have I2 := Lib.hid (I1.out.below hb I1.out.2.1)
    clear ho hb hat2 I1 IT
    go_wp2_with fail
    refine (ST.out _ _ _ w2 I2.out).mono ?_
    rintro e w3 ⟨v3, rfl, ho, hb⟩
    obtain ⟨a3, c3, rfl, hat3, -, -, -⟩ := ho.at
    have M3 := Lib.hid hat3
    have B3 := Lib.hid (B2.out.trans (hb.mono B2.out.size))
    have P3 := Lib.hid (P2.out.keep hb (Nat.le_refl _))
    clear ho hb hat3 I2 P2 ST
    go_wp2_with fail
    refine (likeInts_any [] a2 a3 0 c2 c3 w3 (by omega) P3.out M3.out).mono ?_
    rintro e w4 ⟨rfl, q4, hw4⟩
    have B4 := Lib.hid (show Below w.heap.size w w4 by rw [hw4]; exact below_drewN B3.out q4)
    clear hw4
    go_wp2
    go_ret
    exact ⟨rfl, B4.out⟩

end Go.Proofs.YtfkahkhmnchnjaaDoor
