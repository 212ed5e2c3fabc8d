/- The walk of the law FnBuilding. Conditions: those in the theorems. -/
import Derived.Test.YtegdbcdffnopfaaDrawJ
import Derived.Test.YtegdbcdffnopfaaSame
import Derived.Test.YtegdbcdffnopfaaJoinF
import Derived.Test.YtegdbcdffnopfaaKinds
import Derived.Test.YtegdbcdffnopfaaOwnI
import Derived.Test.YtegdbcdffnopfaaDepths
import Derived.Test.YtegdbcdffnopfaaLawPart
namespace Go.Proofs.Ytegdbcdffnopfaa
open Go.RowKit

theorem codeOfRow {w : World} {a : Option Addr} {len cap : Nat} {zs : List Int} (h : IsRow .u8 w a len cap zs) (hl : len ≤ 4096) : Code w.heap.size w a len := by
  refine ⟨by omega, ?_⟩
  rcases h with ⟨rfl, rfl, rfl, rfl⟩ | ⟨x, rfl, h1, hm, hz, hcell, hwz⟩
  · exact .inl rfl
  · by_cases h0 : len = 0
    · exact .inl h0
    · right
      obtain ⟨b, off, spot⟩ := x
      have hc := hcell 0 (by omega)
      have hspot : spot = none := by simpa [Addr.add] using World.cell?_spot hc
      subst hspot
      refine ⟨b, off, rfl, World.block_lt_of_cell? w _ hc, fun j hj => ?_⟩
      have hcj := hcell j (by omega)
      have e2 : (⟨b, off, none⟩ : Addr).add j = ⟨b, off + j, none⟩ := by unfold Addr.add; split <;> simp_all
      rw [e2] at hcj
      have hin : zs.getD j 0 ∈ zs := by
        rw [List.getD_eq_getElem?_getD, List.getElem?_eq_getElem (by omega)]
        exact List.getElem_mem _
      obtain ⟨g, hg⟩ : ∃ g, g = zs.getD j 0 := ⟨_, rfl⟩
      rw [← hg] at hcj hin
      have hw := hwz _ hin
      simp [Lit.wf, IntKind.min, IntKind.max, IntKind.signed, IntKind.bits] at hw
      obtain ⟨z, hz2⟩ := Int.eq_ofNat_of_zero_le hw.1
      exact ⟨z, by omega, by rw [hcj, hz2]⟩

theorem cn_take (xs : List Nd) (t : Nat) : ∀ k, k ≤ xs.length → cn xs k t = (xs.take k).countP fun x => decide (x.1 = (t : Int)) := by
  intro k
  induction k with
  | zero => intro _; rfl
  | succ k ih =>
    intro hk
    have hk' : k < xs.length := by omega
    have e : kd xs k = xs[k].1 := by simp [kd, List.getD_eq_getElem?_getD, hk']
    rw [cn, ih (by omega), e, List.take_succ_eq_append_getElem hk', List.countP_append]
    by_cases h : xs[k].1 = (t : Int) <;> simp [h]
theorem cn_all (xs : List Nd) (t : Nat) : cn xs xs.length t = xs.countP fun x => decide (x.1 = (t : Int)) := by
  rw [cn_take xs t xs.length (Nat.le_refl _), List.take_length]
theorem cn_pair (k : Int) (xs ys : List Nd) (t : Nat) : cn (pairL k xs ys) (pairL k xs ys).length t = cn xs xs.length t + cn ys ys.length t + (if k = (t : Int) then 1 else 0) := by
  rw [cn_all, cn_all, cn_all, pairL, List.countP_cons, List.countP_append]
  by_cases h : k = (t : Int) <;> simp [h]
theorem joi_zero {k : Int} {xs ys : List Nd} (h : joiC k xs ys = 0) : isB xs xs.length = true ∧ isB ys ys.length = true ∧ inB k 2 4 = true ∧ (pairL k xs ys).length ≤ 40 ∧ joiR k xs ys = pairL k xs ys := by
  cases hb : isB xs xs.length
  · rw [(joi_bad (by rw [hb]; rfl)).2] at h; omega
  cases hc : isB ys ys.length
  · rw [(joi_bad (by rw [hb, hc]; rfl)).2] at h; omega
  have hbc : (isB xs xs.length && isB ys ys.length) = true := by rw [hb, hc]; rfl
  cases hd : inB k 2 4
  · rw [(joi_out hbc hd).2] at h; omega
  obtain ⟨e1, e2⟩ := joi_good hbc hd
  rw [e2] at h
  by_cases h40 : 40 < (pairL k xs ys).length
  · rw [limC, if_pos h40] at h; omega
  · exact ⟨rfl, rfl, rfl, by omega, by rw [e1, lim, if_neg h40]⟩
theorem joi_some {k : Int} {xs ys : List Nd} (h : ¬ joiC k xs ys = 0) : joiR k xs ys = [] := by
  cases hb : (isB xs xs.length && isB ys ys.length)
  · exact (joi_bad hb).1
  cases hd : inB k 2 4
  · exact (joi_out hb hd).1
  obtain ⟨e1, e2⟩ := joi_good hb hd
  rw [e2] at h
  by_cases h40 : 40 < (pairL k xs ys).length
  · rw [e1, lim, if_pos h40]
  · exact absurd (by rw [limC, if_neg h40]) h
theorem toFm_enc (f : Fm) (hf : f.ok) (h40 : f.sz ≤ 40) : toFm f.enc = f := by
  have hb := fm_is f hf h40
  obtain ⟨g1, g2, -⟩ := toFm_of hb
  exact (enc_inj _ g1 f [] [] hf (by rw [← g2])).1
/-- What the parts of a joined formula tell of it. -/
theorem joi_facts {k : Int} {xs ys : List Nd} (h : joiC k xs ys = 0) :
    isB (pairL k xs ys) (pairL k xs ys).length = true ∧ peR (pairL k xs ys) 1 = (xs.length : Int) + 1 ∧ peC (pairL k xs ys) 1 = 0 ∧
    dhR (pairL k xs ys) = ((max (toFm xs).ht (toFm ys).ht + 1 : Nat) : Int) ∧ dmR (pairL k xs ys) = ((max (toFm xs).md (toFm ys).md : Nat) : Int) ∧ dpC (pairL k xs ys) = 0 := by
  obtain ⟨hb, hc, hd, h40, -⟩ := joi_zero h
  obtain ⟨f1, f2, f3⟩ := toFm_of hb
  obtain ⟨g1, g2, g3⟩ := toFm_of hc
  have hk : k = 2 ∨ k = 3 ∨ k = 4 := by simp [inB] at hd; omega
  have he : pairL k xs ys = (Fm.bi k (toFm xs) (toFm ys)).enc := by rw [pairL]; simp only [Fm.enc]; rw [← f2, ← g2]
  have hok : (Fm.bi k (toFm xs) (toFm ys)).ok := ⟨hk, f1, g1⟩
  have hsz : (Fm.bi k (toFm xs) (toFm ys)).sz ≤ 40 := by rw [← Fm.enc_len, ← he]; exact h40
  have hB : isB (pairL k xs ys) (pairL k xs ys).length = true := by rw [he]; exact fm_is _ hok hsz
  have hT : toFm (pairL k xs ys) = Fm.bi k (toFm xs) (toFm ys) := by rw [he]; exact toFm_enc _ hok hsz
  obtain ⟨d1, d2, d3⟩ := dp_good hB
  have hx0 := (is_pos hb).1
  have hin : inB (1 : Int) 0 (((pairL k xs ys).length : Int) - 1) = true := by simp [inB, pairL]; omega
  obtain ⟨q, e, hq, hql, hpe, p1, p2⟩ := pe_good hB hin
  have hq1 : q = 1 := by omega
  subst hq1
  have hpe2 := pe_end (toFm xs) f1 (xs := pairL k xs ys) (i := 1) (r := ys) (by rw [pairL]; show xs ++ ys = (toFm xs).enc ++ ys; rw [← f2])
  have hxl : (toFm xs).sz = xs.length := by rw [← Fm.enc_len, ← f2]
  refine ⟨hB, ?_, p2, ?_, ?_, d3⟩
  · rw [p1]; rw [hpe2, hxl] at hpe; omega
  · rw [d1, hT]; rfl
  · rw [d2, hT]; rfl

set_option maxHeartbeats 4000000 in
set_option maxRecDepth 100000 in
theorem lawBuilding (a : Option Addr) (len cap : Nat) (zs : List Int) (w : World) (h : IsRow .u8 w a len cap zs) :
    Calls Try.prog 14 #[.slice a len cap] w fun e w' => e = .returned (.bool true) ∧ Below w.heap.size w w' := by
  by_cases hbig : 4096 < len
  · clear h
    go_enter Try.func14, Try.ntmps14
    go_wp2_with (go_at_call 48; refine (bigY _ _ _ _ hbig).mono ?_; rintro e w' ⟨rfl, rfl⟩)
    go_ret
    exact ⟨rfl, Below.refl _ _⟩
  have hl : len ≤ 4096 := by omega
  have HC := Lib.hid (codeOfRow h hl)
  clear h hbig
  go_enter Try.func14, Try.ntmps14
  go_wp2_with fail
  refine (bigN _ _ _ _ hl).mono ?_
  rintro e w' ⟨rfl, rfl⟩
  go_wp2_with fail
  refine (DrawJoinFormulas_any a len cap w HC.out).mono ?_
  rintro e w1 ⟨⟨k, v1, z1, v2, z2, rfl, ho1, ho2, hz1, hz2⟩, hb⟩
  have B := Lib.hid hb
  have I1 := Lib.hid ho1.inn
  have I2 := Lib.hid ho2.inn
  clear ho1 ho2 hb
  obtain ⟨cd, hcd⟩ : ∃ cd, cd = joiC k z1 z2 := ⟨_, rfl⟩
  obtain ⟨cl, hcl⟩ : ∃ cl, cl = joiR k z1 z2 := ⟨_, rfl⟩
  have hcll : cl.length ≤ 1048576 := by rw [hcl]; exact JoinFormulas_len k z1 z2
  have CD := Lib.hid hcd
  have CL := Lib.hid hcl
  clear hcd hcl
  go_wp2_with fail
  refine (implJoinFormulas_v k z1 z2 _ _ _ _ _ _ _ (by omega) (by omega) I1.out I2.out).mono ?_
  rw [← CD.out, ← CL.out]
  rintro e w2 ⟨vc, rfl, ho, hb⟩
  have Jc := Lib.hid ho.inn
  clear ho
  have B3 := Lib.hid (B.out.trans (hb.mono B.out.size))
  have I1x := Lib.hid (I1.out.below hb I1.out.2.1)
  have I2x := Lib.hid (I2.out.below hb I2.out.2.1)
  clear hb I1 I2
  clear B
  go_wp2_with fail
  refine (specJoinFormulas_v k z1 z2 _ _ _ _ _ _ _ (by omega) (by omega) I1x.out I2x.out).mono ?_
  rw [← CD.out, ← CL.out]
  rintro e w4 ⟨vd, rfl, ho, hb⟩
  have Jd := Lib.hid ho.inn
  clear ho
  have B5 := Lib.hid (B3.out.trans (hb.mono B3.out.size))
  have I1xx := Lib.hid (I1x.out.below hb I1x.out.2.1)
  have I2xx := Lib.hid (I2x.out.below hb I2x.out.2.1)
  have Jcx := Lib.hid (Jc.out.below hb Jc.out.2.1)
  clear hb I1x I2x Jc
  clear B3
  go_wp2_with fail
  refine (same_in cl _ _ _ _ _ _ _ hcll Jcx.out Jd.out).mono ?_
  rintro e w6 ⟨rfl, hb⟩
  have B7 := Lib.hid (B5.out.trans (hb.mono B5.out.size))
  have I1xxx := Lib.hid (I1xx.out.below hb I1xx.out.2.1)
  have I2xxx := Lib.hid (I2xx.out.below hb I2xx.out.2.1)
  have Jcxx := Lib.hid (Jcx.out.below hb Jcx.out.2.1)
  have Jdx := Lib.hid (Jd.out.below hb Jd.out.2.1)
  clear hb I1xx I2xx Jcx Jd
  clear B5
  clear Jdx
  by_cases h0 : cd = 0
  · subst h0
    have hj : joiC k z1 z2 = 0 := CD.out.symm
    obtain ⟨b1, b2, b3, b4, b5⟩ := joi_zero hj
    obtain ⟨f1, f2, f3, f4, f5, f6⟩ := joi_facts hj
    obtain ⟨kx1, kx2⟩ := kn_good b1
    obtain ⟨ky1, ky2⟩ := kn_good b2
    obtain ⟨kz1, kz2⟩ := kn_good f1
    obtain ⟨dx1, dx2, dx3⟩ := dp_good b1
    obtain ⟨dy1, dy2, dy3⟩ := dp_good b2
    have hx40 := (is_pos b1).2
    have hy40 := (is_pos b2).2
    have hfx := (toFm_of b1).2.2
    have hfy := (toFm_of b2).2.2
    have hcl2 : cl = pairL k z1 z2 := by rw [CL.out, b5]
    subst hcl2
    have CN := Lib.hid (cn_pair k z1 z2)
    have hk : k = 2 ∨ k = 3 ∨ k = 4 := by simp [inB] at b3; omega
    have hm1 := (toFm z1).ht_le
    have hm2 := (toFm z2).ht_le
    have hm3 := (toFm z1).md_le
    have hm4 := (toFm z2).md_le
    obtain ⟨I, hI⟩ : ∃ I, I = (toFm z1).ht := ⟨_, rfl⟩
    obtain ⟨J, hJ⟩ : ∃ J, J = (toFm z2).ht := ⟨_, rfl⟩
    obtain ⟨M, hM⟩ : ∃ M, M = (toFm z1).md := ⟨_, rfl⟩
    obtain ⟨N, hN⟩ : ∃ N, N = (toFm z2).md := ⟨_, rfl⟩
    rw [← hI] at f4 dx1 hm1
    rw [← hJ] at f4 dy1 hm2
    rw [← hM] at f5 dx2 hm3
    rw [← hN] at f5 dy2 hm4
    have hI40 : I ≤ 40 := by omega
    have hJ40 : J ≤ 40 := by omega
    have hM40 : M ≤ 40 := by omega
    have hN40 : N ≤ 40 := by omega
    clear hI hJ hM hN hm1 hm2 hm3 hm4 hfx hfy
    obtain ⟨H, hH⟩ : ∃ H : Int, H = (max I J + 1 : Nat) := ⟨_, rfl⟩
    obtain ⟨D, hD⟩ : ∃ D : Int, D = (max M N : Nat) := ⟨_, rfl⟩
    rw [← hH] at f4
    rw [← hD] at f5
    have Qkx1 := Lib.hid kx1
    have Qkx2 := Lib.hid kx2
    have Qky1 := Lib.hid ky1
    have Qky2 := Lib.hid ky2
    have Qkz1 := Lib.hid kz1
    have Qkz2 := Lib.hid kz2
    have Qdx1 := Lib.hid dx1
    have Qdx2 := Lib.hid dx2
    have Qdx3 := Lib.hid dx3
    have Qdy1 := Lib.hid dy1
    have Qdy2 := Lib.hid dy2
    have Qdy3 := Lib.hid dy3
    have Qf2 := Lib.hid f2
    have Qf3 := Lib.hid f3
    have Qf4 := Lib.hid f4
    have Qf5 := Lib.hid f5
    have Qf6 := Lib.hid f6
    clear kx1 kx2 ky1 ky2 kz1 kz2 dx1 dx2 dx3 dy1 dy2 dy3 f2 f3 f4 f5 f6 b1 b2 b3 b4 b5 f1 hj CL
    have hcc : (pairL k z1 z2).length ≤ 1048576 := hcll
    have CC := Lib.hid hcc
    clear hcc hcll
    go_wp2_with fail
    refine (implKindCounts_v z1 _ _ _ _ (by omega) I1xxx.out).mono ?_
    rw [Qkx1.out, Qkx2.out]
    rintro e w8 ⟨vx, rfl, ho, hb⟩
    have Jx := Lib.hid ho.inI
    clear ho
    have B9 := Lib.hid (B7.out.trans (hb.mono B7.out.size))
    have I1xxxx := Lib.hid (I1xxx.out.below hb I1xxx.out.2.1)
    have I2xxxx := Lib.hid (I2xxx.out.below hb I2xxx.out.2.1)
    have Jcxxx := Lib.hid (Jcxx.out.below hb Jcxx.out.2.1)
    clear hb I1xxx I2xxx Jcxx
    clear B7
    go_wp2_with fail
    refine (implKindCounts_v z2 _ _ _ _ (by omega) I2xxxx.out).mono ?_
    rw [Qky1.out, Qky2.out]
    rintro e w10 ⟨vy, rfl, ho, hb⟩
    have Jy := Lib.hid ho.inI
    clear ho
    have B11 := Lib.hid (B9.out.trans (hb.mono B9.out.size))
    have I1xxxxx := Lib.hid (I1xxxx.out.below hb I1xxxx.out.2.1)
    have I2xxxxx := Lib.hid (I2xxxx.out.below hb I2xxxx.out.2.1)
    have Jcxxxx := Lib.hid (Jcxxx.out.below hb Jcxxx.out.2.1)
    have Jxx := Lib.hid (Jx.out.below hb Jx.out.2.1)
    clear hb I1xxxx I2xxxx Jcxxx Jx
    clear B9
    go_wp2_with fail
    refine (implKindCounts_v (pairL k z1 z2) _ _ _ _ CC.out Jcxxxx.out).mono ?_
    rw [Qkz1.out, Qkz2.out]
    rintro e w12 ⟨vz, rfl, ho, hb⟩
    have Jz := Lib.hid ho.inI
    clear ho
    have B13 := Lib.hid (B11.out.trans (hb.mono B11.out.size))
    have I1xxxxxx := Lib.hid (I1xxxxx.out.below hb I1xxxxx.out.2.1)
    have I2xxxxxx := Lib.hid (I2xxxxx.out.below hb I2xxxxx.out.2.1)
    have Jcxxxxx := Lib.hid (Jcxxxx.out.below hb Jcxxxx.out.2.1)
    have Jxxx := Lib.hid (Jxx.out.below hb Jxx.out.2.1)
    have Jyx := Lib.hid (Jy.out.below hb Jy.out.2.1)
    clear hb I1xxxxx I2xxxxx Jcxxxx Jxx Jy
    clear B11
    go_wp2_with fail
    refine (implPartEnd_v (pairL k z1 z2) 1 _ _ _ _ CC.out Jcxxxxx.out).mono ?_
    rw [Qf2.out, Qf3.out]
    rintro e w14 ⟨rfl, hb⟩
    have B15 := Lib.hid (B13.out.trans (hb.mono B13.out.size))
    have I1xxxxxxx := Lib.hid (I1xxxxxx.out.below hb I1xxxxxx.out.2.1)
    have I2xxxxxxx := Lib.hid (I2xxxxxx.out.below hb I2xxxxxx.out.2.1)
    have Jcxxxxxx := Lib.hid (Jcxxxxx.out.below hb Jcxxxxx.out.2.1)
    have Jxxxx := Lib.hid (Jxxx.out.below hb Jxxx.out.2.1)
    have Jyxx := Lib.hid (Jyx.out.below hb Jyx.out.2.1)
    have Jzx := Lib.hid (Jz.out.below hb Jz.out.2.1)
    clear hb I1xxxxxx I2xxxxxx Jcxxxxx Jxxx Jyx Jz
    clear B13
    go_wp2_with fail
    refine (implDepthsOf_v (pairL k z1 z2) _ _ _ _ CC.out Jcxxxxxx.out).mono ?_
    rw [Qf4.out, Qf5.out, Qf6.out]
    rintro e w16 ⟨rfl, hb⟩
    have B17 := Lib.hid (B15.out.trans (hb.mono B15.out.size))
    have I1xxxxxxxx := Lib.hid (I1xxxxxxx.out.below hb I1xxxxxxx.out.2.1)
    have I2xxxxxxxx := Lib.hid (I2xxxxxxx.out.below hb I2xxxxxxx.out.2.1)
    have Jcxxxxxxx := Lib.hid (Jcxxxxxx.out.below hb Jcxxxxxx.out.2.1)
    have Jxxxxx := Lib.hid (Jxxxx.out.below hb Jxxxx.out.2.1)
    have Jyxxx := Lib.hid (Jyxx.out.below hb Jyxx.out.2.1)
    have Jzxx := Lib.hid (Jzx.out.below hb Jzx.out.2.1)
    clear hb I1xxxxxxx I2xxxxxxx Jcxxxxxx Jxxxx Jyxx Jzx
    clear B15
    go_wp2_with fail
    refine (implDepthsOf_v z1 _ _ _ _ (by omega) I1xxxxxxxx.out).mono ?_
    rw [Qdx1.out, Qdx2.out, Qdx3.out]
    rintro e w18 ⟨rfl, hb⟩
    have B19 := Lib.hid (B17.out.trans (hb.mono B17.out.size))
    have I1xxxxxxxxx := Lib.hid (I1xxxxxxxx.out.below hb I1xxxxxxxx.out.2.1)
    have I2xxxxxxxxx := Lib.hid (I2xxxxxxxx.out.below hb I2xxxxxxxx.out.2.1)
    have Jcxxxxxxxx := Lib.hid (Jcxxxxxxx.out.below hb Jcxxxxxxx.out.2.1)
    have Jxxxxxx := Lib.hid (Jxxxxx.out.below hb Jxxxxx.out.2.1)
    have Jyxxxx := Lib.hid (Jyxxx.out.below hb Jyxxx.out.2.1)
    have Jzxxx := Lib.hid (Jzxx.out.below hb Jzxx.out.2.1)
    clear hb I1xxxxxxxx I2xxxxxxxx Jcxxxxxxx Jxxxxx Jyxxx Jzxx
    clear B17
    go_wp2_with fail
    refine (implDepthsOf_v z2 _ _ _ _ (by omega) I2xxxxxxxxx.out).mono ?_
    rw [Qdy1.out, Qdy2.out, Qdy3.out]
    rintro e w20 ⟨rfl, hb⟩
    have B21 := Lib.hid (B19.out.trans (hb.mono B19.out.size))
    have I1xxxxxxxxxx := Lib.hid (I1xxxxxxxxx.out.below hb I1xxxxxxxxx.out.2.1)
    have I2xxxxxxxxxx := Lib.hid (I2xxxxxxxxx.out.below hb I2xxxxxxxxx.out.2.1)
    have Jcxxxxxxxxx := Lib.hid (Jcxxxxxxxx.out.below hb Jcxxxxxxxx.out.2.1)
    have Jxxxxxxx := Lib.hid (Jxxxxxx.out.below hb Jxxxxxx.out.2.1)
    have Jyxxxxx := Lib.hid (Jyxxxx.out.below hb Jyxxxx.out.2.1)
    have Jzxxxx := Lib.hid (Jzxxx.out.below hb Jzxxx.out.2.1)
    clear hb I1xxxxxxxxx I2xxxxxxxxx Jcxxxxxxxx Jxxxxxx Jyxxxx Jzxxx
    clear B19
    obtain ⟨a1, c1, rfl, -⟩ := I1xxxxxxxxxx.out.at
    obtain ⟨ax, cx, hvx, atx, -⟩ := Jxxxxxxx.out.1.at
    rw [knL, tab_len] at hvx atx
    subst hvx
    obtain ⟨bkx, offx, rfl, hbx, hcx⟩ := atx.2.resolve_left (by omega)
    have Kx := Lib.hid hcx
    clear atx hcx
    obtain ⟨ay, cy, hvy, aty, -⟩ := Jyxxxxx.out.1.at
    rw [knL, tab_len] at hvy aty
    subst hvy
    obtain ⟨bky, offy, rfl, hby, hcy⟩ := aty.2.resolve_left (by omega)
    have Ky := Lib.hid hcy
    clear aty hcy
    obtain ⟨az, cz, hvz, atz, -⟩ := Jzxxxx.out.1.at
    rw [knL, tab_len] at hvz atz
    subst hvz
    obtain ⟨bkz, offz, rfl, hbz, hcz⟩ := atz.2.resolve_left (by omega)
    have Kz := Lib.hid hcz
    clear atz hcz
    clear I1xxxxxxxxxx I2xxxxxxxxxx Jcxxxxxxxxx Jxxxxxxx Jyxxxxx Jzxxxx
    have hHv : (I < J ∧ H = (J : Int) + 1) ∨ (¬ I < J ∧ H = (I : Int) + 1) := by omega
    have hDv : (M < N ∧ D = (N : Int)) ∨ (¬ M < N ∧ D = (M : Int)) := by omega
    clear hH hD
    obtain ⟨L1, hL1⟩ : ∃ L1, L1 = z1.length := ⟨_, rfl⟩
    rw [← hL1]
    rw [← hL1] at hx40
    have HL1 := Lib.hid hL1
    clear hL1
    obtain ⟨wl, hwl⟩ : ∃ wl : World, wl = w20 := ⟨_, rfl⟩
    rcases hHv with ⟨hIJ, rfl⟩ | ⟨hIJ, rfl⟩ <;> rcases hDv with ⟨hMN, rfl⟩ | ⟨hMN, rfl⟩
    all_goals
      go_wp2
      go_loopw [27] (fun i wr => ∃ q : Nat, q ≤ 7 ∧ i = .int .i64 q ∧ Below w20.heap.size w20 wr) (fun i _ => 7 - (intOf i).toNat)
      case atStart => exact ⟨0, by omega, rfl, Below.refl _ _⟩
      case round =>
        obtain ⟨q, hq, rfl, hbel⟩ := hrel
        have BL := Lib.hid hbel
        by_cases hlt : q < 7
        · have hqi : (q : Int) < 7 := by omega
          have gx := (hbel.cell (p := ⟨bkx, offx + q, none⟩) hbx).trans (Kx.out q hlt)
          rw [tab_nth _ _ _ hlt] at gx
          have gy := (hbel.cell (p := ⟨bky, offy + q, none⟩) hby).trans (Ky.out q hlt)
          rw [tab_nth _ _ _ hlt] at gy
          have gz := (hbel.cell (p := ⟨bkz, offz + q, none⟩) hbz).trans (Kz.out q hlt)
          rw [tab_nth _ _ _ hlt] at gz
          have hcn := CN.out q
          have hp1 := cn_le z1 z1.length q
          have hp2 := cn_le z2 z2.length q
          have hz164 : z1.length ≤ 64 := hz1
          rw [hcn] at gz
          obtain ⟨p1, hpp1⟩ : ∃ p, p = cn z1 z1.length q := ⟨_, rfl⟩
          obtain ⟨p2, hpp2⟩ : ∃ p, p = cn z2 z2.length q := ⟨_, rfl⟩
          rw [← hpp1] at gx gz hp1
          rw [← hpp2] at gy gz hp2
          have hp164 : p1 ≤ 64 := by omega
          have hp264 : p2 ≤ 64 := by omega
          clear hcn hp1 hp2 hpp1 hpp2 hz164 hbel
          by_cases hkq : k = (q : Int)
          · have hkq1 : ((q : Int) == k) = true := by simp [hkq]
            rw [if_pos hkq] at gz
            have gz' : wr.cell? ⟨bkz, offz + q, none⟩ = some (.int .i64 ((p1 : Int) + (p2 : Int) + 1)) := by rw [gz]; congr 2
            clear gz hkq
            go_wp2
            go_region
            all_goals
              go_wp2
              go_roundw
              case rel => exact ⟨q + 1, hlt, by go_num, BL.out.drew⟩
              case measure => simp [intOf]; omega
          · have hkq1 : ((q : Int) == k) = false := by simp; exact fun e => hkq e.symm
            rw [if_neg hkq] at gz
            have gz' : wr.cell? ⟨bkz, offz + q, none⟩ = some (.int .i64 ((p1 : Int) + (p2 : Int))) := by rw [gz]; congr 2
            clear gz hkq
            go_wp2
            go_region
            all_goals
              go_wp2
              go_roundw
              case rel => exact ⟨q + 1, hlt, by go_num, BL.out.drew⟩
              case measure => simp [intOf]; omega
        · obtain rfl : q = 7 := by omega
          go_wp2
          go_ret
          exact ⟨rfl, B21.out.trans (BL.out.mono B21.out.size)⟩
  · have h01 : (cd == 0) = false := by simpa using h0
    have h02 : (cd != 0) = true := by simpa using h0
    have hnil : cl = [] := by rw [CL.out]; exact joi_some (by rw [← CD.out]; exact h0)
    subst hnil
    obtain ⟨ac, cc, rfl, -⟩ := Jcxx.out.at
    clear h0
    go_wp2
    go_ret
    exact ⟨rfl, B7.out⟩

end Go.Proofs.Ytegdbcdffnopfaa
