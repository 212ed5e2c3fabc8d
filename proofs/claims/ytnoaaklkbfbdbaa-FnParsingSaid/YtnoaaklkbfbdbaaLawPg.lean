/- The walk of the law FnParsing. Conditions: those in the theorems. -/
import Derived.Test.YtnoaaklkbfbdbaaDmh
import Derived.Test.YtnoaaklkbfbdbaaJn06
import Derived.Test.YtnoaaklkbfbdbaaFText
import Derived.Test.YtnoaaklkbfbdbaaJn07
import Derived.Test.YtnoaaklkbfbdbaaWq
import Derived.Test.YtnoaaklkbfbdbaaPfv
namespace Go.Proofs.Ytnoaaklkbfbdbaa
open Go.RowKit

theorem bigNo (a : Option Addr) (len cap : Nat) (w : World) (h : len ≤ 4096) : Calls Try.prog 23 #[.slice a len cap] w fun e w' => e = .returned (.bool false) ∧ w = w' := by
  go_enter Try.func23, Try.ntmps23
  go_wp2
  go_ret
  exact ⟨ret_bool (decide_eq_false (by omega)), rfl⟩
theorem bigYes (a : Option Addr) (len cap : Nat) (w : World) (h : 4096 < len) : Calls Try.prog 23 #[.slice a len cap] w fun e w' => e = .returned (.bool true) ∧ w = w' := by
  go_enter Try.func23, Try.ntmps23
  go_wp2
  go_ret
  exact ⟨ret_bool (decide_eq_true (by omega)), rfl⟩
theorem toFm_enc' (f : Fm) (hf : f.ok) (h40 : f.sz ≤ 40) : toFm f.enc = f := by
  have hb := fm_is f hf h40
  obtain ⟨g1, g2, -⟩ := toFm_of hb
  exact (enc_inj _ g1 f [] [] hf (by rw [← g2])).1
/-- What the functions tell of a formula. -/
theorem fm_told (f : Fm) (hf : f.ok) (h40 : f.sz ≤ 40) : txR f.enc = str (f.wr 0) ∧ txC f.enc = 0 ∧ peR f.enc 0 = f.enc.length ∧ peC f.enc 0 = 0 := by
  have hb := fm_is f hf h40
  obtain ⟨t1, t2⟩ := tx_good hb
  have hp := (is_pos' hb).1
  have hin : inB (0 : Int) 0 ((f.enc.length : Int) - 1) = true := by simp [inB]; omega
  obtain ⟨k, e, hk, -, hpe, p1, p2⟩ := pe_good hb hin
  have hk0 : k = 0 := by omega
  subst hk0
  have q := pe_end f hf (xs := f.enc) (i := 0) (r := []) (by simp)
  rw [hpe] at q
  refine ⟨by rw [t1, toFm_enc' f hf h40], t2, ?_, p2⟩
  rw [p1, q, Fm.enc_len]
  simp
theorem str_parts (f : Fm) (hf : f.ok) (h40 : f.sz ≤ 40) : ((str (f.wr 0)).size : Int) ≤ 1048576 ∧ pfZ (str (f.wr 0)) = f.enc ∧ pfA (str (f.wr 0)) = 0 ∧ pfC (str (f.wr 0)) = 0 := by
  have e : (str (f.wr 0)).data.toList = f.wr 0 := by simp [str]
  obtain ⟨p1, p2, p3⟩ := p_wr f hf h40
  refine ⟨?_, by rw [pfZ, e, p1], by rw [pfA, e, p2], by rw [pfC, e, p3]⟩
  have := f.wr_len 0
  show ((f.wr 0).toArray.size : Int) ≤ 1048576
  simp
  omega

set_option maxHeartbeats 4000000 in
set_option maxRecDepth 100000 in
theorem lawParsing (a : Option Addr) (len cap : Nat) (zs : List Int) (w : World) (h : IsRow .u8 w a len cap zs) :
    Calls Try.prog 6 #[.slice a len cap] w fun e w' => e = .returned (.bool true) ∧ Below w.heap.size w w' := by
  by_cases hbig : 4096 < len
  · clear h
    go_enter Try.func6, Try.ntmps6
    go_wp2_with (go_at_call 23; refine (bigYes _ _ _ _ hbig).mono ?_; rintro e w' ⟨rfl, rfl⟩)
    go_ret
    exact ⟨rfl, Below.refl _ _⟩
  have hl : len ≤ 4096 := by omega
  have HC := Lib.hid (Code.of_row h hl)
  clear h hbig
  go_enter Try.func6, Try.ntmps6
  go_wp2_with fail
  refine (bigNo _ _ _ _ hl).mono ?_
  rintro e w' ⟨rfl, rfl⟩
  go_wp2_with fail
  refine (DrawParseFormula_any a len cap w HC.out).mono ?_
  rintro e w1 ⟨⟨t, rfl, ht⟩, hb⟩
  have B1 := Lib.hid hb
  clear hb HC
  have hts : (t.size : Int) ≤ 1048576 := by omega
  have PC := Lib.hid (p_cases t.data.toList)
  obtain ⟨z, hz⟩ : ∃ z, z = pfZ t := ⟨_, rfl⟩
  obtain ⟨p, hp⟩ : ∃ p, p = pfA t := ⟨_, rfl⟩
  obtain ⟨c, hc⟩ : ∃ c, c = pfC t := ⟨_, rfl⟩
  have KZ := Lib.hid hz
  have KP := Lib.hid hp
  have KC := Lib.hid hc
  have hzl : z.length ≤ 1048576 := by rw [hz]; exact ParseFormula_len t
  have PQ := Lib.hid (show (c = 6 ∧ z = [] ∧ 0 ≤ p ∧ p ≤ (t.size : Int)) ∨ (c = 3 ∧ z = [] ∧ p = 0) ∨ (c = 0 ∧ p = 0 ∧ ∃ f : Fm, f.ok ∧ f.sz ≤ 40 ∧ z = f.enc) by
    have q := PC.out
    rw [ba_len] at q
    rw [hz, hp, hc]
    exact q)
  clear hz hp hc PC
  go_wp2_with fail
  refine (implParseFormula_v t _ hts).mono ?_
  rw [← KZ.out, ← KP.out, ← KC.out]
  rintro e w2 ⟨va, rfl, ho, hb⟩
  have B2 := Lib.hid (B1.out.trans (hb.mono B1.out.size))
  have Ia2 := Lib.hid ho.inn
  clear ho hb
  go_wp2_with fail
  refine (specParseFormula_v t _ hts).mono ?_
  rw [← KZ.out, ← KP.out, ← KC.out]
  rintro e w3 ⟨vr, rfl, ho, hb⟩
  have B3 := Lib.hid (B2.out.trans (hb.mono B2.out.size))
  have Ia3 := Lib.hid (Ia2.out.below hb Ia2.out.2.1)
  have Ir3 := Lib.hid ho.inn
  clear ho hb Ia2
  go_wp2_with fail
  refine (same_in z _ _ _ _ _ _ _ hzl Ia3.out Ir3.out).mono ?_
  rintro e w4 ⟨rfl, hb⟩
  have B4 := Lib.hid (B3.out.trans (hb.mono B3.out.size))
  have Ia4 := Lib.hid (Ia3.out.below hb Ia3.out.2.1)
  clear hb Ia3 Ir3 B1 B2 B3
  rcases PQ.out with ⟨rfl, rfl, h0, h1⟩ | ⟨rfl, rfl, rfl⟩ | ⟨rfl, rfl, f, hf, h40, rfl⟩
  · obtain ⟨a1, c1, rfl, -⟩ := Ia4.out.at
    have d1 : decide ((0 : Int) ≤ p) = true := decide_eq_true h0
    have d2 : decide (p ≤ (t.size : Int)) = true := decide_eq_true h1
    go_wp2
    go_ret
    exact ⟨rfl, B4.out⟩
  · obtain ⟨a1, c1, rfl, -⟩ := Ia4.out.at
    go_wp2
    go_ret
    exact ⟨rfl, B4.out⟩
  · obtain ⟨t1, t2, t3, t4⟩ := fm_told f hf h40
    obtain ⟨s1, s2, s3, s4⟩ := str_parts f hf h40
    have T1 := Lib.hid t1
    have T2 := Lib.hid t2
    have T3 := Lib.hid t3
    have T4 := Lib.hid t4
    have S2 := Lib.hid s2
    have S3 := Lib.hid s3
    have S4 := Lib.hid s4
    clear hf h40 t1 t2 t3 t4 s2 s3 s4 PQ KZ KP KC
    obtain ⟨S, hS⟩ : ∃ S, S = str (f.wr 0) := ⟨_, rfl⟩
    rw [← hS] at T1 S2 S3 S4 s1
    clear hS
    obtain ⟨z, hz⟩ : ∃ z, z = f.enc := ⟨_, rfl⟩
    rw [← hz] at T1 T2 T3 T4 S2 hzl Ia4
    clear hz f
    go_wp2_with fail
    refine (implFormulaText_v z _ _ _ _ hzl Ia4.out).mono ?_
    rw [T1.out, T2.out]
    rintro e w5 ⟨rfl, hb⟩
    have B5 := Lib.hid (B4.out.trans (hb.mono B4.out.size))
    have Ia5 := Lib.hid (Ia4.out.below hb Ia4.out.2.1)
    clear hb Ia4 B4
    go_wp2_with fail
    refine (implParseFormula_v S _ s1).mono ?_
    rw [S2.out, S3.out, S4.out]
    rintro e w6 ⟨vb, rfl, ho, hb⟩
    have B6 := Lib.hid (B5.out.trans (hb.mono B5.out.size))
    have Ia6 := Lib.hid (Ia5.out.below hb Ia5.out.2.1)
    have Ib6 := Lib.hid ho.inn
    clear ho hb Ia5 B5
    go_wp2_with fail
    refine (implPartEnd_v z 0 _ _ _ _ hzl Ia6.out).mono ?_
    rw [T3.out, T4.out]
    rintro e w7 ⟨rfl, hb⟩
    have B7 := Lib.hid (B6.out.trans (hb.mono B6.out.size))
    have Ia7 := Lib.hid (Ia6.out.below hb Ia6.out.2.1)
    have Ib7 := Lib.hid (Ib6.out.below hb Ib6.out.2.1)
    clear hb Ia6 Ib6 B6
    go_wp2_with fail
    refine (same_in z _ _ _ _ _ _ _ hzl Ib7.out Ia7.out).mono ?_
    rintro e w8 ⟨rfl, hb⟩
    have B8 := Lib.hid (B7.out.trans (hb.mono B7.out.size))
    have Ia8 := Lib.hid (Ia7.out.below hb Ia7.out.2.1)
    clear hb Ia7 Ib7 B7
    obtain ⟨a1, c1, rfl, -⟩ := Ia8.out.at
    go_wp2
    go_ret
    exact ⟨rfl, B8.out⟩

end Go.Proofs.Ytnoaaklkbfbdbaa
