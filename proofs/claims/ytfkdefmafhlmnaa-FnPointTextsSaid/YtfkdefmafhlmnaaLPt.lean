/- The walk of the law FnPointTexts. Conditions: those in the theorems. -/
import Derived.Test.YtfkdefmafhlmnaaDpp
import Derived.Test.YtfkdefmafhlmnaaJn09
namespace Go.Proofs.Ytfkdefmafhlmnaa
open Go.RowKit

theorem bigNoP (a : Option Addr) (len cap : Nat) (w : World) (h : len ≤ 4096) : Calls Try.prog 7 #[.slice a len cap] w fun e w' => e = .returned (.bool false) ∧ w = w' := by
  go_enter Try.func7, Try.ntmps7
  go_wp2
  go_ret
  exact ⟨ret_bool (decide_eq_false (by omega)), rfl⟩
theorem bigYesP (a : Option Addr) (len cap : Nat) (w : World) (h : 4096 < len) : Calls Try.prog 7 #[.slice a len cap] w fun e w' => e = .returned (.bool true) ∧ w = w' := by
  go_enter Try.func7, Try.ntmps7
  go_wp2
  go_ret
  exact ⟨ret_bool (decide_eq_true (by omega)), rfl⟩
theorem Code.up {B B' : Nat} {w : World} {a : Option Addr} {len : Nat} (h : Code B w a len) (hB : B ≤ B') : Code B' w a len := by
  refine ⟨h.1, ?_⟩
  rcases h.2 with h2 | ⟨b, off, ha, hb, hr⟩
  · exact .inl h2
  · exact .inr ⟨b, off, ha, Nat.lt_of_lt_of_le hb hB, hr⟩
/-- What is told of a list: it is no formula, or it is one whose text is read as it. -/
theorem pt_told (zs : List Pd) : ptC zs = 1 ∨ (ptC zs = 0 ∧ pqR (ptR zs) = zs ∧ pqC (ptR zs) = 0 ∧ (ptR zs).size ≤ 1000) := by
  cases hp : isP zs zs.length with
  | false => exact .inl (by rw [ptC, hp]; rfl)
  | true =>
    obtain ⟨k1, k2, k3⟩ := toPt_of hp
    have e1 : ptR zs = str (toPt zs).wr := by rw [ptR, hp, if_pos rfl]
    obtain ⟨y1, y2⟩ := pp_yes k1 k3 e1
    refine .inr ⟨by rw [ptC, hp]; rfl, by rw [y1, ← k2], y2, ?_⟩
    rw [e1]
    have := (toPt zs).wr_len
    show (toPt zs).wr.toArray.size ≤ 1000
    simp; omega
/-- What is read of a text has this text. -/
theorem pq_told (T : ByteArray) : pqC T = 6 ∨ (pqC T = 0 ∧ ptC (pqR T) = 0 ∧ ptR (pqR T) = T) := by
  by_cases h : pqP T
  · obtain ⟨f, h1, h2, h3⟩ := h
    obtain ⟨y1, y2⟩ := pp_yes h1 h2 h3
    have hi := pt_is f h1 h2
    refine .inr ⟨y2, by rw [y1, ptC, hi]; rfl, by rw [y1, ptR, hi, if_pos rfl, toPt_enc f h1 h2, h3]⟩
  · exact .inl (pp_no h).2

set_option maxHeartbeats 8000000 in
set_option maxRecDepth 100000 in
theorem lawPointTexts (a : Option Addr) (len cap : Nat) (zs : List Int) (w : World) (h : IsRow .u8 w a len cap zs) :
    Calls Try.prog 3 #[.slice a len cap] w fun e w' => e = .returned (.bool true) ∧ Below w.heap.size w w' := by
  by_cases hbig : 4096 < len
  · clear h
    go_enter Try.func3, Try.ntmps3
    go_wp2_with (go_at_call 7; refine (bigYesP _ _ _ _ hbig).mono ?_; rintro e w' ⟨rfl, rfl⟩)
    go_ret
    exact ⟨rfl, Below.refl _ _⟩
  have hl : len ≤ 4096 := by omega
  have HC := Lib.hid (Code.of_row h hl)
  clear h hbig
  go_enter Try.func3, Try.ntmps3
  go_wp2_with fail
  refine (bigNoP _ _ _ _ hl).mono ?_
  rintro e w' ⟨rfl, rfl⟩
  go_wp2_with fail
  refine (DrawPointText_any a len cap w HC.out).mono ?_
  rintro e w1 ⟨⟨v1, ls, rfl, ho, hll⟩, hb⟩
  have B1 := Lib.hid hb
  have I1 := Lib.hid ho.inn
  have PT := Lib.hid (pt_told ls)
  obtain ⟨S, hS⟩ : ∃ S, S = ptR ls := ⟨_, rfl⟩
  obtain ⟨c, hc⟩ : ∃ c, c = ptC ls := ⟨_, rfl⟩
  rw [← hS, ← hc] at PT
  have KS := Lib.hid hS
  have KC := Lib.hid hc
  clear hb ho hS hc
  go_wp2_with fail
  refine (implPointText_v ls _ _ _ _ (by omega) I1.out).mono ?_
  rw [← KS.out, ← KC.out]
  rintro e w2 ⟨rfl, hb⟩
  have B2 := Lib.hid (B1.out.trans (hb.mono B1.out.size))
  have I2 := Lib.hid (I1.out.below hb I1.out.2.1)
  clear hb I1
  go_wp2_with fail
  refine (specPointText_v ls _ _ _ _ (by omega) I2.out).mono ?_
  rw [← KS.out, ← KC.out]
  rintro e w3 ⟨rfl, hb⟩
  have B3 := Lib.hid (B2.out.trans (hb.mono B2.out.size))
  have I3 := Lib.hid (I2.out.below hb I2.out.2.1)
  clear hb I2 B1 B2
  rcases PT.out with rfl | ⟨rfl, t2, t3, t4⟩
  · clear PT
    have HD := Lib.hid ((HC.out.below B3.out).up B3.out.size)
    go_wp2_with fail
    refine (DrawParsePoint_any a len cap _ HD.out).mono ?_
    rintro e w6 ⟨⟨u, rfl, hu⟩, hb⟩
    have B6 := Lib.hid (B3.out.trans (hb.mono B3.out.size))
    have hus : (u.size : Int) ≤ 1048576 := by omega
    have QT := Lib.hid (pq_told u)
    obtain ⟨z, hz⟩ : ∃ z, z = pqR u := ⟨_, rfl⟩
    obtain ⟨d, hd⟩ : ∃ d, d = pqC u := ⟨_, rfl⟩
    have hzl : z.length ≤ 1048576 := by rw [hz]; exact ParsePoint_len u
    rw [← hz, ← hd] at QT
    have KZ := Lib.hid hz
    have KD := Lib.hid hd
    clear hb hz hd hu HD
    go_wp2_with fail
    refine (implParsePoint_v u _ hus).mono ?_
    rw [← KZ.out, ← KD.out]
    rintro e w7 ⟨v7, rfl, ho, hb⟩
    have B7 := Lib.hid (B6.out.trans (hb.mono B6.out.size))
    have P7 := Lib.hid ho.inn
    clear hb ho
    go_wp2_with fail
    refine (specParsePoint_v u _ hus).mono ?_
    rw [← KZ.out, ← KD.out]
    rintro e w8 ⟨v8, rfl, ho, hb⟩
    have B8 := Lib.hid (B7.out.trans (hb.mono B7.out.size))
    have P8 := Lib.hid (P7.out.below hb P7.out.2.1)
    have D8 := Lib.hid ho.inn
    clear hb ho P7 B6 B7
    have LK := Lib.hid (likePoints_in z _ _ _ _ _ _ _ hzl P8.out D8.out)
    rcases QT.out with rfl | ⟨rfl, q2, q3⟩
    · clear QT KD
      go_wp2_with (go_at_call 12; refine LK.out.mono ?_; rintro e w9 ⟨rfl, hb⟩; have B9 := Lib.hid (B8.out.trans (hb.mono B8.out.size)); have D9 := Lib.hid (D8.out.below hb D8.out.2.1); clear hb)
      go_ret
      exact ⟨rfl, B9.out⟩
    · have Q2 := Lib.hid q2
      have Q3 := Lib.hid q3
      clear q2 q3 QT KD
      go_wp2_with (go_at_call 12; refine LK.out.mono ?_; rintro e w9 ⟨rfl, hb⟩; have B9 := Lib.hid (B8.out.trans (hb.mono B8.out.size)); have D9 := Lib.hid (D8.out.below hb D8.out.2.1); clear hb)
      refine (implPointText_v z _ _ _ _ hzl D9.out).mono ?_
      rw [Q2.out, Q3.out]
      rintro e w10 ⟨rfl, hb⟩
      have B10 := Lib.hid (B9.out.trans (hb.mono B9.out.size))
      clear hb
      go_wp2
      go_ret
      exact ⟨rfl, B10.out⟩
  · have T2 := Lib.hid t2
    have T3 := Lib.hid t3
    have hSs : (S.size : Int) ≤ 1048576 := by omega
    clear t2 t3 t4 PT
    go_wp2_with fail
    refine (implParsePoint_v S _ hSs).mono ?_
    rw [T2.out, T3.out]
    rintro e w4 ⟨v4, rfl, ho, hb⟩
    have B4 := Lib.hid (B3.out.trans (hb.mono B3.out.size))
    have J4 := Lib.hid (I3.out.below hb I3.out.2.1)
    have P4 := Lib.hid ho.inn
    clear hb ho I3 B3
    have LQ := Lib.hid (likePoints_in ls _ _ _ _ _ _ _ (by omega) P4.out J4.out)
    go_wp2_with (go_at_call 12; refine LQ.out.mono ?_; rintro e w5 ⟨rfl, hb⟩; have B5 := Lib.hid (B4.out.trans (hb.mono B4.out.size)); clear hb)
    have HD := Lib.hid ((HC.out.below B5.out).up B5.out.size)
    go_wp2_with fail
    refine (DrawParsePoint_any a len cap _ HD.out).mono ?_
    rintro e w6 ⟨⟨u, rfl, hu⟩, hb⟩
    have B6 := Lib.hid (B5.out.trans (hb.mono B5.out.size))
    have hus : (u.size : Int) ≤ 1048576 := by omega
    have QT := Lib.hid (pq_told u)
    obtain ⟨z, hz⟩ : ∃ z, z = pqR u := ⟨_, rfl⟩
    obtain ⟨d, hd⟩ : ∃ d, d = pqC u := ⟨_, rfl⟩
    have hzl : z.length ≤ 1048576 := by rw [hz]; exact ParsePoint_len u
    rw [← hz, ← hd] at QT
    have KZ := Lib.hid hz
    have KD := Lib.hid hd
    clear hb hz hd hu HD
    go_wp2_with fail
    refine (implParsePoint_v u _ hus).mono ?_
    rw [← KZ.out, ← KD.out]
    rintro e w7 ⟨v7, rfl, ho, hb⟩
    have B7 := Lib.hid (B6.out.trans (hb.mono B6.out.size))
    have P7 := Lib.hid ho.inn
    clear hb ho
    go_wp2_with fail
    refine (specParsePoint_v u _ hus).mono ?_
    rw [← KZ.out, ← KD.out]
    rintro e w8 ⟨v8, rfl, ho, hb⟩
    have B8 := Lib.hid (B7.out.trans (hb.mono B7.out.size))
    have P8 := Lib.hid (P7.out.below hb P7.out.2.1)
    have D8 := Lib.hid ho.inn
    clear hb ho P7 B6 B7
    have LK := Lib.hid (likePoints_in z _ _ _ _ _ _ _ hzl P8.out D8.out)
    rcases QT.out with rfl | ⟨rfl, q2, q3⟩
    · clear QT KD
      go_wp2_with (go_at_call 12; refine LK.out.mono ?_; rintro e w9 ⟨rfl, hb⟩; have B9 := Lib.hid (B8.out.trans (hb.mono B8.out.size)); have D9 := Lib.hid (D8.out.below hb D8.out.2.1); clear hb)
      go_ret
      exact ⟨rfl, B9.out⟩
    · have Q2 := Lib.hid q2
      have Q3 := Lib.hid q3
      clear q2 q3 QT KD
      go_wp2_with (go_at_call 12; refine LK.out.mono ?_; rintro e w9 ⟨rfl, hb⟩; have B9 := Lib.hid (B8.out.trans (hb.mono B8.out.size)); have D9 := Lib.hid (D8.out.below hb D8.out.2.1); clear hb)
      refine (implPointText_v z _ _ _ _ hzl D9.out).mono ?_
      rw [Q2.out, Q3.out]
      rintro e w10 ⟨rfl, hb⟩
      have B10 := Lib.hid (B9.out.trans (hb.mono B9.out.size))
      clear hb
      go_wp2
      go_ret
      exact ⟨rfl, B10.out⟩

end Go.Proofs.Ytfkdefmafhlmnaa
