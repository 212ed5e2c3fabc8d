/- Contracts of the model's functions over maps between frames: the map's check, images of masks, morphisms. Conditions: those in the theorems. -/
import Derived.Test.YtomldealpmohhaaMrM
namespace Go.Proofs.Ytomldealpmohhaa
open Go.RowKit

set_option maxHeartbeats 400000 in
theorem l08Image_any (cs : List Int) (m : Int) (a : Option Addr) (cap : Nat) (w : World) (hl : cs.length ≤ 30) (hc : ∀ i, 0 ≤ nth cs i ∧ nth cs i ≤ 30) (h : At w a cs.length cs) :
    Calls Try.prog 116 #[.slice a cs.length cap, .int .i64 m] w fun e w' => e = .returned (.int .i64 (coTo cs m cs.length)) ∧ w = w' := by
  have H := Lib.hid h
  have HC := Lib.hid hc
  clear h hc
  go_enter Try.func116, Try.ntmps116
  go_wp2
  go_loop [5, 6] (fun s i => ∃ k : Nat, k ≤ cs.length ∧ i = .int .i64 k ∧ s = .int .i64 (coTo cs m k)) (fun _ i => cs.length - (intOf i).toNat)
  case atStart => exact ⟨0, Nat.zero_le _, rfl, rfl⟩
  case round =>
    obtain ⟨k, hk, rfl, rfl⟩ := hrel
    by_cases hlt : k < cs.length
    · obtain ⟨b, off, rfl, hb, hc⟩ := H.out.2.resolve_left (by omega)
      have hcell := hc k hlt
      obtain ⟨z, hz⟩ : ∃ z, z = nth cs k := ⟨_, rfl⟩
      rw [← hz] at hcell
      have hz0 : 0 ≤ z := by rw [hz]; exact (HC.out k).1
      have hz1 : z ≤ 30 := by rw [hz]; exact (HC.out k).2
      have Z := Lib.hid hz
      clear hc hz
      cases hbit : bitB m k
      all_goals
        have HB := Lib.hid hbit
        go_wp2_with (first | (go_at_call 52; refine (l01Bit_any _ _ _ (by omega) (by omega)).mono ?_; rintro e w' ⟨rfl, rfl⟩) | (go_at_call 66; refine (l01One_any _ _ (by omega) (by omega)).mono ?_; rintro e w' ⟨rfl, rfl⟩))
        go_round
        case rel => exact ⟨k + 1, hlt, by go_num, by simp only [coTo, HB.out, ← Z.out]; rfl⟩
        case measure => simp [intOf]; omega
    · obtain rfl : k = cs.length := by omega
      go_wp2
      go_ret
      exact ⟨rfl, rfl⟩

set_option maxHeartbeats 1000000 in
theorem l08Map_any (n0 n1 : Int) (ls : List Int) (a0 : Option Addr) (l0 c0 : Nat) (a1 : Option Addr) (l1 c1 : Nat) (al : Option Addr) (cl : Nat) (w : World) (hn1 : 0 ≤ n1) (hn1' : n1 ≤ 30) (hll : ls.length ≤ 1048576) (hL : At w al ls.length ls) :
    Calls Try.prog 85 #[.agg #[.int .i64 n0, .slice a0 l0 c0], .agg #[.int .i64 n1, .slice a1 l1 c1], .slice al ls.length cl] w fun e w' => e = .returned (.bool (mpB n0 n1 ls)) ∧ Below w.heap.size w w' := by
  obtain ⟨W, hW, HB, X0, X1, hWs⟩ := boxTf w n0 a0 l0 c0 n1 a1 l1 c1
  have HL := Lib.hid (hL.keep HB.out (Nat.le_refl _))
  have HW := Lib.hid hW
  obtain ⟨lt0, x0, x1⟩ := X0.out
  clear hL hW hWs
  by_cases h : (ls.length : Int) = n0
  · have LB := Lib.hid (show mpB n0 n1 ls = mapB n1 ls ls.length by unfold mpB; simp [h])
    have hb1 : ((ls.length : Int) == n0) = true := by simpa using h
    have hb2 : ((ls.length : Int) != n0) = false := by simpa using h
    have HN := Lib.hid h
    clear h
    go_enter Try.func85, Try.ntmps85
    go_wp2
    rw [← HW.out]
    clear x0 x1 hb1 hb2
    go_loopw [7] (fun i wr => ∃ k : Nat, k ≤ ls.length ∧ i = .int .i64 k ∧ mapB n1 ls k = true ∧ Hid (Below W.heap.size W wr)) (fun i _ => ls.length - (intOf i).toNat)
    case atStart => exact ⟨0, Nat.zero_le _, rfl, rfl, Lib.hid (Below.refl _ _)⟩
    case round =>
      obtain ⟨k, hk, rfl, hm, B⟩ := hrel
      have HM := Lib.hid hm
      clear hm
      by_cases hlt : k < ls.length
      · obtain ⟨b, off, rfl, hb, hc⟩ := (HL.out.keep B.out (Nat.le_refl _)).2.resolve_left (by omega)
        have hcell := hc k hlt
        obtain ⟨lt1, y0, y1⟩ := X1.out.keep B.out
        clear hc
        cases hz : wlB n1 (nth ls k)
        all_goals
          have HZ := Lib.hid hz
          clear hz
          go_wp2
          go_region_with (go_at_call 51; refine (l05World_any n1 _ _ _ _ _ hn1 hn1').mono ?_; rw [HZ.out]; rintro e w1 ⟨rfl, hb1⟩)
          all_goals
            have B1 := Lib.hid (B.out.trans ((below_of_drew hb1).mono B.out.size))
            clear hb1
            go_wp2
            first
            | (go_ret
               exact ⟨ret_bool (LB.out.trans (mapB_false (k := k + 1) hlt (by rw [mapB, HM.out, HZ.out]; rfl))).symm, HB.out.trans (B1.out.mono HB.out.size)⟩)
            | (go_roundw
               case rel => exact ⟨k + 1, hlt, by go_num, by rw [mapB, HM.out, HZ.out]; rfl, B1⟩
               case measure => simp [intOf]; omega)
      · obtain rfl : k = ls.length := by omega
        go_wp2
        go_ret
        exact ⟨ret_bool (LB.out.trans HM.out).symm, HB.out.trans (B.out.mono HB.out.size)⟩
  · have LB := Lib.hid (show mpB n0 n1 ls = false by unfold mpB; simp [h])
    have hb1 : ((ls.length : Int) == n0) = false := by simpa using h
    have hb2 : ((ls.length : Int) != n0) = true := by simpa using h
    clear h
    go_enter Try.func85, Try.ntmps85
    go_wp2
    rw [← HW.out]
    go_ret
    exact ⟨ret_bool LB.out.symm, HB.out⟩

set_option maxHeartbeats 1000000 in
theorem l08Is_any (n0 n1 : Int) (xs ps ls : List Int) (a0 : Option Addr) (c0 : Nat) (a1 : Option Addr) (c1 : Nat) (al : Option Addr) (cl : Nat) (w : World) (hm : Mp xs ps ls) (h0 : At w a0 xs.length xs) (h1 : At w a1 ps.length ps) (hL : At w al ls.length ls) :
    Calls Try.prog 77 #[.agg #[.int .i64 n0, .slice a0 xs.length c0], .agg #[.int .i64 n1, .slice a1 ps.length c1], .slice al ls.length cl] w fun e w' => e = .returned (.bool (mrB xs ps ls ls.length)) ∧ Below w.heap.size w w' := by
  obtain ⟨W, hW, HB, X0, X1, hWs⟩ := boxTf w n0 a0 xs.length c0 n1 a1 ps.length c1
  have H0 := Lib.hid (h0.keep HB.out (Nat.le_refl _))
  have H1 := Lib.hid (h1.keep HB.out (Nat.le_refl _))
  have HL := Lib.hid (hL.keep HB.out (Nat.le_refl _))
  have HW := Lib.hid hW
  have M := Lib.hid hm
  have IM := Lib.hid (fun q w (hat : At w al ls.length ls) => l08Image_any ls q al cl w (by have := hm.ll; have := hm.x8; omega) hm.b30 hat)
  have HX := Lib.hid (show ls.length = xs.length from hm.ll)
  have h8 : ls.length ≤ 30 := by have := hm.ll; have := hm.x8; omega
  clear h0 h1 hL hW hWs hm
  go_enter Try.func77, Try.ntmps77
  go_wp2
  rw [← HW.out]
  go_loopw [7] (fun i wr => ∃ k : Nat, k ≤ ls.length ∧ i = .int .i64 k ∧ mrB xs ps ls k = true ∧ Hid (Below W.heap.size W wr)) (fun i _ => ls.length - (intOf i).toNat)
  case atStart => exact ⟨0, Nat.zero_le _, rfl, rfl, Lib.hid (Below.refl _ _)⟩
  case round =>
    obtain ⟨k, hk, rfl, hm, B⟩ := hrel
    have HM := Lib.hid hm
    clear hm
    by_cases hlt : k < ls.length
    · have AL := Lib.hid (HL.out.keep B.out (Nat.le_refl _))
      obtain ⟨b, off, rfl, hb, hc⟩ := AL.out.2.resolve_left (by omega)
      obtain ⟨b0, o0, rfl, hb0, hc0⟩ := (H0.out.keep B.out (Nat.le_refl _)).2.resolve_left (by have := HX.out; omega)
      obtain ⟨q, hq, hqe⟩ := M.out.lb k hlt
      obtain ⟨b1, o1, rfl, hb1, hc1⟩ := (H1.out.keep B.out (Nat.le_refl _)).2.resolve_left (by omega)
      have g := hc k hlt
      rw [hqe] at g
      have g0 := hc0 k (by have := HX.out; omega)
      have g1 := hc1 q hq
      have hlt0 : (k : Int) < (xs.length : Int) := by have := HX.out; omega
      have hlt1 : (q : Int) < (ps.length : Int) := by omega
      obtain ⟨lt0, x0, x0'⟩ := X0.out.keep B.out
      obtain ⟨lt1, y0, y0'⟩ := X1.out.keep B.out
      have MB := Lib.hid (show ∀ z, (coTo ls (nth xs k) ls.length == nth ps q) = z → mrB xs ps ls (k + 1) = z from fun z e => by rw [mrB, HM.out, hqe, Int.toNat_natCast, e]; rfl)
      have AQ := Lib.hid (fun q => AL.out.keep (below_drewN (Below.refl wr.heap.size wr) q) (Nat.le_refl _))
      clear hc hc0 hc1 hqe
      cases hz : (coTo ls (nth xs k) ls.length == nth ps q)
      all_goals
        have hz2 : (coTo ls (nth xs k) ls.length != nth ps q) = !(coTo ls (nth xs k) ls.length == nth ps q) := rfl
        rw [hz] at hz2
        have HZ := Lib.hid (MB.out _ hz)
        clear hz
        go_wp2
        go_quiet ((go_at_call 116; exact q_same (IM.out _ _ (AQ.out _)) rfl))
        go_wp2
        first
        | (go_ret
           exact ⟨ret_bool (mrB_false (k := k + 1) hlt HZ.out).symm, below_drewN (HB.out.trans (B.out.mono HB.out.size)) _⟩)
        | (go_roundw
           case rel => exact ⟨k + 1, hlt, by go_num, HZ.out, Lib.hid (below_drewN B.out _)⟩
           case measure => simp [intOf]; omega)
    · obtain rfl : k = ls.length := by omega
      go_wp2
      go_ret
      exact ⟨ret_bool HM.out.symm, HB.out.trans (B.out.mono HB.out.size)⟩

set_option maxHeartbeats 1000000 in
theorem l08Code_any (n0 n1 : Int) (xs ps ls : List Int) (a0 : Option Addr) (c0 : Nat) (a1 : Option Addr) (c1 : Nat) (al : Option Addr) (cl : Nat) (w : World) (hl0 : xs.length ≤ 1048576) (hl1 : ps.length ≤ 1048576) (hll : ls.length ≤ 1048576) (h0 : At w a0 xs.length xs) (h1 : At w a1 ps.length ps) (hL : At w al ls.length ls) :
    Calls Try.prog 76 #[.agg #[.int .i64 n0, .slice a0 xs.length c0], .agg #[.int .i64 n1, .slice a1 ps.length c1], .slice al ls.length cl] w fun e w' => e = .returned (.int .i64 (imC n0 xs n1 ps ls)) ∧ Below w.heap.size w w' := by
  obtain ⟨W, hW, HB, X0, X1, hWs⟩ := boxTf w n0 a0 xs.length c0 n1 a1 ps.length c1
  have H0 := Lib.hid (h0.keep HB.out (Nat.le_refl _))
  have H1 := Lib.hid (h1.keep HB.out (Nat.le_refl _))
  have HL := Lib.hid (hL.keep HB.out (Nat.le_refl _))
  have HW := Lib.hid hW
  clear h0 h1 hL hW hWs
  obtain ⟨lt0, x0, x0'⟩ := X0.out
  obtain ⟨lt1, y0, y0'⟩ := X1.out
  cases hf0 : frB n0 xs
  · have F0 := Lib.hid hf0
    have C := Lib.hid (show imC n0 xs n1 ps ls = 1 by rw [imC, imK, hf0]; rfl)
    clear hf0
    go_enter Try.func76, Try.ntmps76
    go_wp2_with fail
    rw [← HW.out]
    refine (l05Is_any n0 xs _ _ _ _ hl0 H0.out).mono ?_
    rw [F0.out]
    rintro e w1 ⟨rfl, hb⟩
    have B1 := Lib.hid (HB.out.trans (hb.mono HB.out.size))
    clear hb x0 x0' y0 y0'
    go_wp2
    go_ret
    exact ⟨ret_int C.out.symm, B1.out⟩
  · cases hf1 : frB n1 ps
    · have F0 := Lib.hid hf0
      have F1 := Lib.hid hf1
      have C := Lib.hid (show imC n0 xs n1 ps ls = 1 by rw [imC, imK, hf0, hf1]; rfl)
      clear hf0 hf1
      go_enter Try.func76, Try.ntmps76
      go_wp2_with fail
      rw [← HW.out]
      refine (l05Is_any n0 xs _ _ _ _ hl0 H0.out).mono ?_
      rw [F0.out]
      rintro e w1 ⟨rfl, hb⟩
      have T1 := Lib.hid hb
      clear hb x0 x0' y0 y0'
      obtain ⟨lt1, y0, y0'⟩ := X1.out.keep T1.out
      go_wp2_with fail
      refine (l05Is_any n1 ps _ _ _ _ hl1 (H1.out.keep T1.out (Nat.le_refl _))).mono ?_
      rw [F1.out]
      rintro e w2 ⟨rfl, hb⟩
      have B2 := Lib.hid (HB.out.trans ((T1.out.trans (hb.mono T1.out.size)).mono HB.out.size))
      clear hb y0 y0'
      go_wp2
      go_ret
      exact ⟨ret_int C.out.symm, B2.out⟩
    · obtain ⟨hn1, h8, -, -⟩ := frB_ok hf1
      have hn10 : 0 ≤ n1 := by omega
      have hn11 : n1 ≤ 30 := by omega
      cases hm : mpB n0 n1 ls
      all_goals
        have F0 := Lib.hid hf0
        have F1 := Lib.hid hf1
        have F2 := Lib.hid hm
        have C := Lib.hid (show imC n0 xs n1 ps ls = if mpB n0 n1 ls then 0 else 1 by rw [imC, imK, hf0, hf1]; rfl)
        rw [hm] at C
        clear hf0 hf1 hm hn1
        go_enter Try.func76, Try.ntmps76
        go_wp2_with fail
        rw [← HW.out]
        refine (l05Is_any n0 xs _ _ _ _ hl0 H0.out).mono ?_
        rw [F0.out]
        rintro e w1 ⟨rfl, hb⟩
        have T1 := Lib.hid hb
        clear hb x0 x0' y0 y0'
        obtain ⟨lt1, y0, y0'⟩ := X1.out.keep T1.out
        go_wp2_with fail
        refine (l05Is_any n1 ps _ _ _ _ hl1 (H1.out.keep T1.out (Nat.le_refl _))).mono ?_
        rw [F1.out]
        rintro e w2 ⟨rfl, hb⟩
        have T2 := Lib.hid (T1.out.trans (hb.mono T1.out.size))
        clear hb y0 y0'
        obtain ⟨lt0, x0, x0'⟩ := X0.out.keep T2.out
        obtain ⟨lt1, y0, y0'⟩ := X1.out.keep T2.out
        go_wp2_with fail
        refine (l08Map_any n0 n1 ls _ _ _ _ _ _ _ _ _ hn10 hn11 hll (HL.out.keep T2.out (Nat.le_refl _))).mono ?_
        rw [F2.out]
        rintro e w3 ⟨rfl, hb⟩
        have B3 := Lib.hid (HB.out.trans ((T2.out.trans (hb.mono T2.out.size)).mono HB.out.size))
        clear hb x0 x0' y0 y0'
        go_wp2
        go_ret
        exact ⟨ret_int C.out.symm, B3.out⟩

end Go.Proofs.Ytomldealpmohhaa
