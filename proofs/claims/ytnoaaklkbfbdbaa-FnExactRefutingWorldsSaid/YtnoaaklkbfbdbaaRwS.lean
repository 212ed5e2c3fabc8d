/- The model's errors of a search, and what it answers for the worlds that refute a formula. Conditions: those in the theorems. -/
import Derived.Test.YtnoaaklkbfbdbaaVaS
import Derived.Test.YtnoaaklkbfbdbaaRwP
namespace Go.Proofs.Ytnoaaklkbfbdbaa
open Go.RowKit

theorem l06Fits_any (n : Int) (xss : List (List Nd)) (a : Option Addr) (len cap : Nat) (p : Option Addr) (l c : Nat) (w : World) (hn0 : 0 ≤ n) (hn8 : n ≤ 8) (hl : l ≤ 2097152) (hok : okAll xss l = true) (h : AtNN w p l xss) :
    Calls Try.prog 76 #[.agg #[.int .i64 n, .slice a len cap], .slice p l c] w fun e w' => e = .returned (.bool (decide (n * (memTo (mkL xss l) 30).length ≤ 16))) ∧ Below w.heap.size w w' := by
  obtain ⟨W, hW, HB, X⟩ : ∃ W : World, W = w.alloc (.cells #[.int .i64 n, .slice a len cap] 30) ∧ Hid (Below w.heap.size w W) ∧ Hid (Bx W w.heap.size n a len cap) := ⟨_, rfl, Lib.hid (alloc_keep _ _).1, Lib.hid (Bx.new _ _ _ _ _ _)⟩
  have LV := Lib.hid (fun w' (hw : Below W.heap.size W w') => l06Variables_any xss p l c w' hl hok ((h.keep HB.out (Nat.le_refl _)).keep hw (Nat.le_refl _)))
  have HW := Lib.hid hW
  have v6 := (mem_vs (mkL_lt hok l (Nat.le_refl _))).l6
  obtain ⟨N, hN⟩ : ∃ N : Nat, N = n.toNat := ⟨_, rfl⟩
  have hNn : n = (N : Int) := by omega
  obtain ⟨k, hk⟩ : ∃ k, k = (memTo (mkL xss l) 30).length := ⟨_, rfl⟩
  obtain ⟨m, hm⟩ : ∃ m, m = N * k := ⟨_, rfl⟩
  have hmm : n * (k : Int) = (m : Int) := by rw [hm, hNn]; simp
  have hm48 : m ≤ 48 := by rw [hm]; exact Nat.mul_le_mul (show N ≤ 8 by omega) (show k ≤ 6 by omega)
  have hwm : IntKind.i64.wrap (n * (k : Int)) = n * (k : Int) := by rw [hmm, IntKind.wrap_i64]; omega
  have KK := Lib.hid hk
  rw [← hk]
  clear h hW hok hk hm hN hNn hmm v6
  obtain ⟨lt, x0, x1⟩ := X.out
  go_enter Try.func76, Try.ntmps76
  go_wp2
  rw [← HW.out]
  go_region_with (go_at_call 87; refine (LV.out _ (by first | exact Below.refl _ _ | exact (Below.refl _ _).drew)).mono ?_; rintro e w3 ⟨v3, rfl, ho, hb3⟩; obtain ⟨a3, k3, e3, -⟩ := ho.at; rw [← KK.out] at e3; subst e3; have T3 := Lib.hid (below_of_drew hb3); clear ho hb3; obtain ⟨lz, z0, z1⟩ := X.out.keep T3.out)
  all_goals
    go_wp2
    go_ret
    exact ⟨ret_bool rfl, HB.out.trans (T3.out.mono HB.out.size)⟩

set_option maxHeartbeats 2000000 in
theorem l06Code_any (n : Int) (xs : List Int) (xss : List (List Nd)) (a : Option Addr) (cap : Nat) (p : Option Addr) (l c : Nat) (w : World) (hl0 : xs.length ≤ 1048576) (hl : l ≤ 2097152) (hi : ∀ j, j < l → (nthL xss j).length ≤ 1048576) (hx : At w a xs.length xs) (h : AtNN w p l xss) :
    Calls Try.prog 36 #[.agg #[.int .i64 n, .slice a xs.length cap], .slice p l c] w fun e w' => e = .returned (.int .i64 (csC n xs (okAll xss l) (memTo (mkL xss l) 30).length)) ∧ Below w.heap.size w w' := by
  obtain ⟨W, hW, HB, X⟩ : ∃ W : World, W = w.alloc (.cells #[.int .i64 n, .slice a xs.length cap] 30) ∧ Hid (Below w.heap.size w W) ∧ Hid (Bx W w.heap.size n a xs.length cap) := ⟨_, rfl, Lib.hid (alloc_keep _ _).1, Lib.hid (Bx.new _ _ _ _ _ _)⟩
  have IS := Lib.hid (l05Is_any n xs a xs.length cap W hl0 (hx.keep HB.out (Nat.le_refl _)))
  have H := Lib.hid (h.keep HB.out (Nat.le_refl _))
  have HI := Lib.hid hi
  have HW := Lib.hid hW
  clear h hx hW hi
  obtain ⟨lt, x0, x1⟩ := X.out
  cases hf : frB n xs
  · have F := Lib.hid hf
    have C := Lib.hid (show csC n xs (okAll xss l) (memTo (mkL xss l) 30).length = 1 by rw [csC, hf]; rfl)
    clear hf
    go_enter Try.func36, Try.ntmps36
    go_wp2_with fail
    rw [← HW.out]
    refine IS.out.mono ?_
    rw [F.out]
    rintro e w1 ⟨rfl, hb⟩
    have T := Lib.hid (HB.out.trans (hb.mono HB.out.size))
    clear hb lt x0 x1
    go_wp2
    go_ret
    exact ⟨ret_int C.out.symm, T.out⟩
  · have F := Lib.hid hf
    obtain ⟨hn, h8, -, -⟩ := frB_ok hf
    have hn0 : 0 ≤ n := by omega
    have hn8 : n ≤ 8 := by omega
    clear hn h8
    go_enter Try.func36, Try.ntmps36
    go_wp2_with fail
    rw [← HW.out]
    refine IS.out.mono ?_
    rw [F.out]
    rintro e w1 ⟨rfl, hb⟩
    have T := Lib.hid hb
    clear hb lt x0 x1
    go_wp2
    go_loop [5] (fun i => ∃ j : Nat, j ≤ l ∧ i = .int .i64 j ∧ Hid (okAll xss j = true)) (fun i => l - (intOf i).toNat)
    case atStart => exact ⟨0, Nat.zero_le _, rfl, Lib.hid rfl⟩
    case round =>
      obtain ⟨j, hj, rfl, O⟩ := hrel
      by_cases hlt : j < l
      · obtain ⟨b, o, rfl, hb, hc⟩ := (H.out.keep T.out (Nat.le_refl _)).2.resolve_left (by omega)
        obtain ⟨a2, c2, g, hz⟩ := hc j hlt
        have hz2 := HI.out j hlt
        cases hbj : isB (nthL xss j) (nthL xss j).length
        · have NO := Lib.hid (okAll_bad hlt hbj)
          have IJ := Lib.hid (by have q := l02Is_any (nthL xss j) a2 _ c2 w1 hz2 hz; rw [hbj] at q; exact q)
          have C := Lib.hid (show csC n xs (okAll xss l) (memTo (mkL xss l) 30).length = 1 by rw [csC, hf, NO.out]; rfl)
          clear hc hz hbj hz2 hf
          go_wp2_with (go_at_call 67; refine IJ.out.mono ?_; rintro e w' ⟨rfl, rfl⟩)
          go_ret
          exact ⟨ret_int C.out.symm, HB.out.trans (T.out.mono HB.out.size)⟩
        · have YES := Lib.hid (okAll_succ O.out hbj)
          have IJ := Lib.hid (by have q := l02Is_any (nthL xss j) a2 _ c2 w1 hz2 hz; rw [hbj] at q; exact q)
          clear hc hz hbj hz2 hf
          go_wp2_with (go_at_call 67; refine IJ.out.mono ?_; rintro e w' ⟨rfl, rfl⟩)
          go_round
          case rel => exact ⟨j + 1, hlt, by go_num, YES⟩
          case measure => simp [intOf]; omega
      · obtain rfl : j = l := by omega
        obtain ⟨lt, x0, x1⟩ := X.out.keep T.out
        have FI := Lib.hid (l06Fits_any n xss a xs.length cap p j c w1 hn0 hn8 hl O.out (H.out.keep T.out (Nat.le_refl _)))
        by_cases h16 : n * (memTo (mkL xss j) 30).length ≤ 16
        · have C := Lib.hid (show csC n xs (okAll xss j) (memTo (mkL xss j) 30).length = 0 by rw [csC, hf, O.out, show (true && true) = true from rfl, if_pos rfl, if_neg (by omega)])
          have D := Lib.hid (decide_eq_true h16)
          clear hf h16
          go_wp2_with fail
          refine FI.out.mono ?_
          rw [D.out]
          rintro e w2 ⟨rfl, hb⟩
          have T2 := Lib.hid (T.out.trans (hb.mono T.out.size))
          clear hb lt x0 x1
          go_wp2
          go_ret
          exact ⟨ret_int C.out.symm, HB.out.trans (T2.out.mono HB.out.size)⟩
        · have C := Lib.hid (show csC n xs (okAll xss j) (memTo (mkL xss j) 30).length = 3 by rw [csC, hf, O.out, show (true && true) = true from rfl, if_pos rfl, if_pos (by omega)])
          have D := Lib.hid (decide_eq_false h16)
          clear hf h16
          go_wp2_with fail
          refine FI.out.mono ?_
          rw [D.out]
          rintro e w2 ⟨rfl, hb⟩
          have T2 := Lib.hid (T.out.trans (hb.mono T.out.size))
          clear hb lt x0 x1
          go_wp2
          go_ret
          exact ⟨ret_int C.out.symm, HB.out.trans (T2.out.mono HB.out.size)⟩

theorem mkL_1 (zs : List Nd) : mkL [zs] 1 = mkTo zs zs.length := by
  show 0 ||| mkTo (nthL [zs] 0) (nthL [zs] 0).length = _
  rw [Nat.zero_or]; rfl

end Go.Proofs.Ytnoaaklkbfbdbaa
