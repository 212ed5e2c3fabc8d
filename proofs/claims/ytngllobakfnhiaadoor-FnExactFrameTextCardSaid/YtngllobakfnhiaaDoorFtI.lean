/- The text of a frame, as the program writes it. Conditions: those in the theorems. -/
import Derived.Test.YtngllobakfnhiaaDoorFtM
namespace Go.Proofs.YtngllobakfnhiaaDoor
open Go.RowKit

set_option maxHeartbeats 1000000 in
theorem small_any (x : Int) (h0 : 0 ≤ x) (h1 : x ≤ 9) (w : World) : Calls Tryd.prog 29 #[.int .i64 x] w fun e w' => e = .returned (.string ⟨([dgF x]).toArray⟩) ∧ w = w' := by
  have hx : x = 0 ∨ x = 1 ∨ x = 2 ∨ x = 3 ∨ x = 4 ∨ x = 5 ∨ x = 6 ∨ x = 7 ∨ x = 8 ∨ x = 9 := by omega
  clear h0 h1
  rcases hx with rfl | rfl | rfl | rfl | rfl | rfl | rfl | rfl | rfl | rfl
  all_goals
    go_enter Tryd.func29, Tryd.ntmps29
    go_wp2
    go_ret
    exact ⟨by rfl, rfl⟩

set_option maxHeartbeats 1000000 in
theorem appendUint_any (x : Int) (h0 : 0 ≤ x) (h1 : x ≤ 9) (v : Value) (B : Nat) (ys : List UInt8) (w : World) (hB : B ≤ w.heap.size) (hy : ys.length ≤ 8000000) (ho : OwnF8 w B v ys) :
    Calls Tryd.prog 28 #[v, .int .u64 x, .int .i64 10] w fun e w' => ∃ v', e = .returned v' ∧ OwnF8 w' B v' (ys ++ [dgF x]) ∧ Below B w w' := by
  have SM := Lib.hid (small_any x h0 h1 w)
  have HO := Lib.hid ho
  have hx : x < 100 := by omega
  have hw : IntKind.i64.wrap x = x := by rw [IntKind.wrap_i64]; omega
  clear ho
  go_enter Tryd.func28, Tryd.ntmps28
  go_wp2_with (first | (go_at_call 29; refine SM.out.mono ?_; rintro e w' ⟨rfl, rfl⟩) | (at_builtin; refine list_appFS rfl _ _ rfl B v ys [dgF x] rfl HO.out rfl (by omega) (by simp) hB ?_; intro v' w2 ho hg; have O2 := Lib.hid ho; have B2 := Lib.hid (below_appF (Below.refl B _) hB HO.out hg); clear ho hg))
  go_ret
  exact ⟨_, rfl, O2.out, B2.out⟩

set_option maxHeartbeats 1000000 in
theorem appendInt_any (x : Int) (h0 : 0 ≤ x) (h1 : x ≤ 9) (v : Value) (B : Nat) (ys : List UInt8) (w : World) (hB : B ≤ w.heap.size) (hy : ys.length ≤ 8000000) (ho : OwnF8 w B v ys) :
    Calls Tryd.prog 22 #[v, .int .i64 x, .int .i64 10] w fun e w' => ∃ v', e = .returned v' ∧ OwnF8 w' B v' (ys ++ [dgF x]) ∧ Below B w w' := by
  have AU := Lib.hid (appendUint_any x h0 h1 v B ys w hB hy ho)
  clear ho
  have hw : IntKind.u64.wrap x = x := IntWalk.u64_in _ (by omega)
  have IN : Hid (Calls Tryd.prog 26 #[v, .int .i64 x, .int .i64 10] w fun e w' => ∃ v', e = .returned v' ∧ OwnF8 w' B v' (ys ++ [dgF x]) ∧ Below B w w') := Lib.hid (by
    go_enter Tryd.func26, Tryd.ntmps26
    go_wp2_with fail
    refine AU.out.mono ?_
    rintro e w1 ⟨v', rfl, ho, hb⟩
    have O := Lib.hid ho
    have Bl := Lib.hid hb
    clear ho hb
    go_wp2
    go_ret
    exact ⟨_, rfl, O.out, Bl.out⟩)
  clear AU hw
  go_enter Tryd.func22, Tryd.ntmps22
  go_wp2_with fail
  refine IN.out.mono ?_
  rintro e w1 ⟨v', rfl, ho, hb⟩
  have O := Lib.hid ho
  have Bl := Lib.hid hb
  clear ho hb
  go_wp2
  go_ret
  exact ⟨_, rfl, O.out, Bl.out⟩

/-- The members of a mask that are less than j, one more. -/
theorem rwT_step (x : Int) (m : Nat) (j : Nat) : rwT x (memTo m (j + 1)) = if bitN m j then rwT x (memTo m j) ++ arT x j else rwT x (memTo m j) := by
  rw [memTo]
  split
  · rw [rwT_app]; simp [rwT]
  · rfl

theorem in_nat {n : Nat} {x : Int} (h : InMk n x) : ∃ m : Nat, x = (m : Int) ∧ m < 2 ^ n := by
  obtain ⟨h0, h1⟩ := h
  obtain ⟨m, rfl⟩ := Int.eq_ofNat_of_zero_le h0
  exact ⟨m, rfl, by exact_mod_cast h1⟩

set_option maxHeartbeats 4000000 in
theorem frText_any (n : Int) (xs : List Int) (a : Option Addr) (cap : Nat) (w : World) (hf : frB n xs = true) (h : At w a xs.length xs) :
    Calls Tryd.prog 14 #[.agg #[.int .i64 n, .slice a xs.length cap]] w fun e w' => e = .returned (.string (strF (ftT n xs))) ∧ Below w.heap.size w w' := by
  obtain ⟨hn, h8, hmk, hrel⟩ := frB_ok hf
  obtain ⟨W, hW⟩ : ∃ W, W = w.alloc (.cells #[.int .i64 n, .slice a xs.length cap] 28) := ⟨_, rfl⟩
  have HB := Lib.hid (show Below w.heap.size w W by rw [hW]; exact (Below.refl _ _).alloc (Nat.le_refl _) _)
  have X := Lib.hid (show Bx W w.heap.size n a xs.length cap by rw [hW]; exact Bx.new _ _ _ _ _ _)
  have H := Lib.hid h
  have HW := Lib.hid hW
  have HR := Lib.hid hrel
  have WS := Lib.hid (show w.heap.size < W.heap.size by rw [hW]; simp)
  have hn0 : 0 ≤ n := by omega
  have hn9 : n ≤ 9 := by omega
  obtain ⟨N, hN⟩ : ∃ N, N = xs.length := ⟨_, rfl⟩
  have HN := Lib.hid hN
  have TT := Lib.hid (show ftT n xs = [dgF n, 58] ++ fxT xs N by rw [hN]; rfl)
  rw [← hN] at h8 hn X HW ⊢
  subst hn
  clear h hW hf hmk hrel hN
  go_enter Tryd.func14, Tryd.ntmps14
  obtain ⟨lt0, x0, x1⟩ := X.out
  go_wp2_with fail
  rw [← HW.out]
  refine (appendInt_any (N : Int) hn0 hn9 _ W.heap.size [] _ (Nat.le_refl _) (by simp) (ownF8_nil _ _)).mono ?_
  clear lt0 x0 x1
  rintro e w1 ⟨v1, rfl, ho, hb⟩
  have B1 := Lib.hid hb
  have s1 := hb.size
  have A1 := Lib.hid (show Below w1.heap.size w1 (w1.alloc (.cells #[.int .u8 58] 5)) from (Below.refl _ _).alloc (Nat.le_refl _) _)
  have P1 := Lib.hid (ho.inF8 A1.out)
  obtain ⟨a1, c1, rfl, -⟩ := OwnF8.at ho
  clear ho hb
  go_wp2_with (at_builtin; refine list_appF1 rfl _ _ rfl W.heap.size _ _ rfl P1.out ⟨w1.heap.size, 0, none⟩ 1 58 58 rfl (World.cell?_alloc_at _ _ _ _ rfl) rfl (by simp) (by simp; omega) ?_; intro v2 w2 ho hg; have O2 := Lib.hid ho; have B2 := Lib.hid (below_appF (B1.out.trans (A1.out.mono s1)) (by simp; omega) P1.out hg); obtain ⟨lt0, x0, x1⟩ := X.out.keep B2.out; obtain ⟨a2, c2, e2, -⟩ := OwnF8.at O2.out; subst e2; clear ho hg)
  have X2 := Lib.hid (X.out.keep B2.out)
  have X2W := Lib.hid (fun W' (hW' : Below W.heap.size W W') => show _ ∧ _ ∧ _ from X.out.keep hW')
  clear X B1 A1 P1
  have FX : Hid ([] ++ [dgF (N : Int)] ++ [58] ++ fxT xs 0 = [dgF (N : Int), 58] ++ fxT xs 0) := Lib.hid (by simp)
  obtain ⟨hd, hhd⟩ : ∃ hd, hd = [dgF (N : Int), 58] := ⟨_, rfl⟩
  have HD := Lib.hid (show hd.length = 2 by rw [hhd]; rfl)
  have TT2 := Lib.hid (show ftT (N : Int) xs = hd ++ fxT xs N by rw [hhd]; exact TT.out)
  have O3 := Lib.hid (show OwnF8 w2 W.heap.size (.slice a2 ([] ++ [dgF (N : Int)] ++ [58]).length c2) (hd ++ fxT xs 0) by rw [hhd]; have := O2.out; simpa [fxT] using this)
  clear O2 TT FX hhd
  go_loopw [3, 16] (fun v i wr => ∃ k : Nat, k ≤ N ∧ i = .int .i64 k ∧ OwnF8 wr W.heap.size v (hd ++ fxT xs k) ∧ Below W.heap.size W wr) (fun _ i _ => N - (intOf i).toNat)
  case atStart => exact ⟨0, Nat.zero_le _, rfl, O3.out, B2.out⟩
  case round =>
    obtain ⟨k, hk, rfl, hown, hbel⟩ := hrel
    have HO := Lib.hid hown
    have BL := Lib.hid hbel
    clear hown hbel
    by_cases hlt : k < N
    · obtain ⟨b, off, rfl, hb, hc⟩ := H.out.2.resolve_left (by have := HN.out; omega)
      obtain ⟨m, hm, hm2⟩ : ∃ m : Nat, nth xs k = (m : Int) ∧ m < 2 ^ N := by
        have := HR.out k
        rw [← HN.out] at this
        exact in_nat this
      have g1 : wr.cell? ⟨b, off + k, none⟩ = some (.int .i64 m) := by
        rw [← hm]
        exact ((HB.out.trans (BL.out.mono HB.out.size)).cell (p := ⟨b, off + k, none⟩) hb).trans (hc k (by have := HN.out; omega))
      have hk0 : (0 : Int) ≤ k := by omega
      have hk9 : (k : Int) ≤ 9 := by omega
      obtain ⟨lt0, x0, x1⟩ := X2W.out wr BL.out
      have FK := Lib.hid (show fxT xs (k + 1) = fxT xs k ++ rwT k (memTo m N) by rw [fxT, hm, Int.toNat_natCast, memTo_high hm2 30 (by omega)])
      have FL := Lib.hid (fxT_len xs k)
      have hmb : m < 1073741824 := Nat.lt_of_lt_of_le hm2 (Nat.le_trans (Nat.pow_le_pow_right (by decide) h8) (by decide))
      clear hc hm hm2
      go_wp2
      go_loopw [3, 24] (fun v i wq => ∃ j : Nat, j ≤ N ∧ i = .int .i64 j ∧ OwnF8 wq W.heap.size v (hd ++ (fxT xs k ++ rwT k (memTo m j))) ∧ Below W.heap.size W wq) (fun _ i _ => N - (intOf i).toNat)
      case atStart => exact ⟨0, Nat.zero_le _, rfl, by have := HO.out; simpa [rwT, memTo] using this, BL.out⟩
      case round =>
        obtain ⟨j, hj, rfl, hown, hbel⟩ := hrel
        have PO := Lib.hid hown
        have PB := Lib.hid hbel
        have hj0 : (0 : Int) ≤ j := by omega
        have hj9 : (j : Int) ≤ 9 := by omega
        have LL := Lib.hid (show (hd ++ (fxT xs k ++ rwT k (memTo m j))).length ≤ 2000 by
          have h1 := HD.out
          have h2 := FL.out
          have h3 := memTo_len m j
          rw [List.length_append, List.length_append, rwT_len]; omega)
        clear hown hbel
        by_cases hjl : j < N
        · have ST := Lib.hid (rwT_step (k : Int) m j)
          have BT := Lib.hid (bitB_nat m j hmb)
          cases hbt : bitN m j with
          | false =>
            rw [hbt] at ST BT
            go_wp2_with fail
            refine (hasMember_any (m : Int) (j : Int) _ hj0 (by omega)).mono ?_
            rw [BT.out]
            rintro e w' ⟨rfl, rfl⟩
            go_wp2
            go_roundw
            case rel => exact ⟨j + 1, hjl, by go_num, by rw [ST.out]; exact PO.out, PB.out⟩
            case measure => simp [intOf]; omega
          | true =>
            rw [hbt] at ST BT
            go_wp2_with fail
            refine (hasMember_any (m : Int) (j : Int) _ hj0 (by omega)).mono ?_
            rw [BT.out]
            rintro e wq ⟨rfl, rfl⟩
            have A31 := Lib.hid (show Below wr.heap.size wr (wr.alloc (.cells #[.int .u8 32] 5)) from (Below.refl _ _).alloc (Nat.le_refl _) _)
            have P31 := Lib.hid (PO.out.inF8 A31.out)
            have z31 := PB.out.size
            go_wp2_with (at_builtin; refine list_appF1 rfl _ _ rfl W.heap.size _ _ rfl P31.out ⟨wr.heap.size, 0, none⟩ 1 32 32 rfl (World.cell?_alloc_at _ _ _ _ rfl) rfl (by have := LL.out; simp only [List.length_append, List.length_cons, List.length_nil] at this ⊢; omega) (by simp; omega) ?_; intro v31 w31 ho hg; have O31 := Lib.hid ho; have B31 := Lib.hid (below_appF (PB.out.trans (A31.out.mono z31)) (by simp; omega) P31.out hg); clear ho hg)
            go_wp2_with fail
            refine (appendInt_any (k : Int) hk0 hk9 _ W.heap.size _ _ B31.out.size (by have := LL.out; simp only [List.length_append, List.length_cons, List.length_nil] at this ⊢; omega) O31.out).mono ?_
            rintro e w32 ⟨v32, rfl, ho, hb⟩
            have O32 := Lib.hid ho
            have B32 := Lib.hid (B31.out.trans hb)
            clear ho hb
            have A33 := Lib.hid (show Below w32.heap.size w32 (w32.alloc (.cells #[.int .u8 62] 5)) from (Below.refl _ _).alloc (Nat.le_refl _) _)
            have P33 := Lib.hid (O32.out.inF8 A33.out)
            have z33 := B32.out.size
            go_wp2_with (at_builtin; refine list_appF1 rfl _ _ rfl W.heap.size _ _ rfl P33.out ⟨w32.heap.size, 0, none⟩ 1 62 62 rfl (World.cell?_alloc_at _ _ _ _ rfl) rfl (by have := LL.out; simp only [List.length_append, List.length_cons, List.length_nil] at this ⊢; omega) (by simp; omega) ?_; intro v33 w33 ho hg; have O33 := Lib.hid ho; have B33 := Lib.hid (below_appF (B32.out.trans (A33.out.mono z33)) (by simp; omega) P33.out hg); clear ho hg)
            go_wp2_with fail
            refine (appendInt_any (j : Int) hj0 hj9 _ W.heap.size _ _ B33.out.size (by have := LL.out; simp only [List.length_append, List.length_cons, List.length_nil] at this ⊢; omega) O33.out).mono ?_
            rintro e w34 ⟨v34, rfl, ho, hb⟩
            have O34 := Lib.hid ho
            have B34 := Lib.hid (B33.out.trans hb)
            clear ho hb
            have EQ := Lib.hid (show hd ++ (fxT xs k ++ rwT k (memTo m j)) ++ [32] ++ [dgF (k : Int)] ++ [62] ++ [dgF (j : Int)] = hd ++ (fxT xs k ++ rwT k (memTo m (j + 1))) by rw [ST.out, if_pos trivial, arT]; simp)
            go_wp2
            go_roundw
            case rel => exact ⟨j + 1, hjl, by go_num, by rw [← EQ.out]; exact O34.out, B34.out⟩
            case measure => simp [intOf]; omega
        · obtain rfl : j = N := by omega
          go_wp2
          go_roundw
          case rel => exact ⟨k + 1, hlt, by go_num, by rw [FK.out]; exact PO.out, PB.out⟩
          case measure => simp [intOf]; omega
    · obtain rfl : k = N := by omega
      have RT := Lib.hid (run_textF HO.out)
      obtain ⟨a3, c3, e3, -⟩ := OwnF8.at HO.out
      subst e3
      have rt := RT.out
      rw [List.length_append] at rt
      go_wp2
      go_ret
      exact ⟨by rw [TT2.out]; rfl, HB.out.trans (BL.out.mono HB.out.size)⟩

end Go.Proofs.YtngllobakfnhiaaDoor
