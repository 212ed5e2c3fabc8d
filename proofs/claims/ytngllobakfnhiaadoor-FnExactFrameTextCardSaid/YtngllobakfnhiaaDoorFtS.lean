/- The model's text of a frame, and what both sides answer. Conditions: those in the theorems. -/
import Derived.Test.YtngllobakfnhiaaDoorFtI
namespace Go.Proofs.YtngllobakfnhiaaDoor
open Go.RowKit

theorem memTo_bd (m : Nat) : ∀ k, ∀ x ∈ memTo m k, 0 ≤ x ∧ x < k
  | 0 => by simp [memTo]
  | k + 1 => by
    intro x hx
    have ih := memTo_bd m k
    rw [memTo] at hx
    split at hx
    · rcases List.mem_append.1 hx with h | h
      · have := ih x h; omega
      · have : x = k := by simpa using h
        omega
    · have := ih x hx; omega
theorem rwT_take (x : Int) (ks : List Int) (j : Nat) (h : j < ks.length) : rwT x (ks.take (j + 1)) = rwT x (ks.take j) ++ ([32] ++ [dgF x] ++ [62] ++ [dgF (nth ks j)]) := by
  have e : nth ks j = ks[j] := by unfold nth; simp [List.getD, h]
  rw [List.take_succ_eq_append_getElem h, rwT_app, e]; simp [rwT, arT]

set_option maxHeartbeats 4000000 in
set_option maxRecDepth 100000 in
theorem l05Text_any (n : Int) (xs : List Int) (a : Option Addr) (cap : Nat) (w : World) (hf : frB n xs = true) (h : At w a xs.length xs) :
    Calls Tryd.prog 11 #[.agg #[.int .i64 n, .slice a xs.length cap]] w fun e w' => e = .returned (.string (strF (ftT n xs))) ∧ Below w.heap.size w w' := by
  obtain ⟨hn, h8, hmk, hrel⟩ := frB_ok hf
  obtain ⟨W, hW⟩ : ∃ W, W = w.alloc (.cells #[.int .i64 n, .slice a xs.length cap] 28) := ⟨_, rfl⟩
  have HB := Lib.hid (show Below w.heap.size w W by rw [hW]; exact (Below.refl _ _).alloc (Nat.le_refl _) _)
  have X := Lib.hid (show Bx W w.heap.size n a xs.length cap by rw [hW]; exact Bx.new _ _ _ _ _ _)
  have H := Lib.hid h
  have HW := Lib.hid hW
  have HR := Lib.hid hrel
  have WS := Lib.hid (show w.heap.size < W.heap.size by rw [hW]; simp)
  have hn0 : 0 ≤ n := by omega
  have hn9 : n ≤ 9 := by omega
  obtain ⟨N, hN⟩ : ∃ N, N = xs.length := ⟨_, rfl⟩
  have HN := Lib.hid hN
  have TT := Lib.hid (show ftT n xs = [dgF n, 58] ++ fxT xs N by rw [hN]; rfl)
  rw [← hN] at h8 hn X HW ⊢
  subst hn
  clear h hW hf hmk hrel hN
  have LD := Lib.hid (fun W => l01Dec_F (N : Int) hn0 hn9 W)
  obtain ⟨S1, hS1⟩ : ∃ S, S = strF [dgF (N : Int)] := ⟨_, rfl⟩
  obtain ⟨hd, hhd⟩ : ∃ hd, hd = [dgF (N : Int), 58] := ⟨_, rfl⟩
  obtain ⟨S2, hS2⟩ : ∃ S, S = strF (hd ++ fxT xs 0) := ⟨_, rfl⟩
  have ad1 : ∀ w, (Op.stringOp .add S1 ⟨#[58]⟩).run Tryd.prog w = .ok (.string S2) w := fun w => by rw [hS1, hS2, hhd]; exact add_strF [dgF (N : Int)] [58] (by simp) w
  have HD := Lib.hid (show hd.length = 2 by rw [hhd]; rfl)
  rw [← hhd] at TT
  rw [← hS1] at LD
  clear hS1 hhd
  have HS2 := Lib.hid hS2
  clear hS2
  have X2W := Lib.hid (fun W' (hW' : Below W.heap.size W W') => show _ ∧ _ ∧ _ from X.out.keep hW')
  go_enter Tryd.func11, Tryd.ntmps11
  obtain ⟨lt0, x0, x1⟩ := X.out
  go_wp2_with fail
  rw [← HW.out]
  refine (LD.out _).mono ?_
  rintro e w1 ⟨rfl, hb⟩
  have B1 := Lib.hid hb
  clear hb lt0 x0 x1
  obtain ⟨lt0, x0, x1⟩ := X2W.out _ B1.out
  go_wp2
  go_loopw [3, 4] (fun v i wr => ∃ k : Nat, k ≤ N ∧ i = .int .i64 k ∧ v = .string (strF (hd ++ fxT xs k)) ∧ Below W.heap.size W wr) (fun _ i _ => N - (intOf i).toNat)
  case atStart => exact ⟨0, Nat.zero_le _, rfl, by rw [HS2.out], B1.out⟩
  case round =>
    obtain ⟨k, hk, rfl, rfl, hbel⟩ := hrel
    have BL := Lib.hid hbel
    clear hbel lt0 x0 x1 ad1
    obtain ⟨lt0, x0, x1⟩ := X2W.out _ BL.out
    obtain ⟨S0, hS0⟩ : ∃ S, S = strF (hd ++ fxT xs k) := ⟨_, rfl⟩
    rw [← hS0]
    have HS0 := Lib.hid hS0
    clear hS0
    by_cases hlt : k < N
    · obtain ⟨b, off, rfl, hb, hc⟩ := H.out.2.resolve_left (by have := HN.out; omega)
      obtain ⟨m, hm, hm2⟩ : ∃ m : Nat, nth xs k = (m : Int) ∧ m < 2 ^ N := by
        have := HR.out k
        rw [← HN.out] at this
        exact in_nat this
      have g1 : wr.cell? ⟨b, off + k, none⟩ = some (.int .i64 m) := by
        rw [← hm]
        exact ((HB.out.trans (BL.out.mono HB.out.size)).cell (p := ⟨b, off + k, none⟩) hb).trans (hc k (by have := HN.out; omega))
      have hk0 : (0 : Int) ≤ k := by omega
      have hk9 : (k : Int) ≤ 9 := by omega
      have hmb : m < 1073741824 := Nat.lt_of_lt_of_le hm2 (Nat.le_trans (Nat.pow_le_pow_right (by decide) h8) (by decide))
      have LS := Lib.hid (fun W => l01List_any m hmb W)
      have FK := Lib.hid (show fxT xs (k + 1) = fxT xs k ++ rwT k (memTo m 30) by rw [fxT, hm, Int.toNat_natCast])
      have FL := Lib.hid (fxT_len xs k)
      have KB := Lib.hid (fun j (hj : j < (memTo m 30).length) => show 0 ≤ nth (memTo m 30) j ∧ nth (memTo m 30) j ≤ 9 by
        have h1 := memTo_high hm2 30 (by omega)
        rw [h1] at hj ⊢
        have h2 := memTo_bd m N (nth (memTo m N) j) (by unfold nth; rw [List.getD_eq_getElem?_getD, List.getElem?_eq_getElem hj]; exact List.getElem_mem hj)
        omega)
      have KL := Lib.hid (memTo_len m 30)
      obtain ⟨ks, hks⟩ : ∃ ks, ks = memTo m 30 := ⟨_, rfl⟩
      rw [← hks] at LS FK KB KL
      clear hc hm hm2 hks
      go_wp2_with fail
      refine (LS.out _).mono ?_
      rintro e w1 ⟨v5, rfl, ho, hb5⟩
      obtain ⟨a5, c5, rfl, hat, -⟩ := ho.at
      have A5 := Lib.hid hat
      have B5 := Lib.hid (BL.out.trans (hb5.mono BL.out.size))
      clear hb5 ho hat
      go_wp2
      go_loopw [3, 6] (fun v i wq => ∃ j : Nat, j ≤ ks.length ∧ i = .int .i64 j ∧ v = .string (strF (hd ++ (fxT xs k ++ rwT k (ks.take j)))) ∧ Below w1.heap.size w1 wq) (fun _ i _ => ks.length - (intOf i).toNat)
      case atStart => exact ⟨0, Nat.zero_le _, rfl, by rw [HS0.out]; simp [rwT], Below.refl _ _⟩
      case round =>
        obtain ⟨j, hj, rfl, rfl, hb5⟩ := hrel
        have B6 := Lib.hid hb5
        clear hb5 lt0 x0 x1
        by_cases hjl : j < ks.length
        · obtain ⟨hx0, hx9⟩ := KB.out j hjl
          have LK := Lib.hid (fun W => l01Dec_F (k : Int) hk0 hk9 W)
          have LX := Lib.hid (fun W => l01Dec_F (nth ks j) hx0 hx9 W)
          obtain ⟨b5, off5, rfl, hbb, hcc⟩ := A5.out.2.resolve_left (by omega)
          have CC := Lib.hid (fun W' (hW' : Below w1.heap.size w1 W') => show W'.cell? ⟨b5, off5 + j, none⟩ = some (.int .i64 (nth ks j)) from (hW'.cell (p := ⟨b5, off5 + j, none⟩) hbb).trans (hcc j hjl))
          have RT := Lib.hid (rwT_take (k : Int) ks j hjl)
          have LEN := Lib.hid (show (hd ++ (fxT xs k ++ rwT k (ks.take j))).length ≤ 1200 by
            have h1 := HD.out
            have h2 := FL.out
            have h3 := KL.out
            rw [List.length_append, List.length_append, rwT_len, List.length_take]; omega)
          obtain ⟨T0, hT0⟩ : ∃ T, T = hd ++ (fxT xs k ++ rwT k (ks.take j)) := ⟨_, rfl⟩
          rw [← hT0] at LEN ⊢
          have EQ := Lib.hid (show hd ++ (fxT xs k ++ rwT k (ks.take (j + 1))) = T0 ++ [32] ++ [dgF (k : Int)] ++ [62] ++ [dgF (nth ks j)] by rw [RT.out, hT0]; simp)
          obtain ⟨x, hx⟩ : ∃ x, x = nth ks j := ⟨_, rfl⟩
          rw [← hx] at LX CC EQ hx0 hx9
          obtain ⟨P0, hP0⟩ : ∃ S, S = strF T0 := ⟨_, rfl⟩
          obtain ⟨PK, hPK⟩ : ∃ S, S = strF [dgF (k : Int)] := ⟨_, rfl⟩
          obtain ⟨PX, hPX⟩ : ∃ S, S = strF [dgF x] := ⟨_, rfl⟩
          obtain ⟨P1, hP1⟩ : ∃ S, S = strF (T0 ++ [32]) := ⟨_, rfl⟩
          obtain ⟨P2, hP2⟩ : ∃ S, S = strF (T0 ++ [32] ++ [dgF (k : Int)]) := ⟨_, rfl⟩
          obtain ⟨P3, hP3⟩ : ∃ S, S = strF (T0 ++ [32] ++ [dgF (k : Int)] ++ [62]) := ⟨_, rfl⟩
          obtain ⟨P4, hP4⟩ : ∃ S, S = strF (T0 ++ [32] ++ [dgF (k : Int)] ++ [62] ++ [dgF x]) := ⟨_, rfl⟩
          have q1 : ∀ w, (Op.stringOp .add P0 ⟨#[32]⟩).run Tryd.prog w = .ok (.string P1) w := fun w => by rw [hP0, hP1]; exact add_strF T0 [32] (by have := LEN.out; simp; omega) w
          have q2 : ∀ w, (Op.stringOp .add P1 PK).run Tryd.prog w = .ok (.string P2) w := fun w => by rw [hP1, hPK, hP2]; exact add_strF (T0 ++ [32]) [dgF (k : Int)] (by have := LEN.out; simp; omega) w
          have q3 : ∀ w, (Op.stringOp .add P2 ⟨#[62]⟩).run Tryd.prog w = .ok (.string P3) w := fun w => by rw [hP2, hP3]; exact add_strF (T0 ++ [32] ++ [dgF (k : Int)]) [62] (by have := LEN.out; simp; omega) w
          have q4 : ∀ w, (Op.stringOp .add P3 PX).run Tryd.prog w = .ok (.string P4) w := fun w => by rw [hP3, hPX, hP4]; exact add_strF (T0 ++ [32] ++ [dgF (k : Int)] ++ [62]) [dgF x] (by have := LEN.out; simp; omega) w
          have E4 := Lib.hid (show strF (hd ++ (fxT xs k ++ rwT k (ks.take (j + 1)))) = P4 by rw [EQ.out, hP4])
          rw [← hPK] at LK
          rw [← hPX] at LX
          rw [← hP0]
          have kl := KL.out
          have y0 := CC.out _ B6.out
          clear hP0 hP1 hP2 hP3 hP4 hPK hPX hT0 hx hbb hcc EQ RT LEN
          go_wp2
          go_region_law (first | (go_simp; go_at_call_of 18 (k : Int); refine (LK.out _).mono ?_; rintro e w2 ⟨rfl, hb⟩; have T1 := Lib.hid (show Below w1.heap.size w1 w2 from B6.out.trans ((below_of_drew hb).mono B6.out.size)); clear hb; have y1 := CC.out _ T1.out) | (go_simp; go_at_call_of 18 x; refine (LX.out _).mono ?_; rintro e w3 ⟨rfl, hb⟩; have T2 := Lib.hid (T1.out.trans (hb.mono T1.out.size)); clear hb; have y2 := CC.out _ T2.out))
          all_goals
            go_wp2
            go_roundw
            case rel => exact ⟨j + 1, hjl, by go_num, by rw [E4.out], T2.out⟩
            case measure => simp [intOf]; omega
        · obtain rfl : j = ks.length := by omega
          go_wp2
          go_roundw
          case rel => exact ⟨k + 1, hlt, by go_num, by rw [FK.out, List.take_length], B5.out.trans (B6.out.mono B5.out.size)⟩
          case measure => simp [intOf]; omega
    · obtain rfl : k = N := by omega
      go_wp2
      go_ret
      exact ⟨by rw [TT.out, HS0.out]; rfl, HB.out.trans (BL.out.mono HB.out.size)⟩

end Go.Proofs.YtngllobakfnhiaaDoor
