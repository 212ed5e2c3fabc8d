/- The contract of the model's l05Clusters. Conditions: those in the theorem. -/
import Derived.Test.YtckilaeolkgnkaaCkM
import Derived.Test.YtckilaeolkgnkaaJn02
namespace Go.Proofs.Ytckilaeolkgnkaa
open Go.RowKit

theorem mu_bits {xs : List Int} (hn : xs.length ≤ 30) (hr : Rel xs.length (nth xs)) {k j : Nat} (hk : k < xs.length) (hj : j < xs.length) : mu xs k j = (bitB (rchV xs (one k)) j && bitB (rchV xs (one j)) k) := by
  obtain ⟨c1, -⟩ := rc_T hn hr
  rw [rchV_one hn hr hk, rchV_one hn hr hj, bitB_T ((c1 k).bd hn), bitB_T ((c1 j).bd hn)]
  rfl
theorem ow_no {xs : List Int} {F : Nat → Int} {w j : Nat} (h : decide (owTo xs F w j < 0) = false) : owTo xs F w (j + 1) = owTo xs F w j := by
  rw [owTo, if_neg (fun q => by rw [decide_eq_true q.1] at h; cases h)]
theorem ow_no2 {xs : List Int} {F : Nat → Int} {w j : Nat} (h : mu xs w j = false) : owTo xs F w (j + 1) = owTo xs F w j := by
  rw [owTo, if_neg (fun q => by rw [q.2] at h; cases h)]
theorem ow_yes {xs : List Int} {F : Nat → Int} {w j : Nat} (h : decide (owTo xs F w j < 0) = true) (h2 : mu xs w j = true) : owTo xs F w (j + 1) = F j := by
  rw [owTo, if_pos ⟨of_decide_eq_true h, h2⟩]

set_option maxHeartbeats 4000000 in
set_option maxRecDepth 100000 in
theorem l05Clusters_any (xs : List Int) (a : Option Addr) (cap : Nat) (w : World) (h8 : xs.length ≤ 8) (hr : Rel xs.length (nth xs)) (h : At w a xs.length xs) :
    Calls Try.prog 35 #[.agg #[.int .i64 xs.length, .slice a xs.length cap]] w fun e w' => ∃ v, e = .returned v ∧ Own w' w.heap.size v (ckL xs) ∧ Below w.heap.size w w' := by
  have HB := Lib.hid (boxF (w := w) xs.length a xs.length cap)
  have X := Lib.hid (Bx.new w xs.length a xs.length cap 28)
  obtain ⟨W, hW⟩ : ∃ W, W = w.alloc (.cells #[.int .i64 xs.length, .slice a xs.length cap] 28) := ⟨_, rfl⟩
  rw [← hW] at HB X
  have hz : w.heap.size < W.heap.size := X.out.1
  have hWs : W.heap.size = w.heap.size + 1 := by rw [hW]; simp
  have HWs := Lib.hid hWs
  clear hWs
  have h30 : xs.length ≤ 30 := by omega
  have H := Lib.hid (h.keep HB.out (Nat.le_refl _))
  have CI := Lib.hid (ck_inv h30 hr)
  have HR := Lib.hid hr
  have HW := Lib.hid hW
  clear h hr hW
  go_enter Try.func35, Try.ntmps35
  go_wp2
  go_loopw [3, 4, 5] (fun v nx i wr => ∃ k : Nat, k ≤ xs.length ∧ i = .int .i64 k ∧ nx = .int .i64 (ckS xs k).2 ∧ Hid (Own wr W.heap.size v (ckS xs k).1) ∧ Hid (Below W.heap.size W wr)) (fun _ _ i _ => xs.length - (intOf i).toNat)
  case atStart =>
    rw [← HW.out]
    exact ⟨0, Nat.zero_le _, rfl, rfl, Lib.hid (by have q := World.ownsRow_lit (size := 1) (e := 2) W #[] 0 (Nat.le_refl _) (by unfold maxLen; omega) rfl; rw [HWs.out] at q ⊢; exact q), Lib.hid ((Below.refl _ _).alloc (Nat.le_refl _) _)⟩
  case round =>
    obtain ⟨k, hk, rfl, rfl, HO, B⟩ := hrel
    obtain ⟨i1, i2, i3, -, -⟩ := CI.out k hk
    by_cases hlt : k < xs.length
    · obtain ⟨lt, x0, x0'⟩ := X.out.keep B.out
      have IL := Lib.hid i1
      obtain ⟨wo, hwo⟩ : ∃ wo : World, wo = wr := ⟨_, rfl⟩
      have HWO := Lib.hid hwo
      have HOo := Lib.hid (show Own wo W.heap.size _ _ from by rw [hwo]; exact HO.out)
      have Bo := Lib.hid (show Below W.heap.size W wo from by rw [hwo]; exact B.out)
      clear hwo
      go_wp2
      clear x0 x0'
      go_loopw [6, 7] (fun o i wr => ∃ (j : Nat) (z : Int), j ≤ k ∧ i = .int .i64 j ∧ o = .int .i64 z ∧ Hid (z = owTo xs (nth (ckS xs k).1) k j) ∧ Hid (Below wo.heap.size wo wr)) (fun _ i _ => k - (intOf i).toNat)
      case atStart => exact ⟨0, -1, Nat.zero_le _, rfl, rfl, Lib.hid rfl, Lib.hid (by rw [HWO.out]; exact Below.refl _ _)⟩
      case round =>
        obtain ⟨j, z, hj, rfl, rfl, ZE, C⟩ := hrel
        have B2 := Lib.hid (Bo.out.trans (C.out.mono Bo.out.size))
        obtain ⟨lt0, c0, c1⟩ := X.out.keep B2.out
        have HA := Lib.hid (H.out.keep B2.out (Nat.le_refl _))
        have HA0 := Lib.hid (HOo.out.keep C.out (Nat.le_refl _))
        by_cases hjl : j < k
        · have HM := Lib.hid (mu_bits h30 HR.out hlt (show j < xs.length by omega))
          have HK1 := Lib.hid (InMk.one (n := xs.length) h30 hlt)
          have HK2 := Lib.hid (InMk.one (n := xs.length) (k := j) h30 (by omega))
          have OS := Lib.hid (ow_spec (xs := xs) (F := nth (ckS xs k).1) (w := k) j (fun v hv => ((CI.out k hk).2.2.2.1 v (by omega)).1))
          cases ho : decide (z < 0)
          · have HO0 := Lib.hid (ow_no (show decide (owTo xs (nth (ckS xs k).1) k j < 0) = false by rw [← ZE.out]; exact ho))
            go_wp2
            go_quiet (fail)
            go_wp2
            go_roundw
            case rel => exact ⟨j + 1, _, hjl, by go_num, rfl, Lib.hid (by rw [HO0.out, ← ZE.out]), Lib.hid (below_drewN C.out _)⟩
            case measure => simp [intOf]; omega
          · have HOL := Lib.hid (show decide (owTo xs (nth (ckS xs k).1) k j < 0) = true by rw [← ZE.out]; exact ho)
            obtain rfl : z = -1 := by
              rcases OS.out with ⟨q, -⟩ | ⟨v, hv, -, q⟩
              · exact ZE.out.trans q
              · have q1 := ((CI.out k hk).2.2.2.1 v (by omega)).1
                have q2 := of_decide_eq_true HOL.out
                omega
            clear ho
            cases h1 : bitB (rchV xs (one k)) j
            · have H1 := Lib.hid h1
              have HO0 := Lib.hid (ow_no2 (F := nth (ckS xs k).1) (show mu xs k j = false by rw [HM.out, h1]; rfl))
              clear h1
              go_wp2
              first | (go_region_with (first | (go_at_call 55; refine (l01One_any _ _ (by omega) (by omega)).mono ?_; rintro e w' ⟨rfl, rfl⟩) | (go_at_call_of 54 (one (k : Int)); refine (l05Reach_any _ _ xs _ _ _ _ h8 HR.out HK1.out HA.out.drw).mono ?_; rintro e w2 ⟨rfl, hbb⟩; have b2 := Lib.hid (below_of_drew hbb); clear hbb; have C2 := Lib.hid (C.out.trans (b2.out.mono C.out.size))) | (go_at_call_of 66 (one (k : Int)); refine (l01Bit_any _ _ _ (by omega) (by omega)).mono ?_; rw [H1.out]; rintro e w' ⟨rfl, rfl⟩))) | fail
              all_goals
                go_wp2
                go_roundw
                case rel => exact ⟨j + 1, _, hjl, by go_num, rfl, Lib.hid (by rw [HO0.out, ← ZE.out]), C2⟩
                case measure => simp [intOf]; omega
            · cases h2 : bitB (rchV xs (one j)) k
              · have H1 := Lib.hid h1
                have H2 := Lib.hid h2
                have HO0 := Lib.hid (ow_no2 (F := nth (ckS xs k).1) (show mu xs k j = false by rw [HM.out, h1, h2]; rfl))
                clear h1 h2
                go_wp2
                first | (go_region_held3 (fun w' => w'.cell? ⟨w.heap.size, 0, none⟩ = some (.int .i64 xs.length) ∧ w'.cell? ⟨w.heap.size, 1, none⟩ = some (.slice a xs.length cap)) (first | exact ⟨e0, e1⟩ | exact ⟨d0, d1⟩ | exact ⟨c0, c1⟩ | go_keep) (first | (go_at_call 55; refine (l01One_any _ _ (by omega) (by omega)).mono ?_; rintro e w' ⟨rfl, rfl⟩) | (go_at_call_of 54 (one (k : Int)); refine (l05Reach_any _ _ xs _ _ _ _ h8 HR.out HK1.out HA.out.drw).mono ?_; rintro e w2 ⟨rfl, hbb⟩; have b2 := Lib.hid (below_of_drew hbb); clear hbb; have C2 := Lib.hid (C.out.trans (b2.out.mono C.out.size)); have HA2 := Lib.hid (HA.out.keep b2.out (Nat.le_refl _)); obtain ⟨lt1, d0, d1⟩ := X.out.keep (B2.out.trans (b2.out.mono B2.out.size))) | (go_at_call_of 54 (one (j : Int)); refine (l05Reach_any _ _ xs _ _ _ _ h8 HR.out HK2.out HA2.out).mono ?_; rintro e w3 ⟨rfl, hbb⟩; have b3 := Lib.hid hbb; clear hbb; have C3 := Lib.hid (C2.out.trans (b3.out.mono C2.out.size)); obtain ⟨lt2, e0, e1⟩ := X.out.keep (Bo.out.trans (C3.out.mono Bo.out.size))) | (go_at_call_of 66 (one (k : Int)); refine (l01Bit_any _ _ _ (by omega) (by omega)).mono ?_; rw [H1.out]; rintro e w' ⟨rfl, rfl⟩) | (go_at_call_of 66 (one (j : Int)); refine (l01Bit_any _ _ _ (by omega) (by omega)).mono ?_; rw [H2.out]; rintro e w' ⟨rfl, rfl⟩))) | fail
                all_goals
                  go_wp2
                  go_roundw
                  case rel => exact ⟨j + 1, _, hjl, by go_num, rfl, Lib.hid (by rw [HO0.out, ← ZE.out]), C3⟩
                  case measure => simp [intOf]; omega
              · have H1 := Lib.hid h1
                have H2 := Lib.hid h2
                have HO0 := Lib.hid (ow_yes HOL.out (show mu xs k j = true by rw [HM.out, h1, h2]; rfl))
                clear h1 h2
                go_wp2
                first | (go_region_held3 (fun w' => w'.cell? ⟨w.heap.size, 0, none⟩ = some (.int .i64 xs.length) ∧ w'.cell? ⟨w.heap.size, 1, none⟩ = some (.slice a xs.length cap)) (first | exact ⟨e0, e1⟩ | exact ⟨d0, d1⟩ | exact ⟨c0, c1⟩ | go_keep) (first | (go_at_call 55; refine (l01One_any _ _ (by omega) (by omega)).mono ?_; rintro e w' ⟨rfl, rfl⟩) | (go_at_call_of 54 (one (k : Int)); refine (l05Reach_any _ _ xs _ _ _ _ h8 HR.out HK1.out HA.out.drw).mono ?_; rintro e w2 ⟨rfl, hbb⟩; have b2 := Lib.hid (below_of_drew hbb); clear hbb; have C2 := Lib.hid (C.out.trans (b2.out.mono C.out.size)); have HA2 := Lib.hid (HA.out.keep b2.out (Nat.le_refl _)); obtain ⟨lt1, d0, d1⟩ := X.out.keep (B2.out.trans (b2.out.mono B2.out.size))) | (go_at_call_of 54 (one (j : Int)); refine (l05Reach_any _ _ xs _ _ _ _ h8 HR.out HK2.out HA2.out).mono ?_; rintro e w3 ⟨rfl, hbb⟩; have b3 := Lib.hid hbb; clear hbb; have C3 := Lib.hid (C2.out.trans (b3.out.mono C2.out.size)); obtain ⟨lt2, e0, e1⟩ := X.out.keep (Bo.out.trans (C3.out.mono Bo.out.size))) | (go_at_call_of 66 (one (k : Int)); refine (l01Bit_any _ _ _ (by omega) (by omega)).mono ?_; rw [H1.out]; rintro e w' ⟨rfl, rfl⟩) | (go_at_call_of 66 (one (j : Int)); refine (l01Bit_any _ _ _ (by omega) (by omega)).mono ?_; rw [H2.out]; rintro e w' ⟨rfl, rfl⟩))) | fail
                all_goals
                  obtain ⟨a7, k7, e7, hat7, -, -, -⟩ := (HOo.out.keep C3.out (Nat.le_refl _)).at
                  subst e7
                  rw [IL.out] at hat7
                  obtain ⟨b7, o7, rfl, -, hc7⟩ := hat7.2.resolve_left (by omega)
                  have hcell7 := hc7 j hjl
                  clear hc7
                  go_wp2
                  go_roundw
                  case rel => exact ⟨j + 1, _, hjl, by go_num, rfl, Lib.hid (by rw [HO0.out]), C3⟩
                  case measure => simp [intOf]; omega
        · obtain rfl : j = k := by omega
          have O5 := HA0
          have hlen5 : (ckS xs j).1.length ≤ 8 := by omega
          have hz5 := B2.out.size
          have OS := Lib.hid (ow_spec (xs := xs) (F := nth (ckS xs j).1) (w := j) j (fun v hv => ((CI.out j hk).2.2.2.1 v (by omega)).1))
          cases ho : decide (z < 0)
          · have SE := Lib.hid (show ckS xs (j + 1) = ((ckS xs j).1 ++ [z], (ckS xs j).2) by rw [ckS, ← ZE.out, if_neg (fun q => by rw [decide_eq_true q] at ho; cases ho)])
            clear c0 c1
            go_wp2_with (at_builtin; refine list_app1 rfl _ _ rfl W.heap.size _ (ckS xs j).1.length _ rfl (show World.ownsRow _ _ _ 1 _ (ckS xs j).1.length _ from World.ownsRow.alloc O5.out _) ⟨wr.heap.size, 0, none⟩ 1 _ rfl (World.cell?_alloc_at _ _ _ _ rfl) (by omega) (by simp; omega) ?_; intro v' w1' hown1 hgr1)
            have hbel := Lib.hid (below_app B2.out ((Below.refl _ _).alloc hz5 _) hz5 O5.out hgr1)
            clear hgr1
            go_roundw
            case rel => exact ⟨j + 1, hlt, by go_num, by rw [SE.out], Lib.hid (own_app (by rw [SE.out]) hown1), hbel⟩
            case measure => simp [intOf]; omega
          · have SE := Lib.hid (show ckS xs (j + 1) = ((ckS xs j).1 ++ [(ckS xs j).2], (ckS xs j).2 + 1) by rw [ckS, ← ZE.out, if_pos (of_decide_eq_true ho)])
            clear c0 c1
            go_wp2_with (at_builtin; refine list_app1 rfl _ _ rfl W.heap.size _ (ckS xs j).1.length _ rfl (show World.ownsRow _ _ _ 1 _ (ckS xs j).1.length _ from World.ownsRow.alloc O5.out _) ⟨wr.heap.size, 0, none⟩ 1 _ rfl (World.cell?_alloc_at _ _ _ _ rfl) (by omega) (by simp; omega) ?_; intro v' w1' hown1 hgr1)
            have hbel := Lib.hid (below_app B2.out ((Below.refl _ _).alloc hz5 _) hz5 O5.out hgr1)
            clear hgr1
            go_roundw
            case rel => exact ⟨j + 1, hlt, by go_num, by rw [SE.out], Lib.hid (own_app (by rw [SE.out]) hown1), hbel⟩
            case measure => simp [intOf]; omega
    · obtain rfl : k = xs.length := by omega
      obtain ⟨lt, x0, x0'⟩ := X.out.keep B.out
      go_wp2
      go_ret
      exact ⟨_, rfl, HO.out.mono (Nat.le_of_lt hz), HB.out.trans (B.out.mono HB.out.size)⟩

end Go.Proofs.Ytckilaeolkgnkaa
