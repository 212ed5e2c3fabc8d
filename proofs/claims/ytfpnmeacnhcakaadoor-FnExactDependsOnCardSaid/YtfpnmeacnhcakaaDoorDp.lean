/- DependsOn of the model and of the program. Conditions: the package's table for the program, and those in the theorems. -/
import Derived.Test.YtfpnmeacnhcakaaDoorDpM
import Derived.Test.YtfpnmeacnhcakaaDoorFs
import Derived.Test.YtfpnmeacnhcakaaDoorOwnI
import Derived.Test.YtfpnmeacnhcakaaDoorRow
import Derived.Test.YtfpnmeacnhcakaaDoorOcc
namespace Go.Proofs.YtfpnmeacnhcakaaDoor
open Go.RowKit

noncomputable def dpV (xs : List Nd) : List Int := if ck xs = 0 then dpL (toFm xs) 6 else []
theorem dpV_bad {xs : List Nd} (h : ck xs ≠ 0) : dpV xs = [] := if_neg h
theorem dpV_good {xs : List Nd} (h : ck xs = 0) : dpV xs = dpL (toFm xs) 6 := if_pos h
theorem DependsOn_len (xs : List Nd) : (dpV xs).length ≤ 1048576 := by
  unfold dpV
  split
  · have := dpL_len (toFm xs) 6; omega
  · exact Nat.zero_le _
theorem dpL_yes {f : Fm} {n : Nat} (h : dpR f n 64 = true) : dpL f (n + 1) = dpL f n ++ [((n : Nat) : Int)] := by rw [dpL, if_pos h]
theorem dpL_no {f : Fm} {n : Nat} (h : dpR f n 64 = false) : dpL f (n + 1) = dpL f n := by rw [dpL, if_neg (by simp [h])]
theorem ownsRow_mono' {w : World} {B B' : Nat} {e : TypeId} {sz : Nat} {v : Value} {n : Nat} {xs : List Value} (h : w.ownsRow B e sz v n xs) (hB : B' ≤ B) : w.ownsRow B' e sz v n xs := by
  refine ⟨h.1, ?_⟩
  rcases h.2 with h2 | ⟨g, cap, cur, hv, hg, r⟩
  · exact .inl h2
  · exact .inr ⟨g, cap, cur, hv, Nat.le_trans hB hg, r⟩

set_option maxHeartbeats 1000000 in
theorem flipped_any (b : BitVec 64) (v : Nat) (hv : v < 6) (w : World) (hT : Tb w) :
    Calls Tryd.prog 39 #[.int .u64 (U b), .int .i64 v] w fun e w' => e = .returned (.int .u64 (U (flB b v))) ∧ ∃ q, w' = w.drewN q := by
  have c := hT v hv
  have E := Lib.hid (show bits .or .u64 (bits .and .u64 (U b) (U (vr v)) / 2 ^ (2 ^ v)) (IntKind.u64.wrap (bits .andNot .u64 (U b) (U (vr v)) * 2 ^ (2 ^ v))) = U (flB b v) by
    rw [U_and, U_andNot, U_shr, U_shl, U_or]; rfl)
  clear hT
  generalize U (flB b v) = r at E ⊢
  generalize U b = x at E ⊢
  generalize U (vr v) = z at E c
  have hv2 : v = 0 ∨ v = 1 ∨ v = 2 ∨ v = 3 ∨ v = 4 ∨ v = 5 := by omega
  clear hv
  rcases hv2 with rfl | rfl | rfl | rfl | rfl | rfl
  all_goals
    go_enter Tryd.func39, Tryd.ntmps39
    go_wp2
    go_quiet (fail)
    go_wp2
    go_ret
    exact ⟨ret_int E.out, _, rfl⟩

set_option maxHeartbeats 1000000 in
theorem implDependsOn_v (x0 : List Nd) (v : Value) (lo hi : Nat) (w : World) (hl : x0.length ≤ 1048576) (h : InN w lo hi v x0) (hT : Tb w) :
    Calls Tryd.prog 21 #[v] w fun e w' => ∃ v', e = .returned (.tuple #[v', .int .i64 (ck x0)]) ∧ Own w' w.heap.size v' (dpV x0) ∧ Below w.heap.size w w' := by
  obtain ⟨a, cap, rfl, hat, hca, hcb⟩ := h.at'
  have MM := modelsOf_any x0 a cap w hl hat hT
  have T := Lib.hid hT
  clear h hat hT
  by_cases hc : ck x0 = 0
  · have F1 := Lib.hid (toFm_of (ck_good hc).1).1
    rw [dpV_good hc]
    rw [hc, mwR_good hc] at MM
    rw [hc]
    have C := Lib.hid MM
    clear MM hc
    generalize toFm x0 = f at C F1 ⊢
    go_enter Tryd.func21, Tryd.ntmps21
    go_wp2_with fail
    refine C.out.mono ?_
    rintro e w0 ⟨rfl, hb0⟩
    have B0 := Lib.hid hb0
    have hb0s := hb0.size
    have Z0 := Lib.hid (ownI_none w0 w.heap.size)
    clear hb0 C
    obtain ⟨y, hy⟩ : ∃ y, y = U f.mw := ⟨_, rfl⟩
    rw [← hy]
    have Y := Lib.hid hy
    clear hy
    go_wp2
    go_loopw [6, 16] (fun v i wr => ∃ k : Nat, k ≤ 6 ∧ i = .int .i64 k ∧ Own wr w.heap.size v (dpL f k) ∧ Below w.heap.size w wr) (fun _ i _ => 6 - (intOf i).toNat)
    case atStart => exact ⟨0, Nat.zero_le _, rfl, Z0.out, B0.out⟩
    case round =>
      obtain ⟨k, hk, rfl, hown, hbel⟩ := hrel
      have HO := Lib.hid hown
      have B := Lib.hid hbel
      have hbs := hbel.size
      have hlen := dpL_len f k
      clear hown hbel
      by_cases hlt : k < 6
      · have FL := Lib.hid (flipped_any f.mw k hlt wr (T.out.keep B.out (Nat.le_refl _)))
        have EQ := dp_word f F1.out hlt
        obtain ⟨z, hz⟩ : ∃ z, z = U (flB f.mw k) := ⟨_, rfl⟩
        rw [← hz, ← Y.out] at EQ FL
        clear hz
        cases hd : dpR f k 64
        · have N := Lib.hid (dpL_no hd)
          rw [hd] at EQ
          have hzy : z = y := by simpa using EQ
          subst hzy
          clear EQ hd
          go_wp2_with fail
          refine FL.out.mono ?_
          rintro e w1 ⟨rfl, q, rfl⟩
          go_wp2
          go_roundw
          case rel => exact ⟨k + 1, hlt, by go_num, by rw [N.out]; exact HO.out.keep (below_drewN (Below.refl wr.heap.size wr) q) (Nat.le_refl _), below_drewN B.out q⟩
          case measure => simp [intOf]; omega
        · have N := Lib.hid (dpL_yes hd)
          rw [hd] at EQ
          have hzy : (z != y) = true := by simpa using EQ
          have hzy2 : (z == y) = false := by simpa using EQ
          clear EQ hd
          go_wp2_with fail
          refine FL.out.mono ?_
          rintro e w1 ⟨rfl, q, rfl⟩
          have HO2 := Lib.hid (HO.out.keep (below_drewN (Below.refl wr.heap.size wr) q) (Nat.le_refl _))
          have B2 := Lib.hid (below_drewN B.out q)
          have hbs2 := B2.out.size
          obtain ⟨wq, hwq⟩ : ∃ wq, wq = wr.drewN q := ⟨_, rfl⟩
          rw [← hwq] at HO2 B2 hbs2 ⊢
          clear hwq
          go_wp2_with (at_builtin; refine list_app1 rfl _ _ rfl w.heap.size _ _ _ rfl (HO2.out.alloc _) ⟨wq.heap.size, 0, none⟩ 1 _ rfl (World.cell?_alloc_at _ _ _ _ rfl) (by omega) (by simp; omega) ?_; intro v' w2 hown1 hgr1)
          have B3 := Lib.hid (below_app B2.out ((Below.refl _ _).alloc hbs2 _) hbs2 HO2.out hgr1)
          have O3 := Lib.hid (Own.snoc hown1)
          clear hown1 hgr1
          go_roundw
          case rel => exact ⟨k + 1, hlt, by go_num, by rw [N.out]; exact O3.out, B3.out⟩
          case measure => simp [intOf]; omega
      · obtain rfl : k = 6 := by omega
        go_wp2
        go_ret2
        exact ⟨_, rfl, HO.out, B.out⟩
  · rw [dpV_bad hc]
    rw [mwR_bad hc] at MM
    have C := Lib.hid MM
    have hne : (ck x0 == 0) = false := by simpa using hc
    generalize ck x0 = z at C hne ⊢
    clear MM hc
    go_enter Tryd.func21, Tryd.ntmps21
    go_wp2_with fail
    refine C.out.mono ?_
    rintro e w1 ⟨rfl, hb1⟩
    have B1 := Lib.hid hb1
    clear hb1
    go_wp2
    go_ret2
    exact ⟨_, rfl, ownI_none _ _, B1.out⟩

end Go.Proofs.YtfpnmeacnhcakaaDoor
