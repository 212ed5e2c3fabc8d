/- TruthTable of the program. Conditions: the package's table, and those in the theorems. -/
import Derived.Test.YtfpnmeacnhcakaaDoorTt
import Derived.Test.YtfpnmeacnhcakaaDoorKinds
namespace Go.Proofs.YtfpnmeacnhcakaaDoor
open Go.RowKit

/-- The digits of the word y in the first k rows, no digits behind them. -/
def dg (y : Int) (k : Nat) (t : Nat) : Int := if t < k then bits .and .u64 (y / 2 ^ t) 1 else 0
theorem dg_set (y : Int) (k : Nat) (z : Int) (hz : z = bits .and .u64 (y / 2 ^ k) 1) (t : Nat) : (if t = k then z else dg y k t) = dg y (k + 1) t := by
  unfold dg
  by_cases e : t = k
  · subst e; rw [if_pos rfl, if_pos (by omega), hz]
  · rw [if_neg e]
    by_cases h : t < k
    · rw [if_pos h, if_pos (by omega)]
    · rw [if_neg h, if_neg (by omega)]
theorem dg_bit (b : BitVec 64) (k : Nat) : bits .and .u64 (U b / 2 ^ k) 1 = 0 ∨ bits .and .u64 (U b / 2 ^ k) 1 = 1 := by
  rw [U_row]; cases b.getLsbD k <;> simp
theorem wrap01 {z : Int} (h : z = 0 ∨ z = 1) : wrap64 z = z := IntWalk.wrap64_in _ (by omega)
theorem dg_tt {f : Fm} (hf : f.ok) : tab 64 (dg (U f.mw) 64) = ttL f 64 := by
  unfold tab ttL tbl
  rw [List.map_map]
  refine List.map_congr_left fun r hr => ?_
  have hr := List.mem_range.1 hr
  show dg _ _ _ = b01 (f.ev r)
  rw [dg, if_pos hr, U_row, Fm.mw_row f hf r hr]
  rfl

set_option maxHeartbeats 1000000 in
theorem implTruthTable_v (x0 : List Nd) (v : Value) (lo hi : Nat) (w : World) (hl : x0.length ≤ 1048576) (h : InN w lo hi v x0) (hT : Tb w) :
    Calls Tryd.prog 15 #[v] w fun e w' => ∃ v', e = .returned (.tuple #[v', .int .i64 (ck x0)]) ∧ Own w' w.heap.size v' (ttR x0) ∧ Below w.heap.size w w' := by
  obtain ⟨a, cap, rfl, hat, hca, hcb⟩ := h.at'
  have MM := modelsOf_any x0 a cap w hl hat hT
  clear h hat hT
  by_cases hc : ck x0 = 0
  · have E := Lib.hid (dg_tt (toFm_of (ck_good hc).1).1)
    have Z := Lib.hid (dg_bit (toFm x0).mw)
    rw [ttR_good hc]
    rw [hc, mwR_good hc] at MM
    rw [hc]
    have C := Lib.hid MM
    clear MM hc
    generalize ttL (toFm x0) 64 = rr at E ⊢
    generalize U (toFm x0).mw = y at C E Z
    obtain ⟨i0, hi, hz0, hz1, hz2⟩ := info_parts info64
    go_enter Tryd.func15, Tryd.ntmps15
    go_wp2_with fail
    refine C.out.mono ?_
    rintro e w0 ⟨rfl, hb0⟩
    have B0 := Lib.hid hb0
    have hb0s := hb0.size
    clear hb0 C
    go_wp2_with (at_make; refine wpList_make_full _ rfl _ _ 30 rfl w0.heap.size 2 i0 (.int .i64 0) 1 Tryd.underlying30 hi hz0 hz1 _ _ _ _ 64 rfl rfl rfl rfl ?b2 ?b3 (Nat.le_refl _) ?_)
    case b2 => rw [hz2]; omega
    case b3 => unfold maxLen; omega
    intro wm hown0 hgr0
    have HR0 := Lib.hid (row_of_own hown0)
    have BM := Lib.hid (B0.out.grown hgr0 B0.out.size (fun k h => by cases h))
    clear hown0 hgr0 hi hz0 hz1 hz2
    go_wp2
    go_loopw [19] (fun i wr => ∃ k : Nat, k ≤ 64 ∧ i = .int .i64 k ∧ wr.rowIs w0.heap.size 2 64 (fun t => .int .i64 (dg y k t)) ∧ Below w.heap.size w wr) (fun i _ => 64 - (intOf i).toNat)
    case atStart => exact ⟨0, Nat.zero_le _, rfl, HR0.out.congr fun t _ => rfl, BM.out⟩
    case round =>
      obtain ⟨k, hk, rfl, hrow, hbel⟩ := hrel
      have RW := Lib.hid hrow
      have BL := Lib.hid hbel
      have BS := B0.out.size
      clear HR0
      by_cases hlt : k < 64
      · have hfg := hrow.frozen k
        have hcg := hrow.cell hlt
        have HZ := Lib.hid (wrap01 (Z.out k))
        clear hrow hbel
        go_wp2
        go_roundw
        case rel => exact ⟨k + 1, hlt, by go_num, row_setI RW.out (fun t => dg_set y k _ HZ.out t), BL.out.setCell (p := ⟨w0.heap.size, k, none⟩) BS _⟩
        case measure => simp [intOf]; omega
      · obtain rfl : k = 64 := by omega
        clear hrow hbel
        go_wp2
        go_ret2
        exact ⟨_, rfl, by rw [← E.out]; exact own_of_row BS (by omega) RW.out, BL.out⟩
  · rw [ttR_bad hc]
    rw [mwR_bad hc] at MM
    have C := Lib.hid MM
    have hne : (ck x0 == 0) = false := by simpa using hc
    generalize ck x0 = z at C hne ⊢
    clear MM hc
    go_enter Tryd.func15, Tryd.ntmps15
    go_wp2_with fail
    refine C.out.mono ?_
    rintro e w1 ⟨rfl, hb1⟩
    have B1 := Lib.hid hb1
    clear hb1
    go_wp2
    go_ret2
    exact ⟨_, rfl, ownI_none _ _, B1.out⟩

end Go.Proofs.YtfpnmeacnhcakaaDoor
