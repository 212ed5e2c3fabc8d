/- The model's values of the models of a number. Conditions: those in the theorems. -/
import Derived.Test.YtnoaaklkbfbdbaaDoorJn11
namespace Go.Proofs.YtnoaaklkbfbdbaaDoor
open Go.RowKit

theorem and_full {n x : Nat} (hn : n ≤ 8) (hx : x < 1073741824) : bits .and .i64 (x : Int) (full n) = ((x % 2 ^ n : Nat) : Int) := by
  have h1 := full_eq n (by omega) (by omega)
  rw [h1, Int.toNat_natCast]
  have e : ((2 : Int) ^ n) - 1 = ((2 ^ n - 1 : Nat) : Int) := by
    have := Nat.two_pow_pos n
    have e2 : ((2 : Int) ^ n) = ((2 ^ n : Nat) : Int) := by simp
    rw [e2]; omega
  rw [e, and_low hn hx]

set_option maxHeartbeats 4000000 in
set_option maxRecDepth 100000 in
theorem l06Values_any (n k : Nat) (vs : List Int) (a : Option Addr) (len cap : Nat) (av : Option Addr) (cv : Nat) (w : World) (hn : n ≤ 8) (hv : Vs vs) (hk : k < 65536) (h : At w av vs.length vs) :
    Calls Tryd.prog 38 #[.agg #[.int .i64 n, .slice a len cap], .slice av vs.length cv, .int .i64 k] w fun e w' => ∃ v, e = .returned v ∧ Own w' w.heap.size v (vlL n vs k) ∧ Below w.heap.size w w' := by
  obtain ⟨W, hW, HB, X, hWs⟩ : ∃ W : World, W = w.alloc (.cells #[.int .i64 n, .slice a len cap] 30) ∧ Hid (Below w.heap.size w W) ∧ Hid (Bx W w.heap.size n a len cap) ∧ Hid (W.heap.size = w.heap.size + 1) := ⟨_, rfl, Lib.hid (alloc_keep _ _).1, Lib.hid (Bx.new _ _ _ _ _ _), Lib.hid (by simp)⟩
  have H := Lib.hid (h.keep HB.out (Nat.le_refl _))
  have HW := Lib.hid hW
  have V := Lib.hid hv
  have v6 := hv.l6
  obtain ⟨c, hc⟩ : ∃ c, c = vs.length := ⟨_, rfl⟩
  have CC := Lib.hid hc
  rw [← hc] at H ⊢
  have c6 : c ≤ 6 := by omega
  have hmk : ∀ W : World, (Instr.makeSlice 22 (.int .i64 6) (.int .i64 6)).run Tryd.prog W = .ok (.slice (some ⟨W.heap.size, 0, none⟩) 6 6) (W.alloc (.cells (madeCells #[.int .i64 0] 6) 2)) := fun (W : World) => run_make_row' (P := Tryd.prog) 22 2 (.int .i64 0) 8 Tryd.underlying22 info64 rfl .i64 .i64 6 (by omega) (by omega) W
  have R0 := Lib.hid (show (W.alloc (.cells (madeCells #[.int .i64 0] 6) 2)).rowIs (w.heap.size + 1) 2 6 (fun _ => .int .i64 0) from by have q := World.rowIs_made W (.int .i64 0) 6 2; rw [hWs.out] at q; exact q)
  have hz0 : w.heap.size + 1 ≤ W.heap.size := by have := hWs.out; omega
  have WS := Lib.hid hWs.out
  have FU := Lib.hid (fun w => l01Full_any (n : Int) w (by omega) (by omega))
  have DF := Lib.hid (fun t => show dnF (mkF n c k) vs c c t = upF (mkF n c k) vs c t from up_dn (by rw [hc]; exact hv.ds) t)
  clear h hv hW hc v6
  go_enter Tryd.func38, Tryd.ntmps38
  go_wp2
  rw [← HW.out]
  clear hmk
  go_loopw [2, 8] (fun nb i wr => ∃ m : Nat, m ≤ c ∧ i = .int .i64 ((c : Int) - 1 - m) ∧ nb = .int .i64 (shN n k m) ∧ Hid (wr.rowIs (w.heap.size + 1) 2 6 (fun t => .int .i64 (dnF (mkF n c k) vs c m t))) ∧ Hid (Below W.heap.size W wr)) (fun _ i _ => (intOf i + 1).toNat)
  case atStart => exact ⟨0, Nat.zero_le _, by simp, by simp [shN], R0, Lib.hid (alloc_keep _ _).1⟩
  case round =>
    obtain ⟨m, hm, rfl, rfl, R, B⟩ := hrel
    by_cases hlt : m < c
    · obtain ⟨j, hj⟩ : ∃ j, j = c - 1 - m := ⟨_, rfl⟩
      have hji : (c : Int) - 1 - m = (j : Int) := by omega
      rw [hji]
      have hjc : j < c := by omega
      obtain ⟨b, o, rfl, hb, hcc⟩ := (H.out.keep B.out (Nat.le_refl _)).2.resolve_left (by omega)
      have g := hcc j hjc
      obtain ⟨q, hq, hq6⟩ := V.out.lt j (by rw [← CC.out]; exact hjc)
      rw [hq] at g
      have hcg : wr.cell? ⟨w.heap.size + 1, q, none⟩ = some (.int .i64 (dnF (mkF n c k) vs c m q)) := R.out.cell hq6
      have hfg : wr.frozen? ⟨w.heap.size + 1, q, none⟩ = false := R.out.frozen q
      have hqi : (q : Int) < 6 := by omega
      have hjl : (j : Int) < (c : Int) := by omega
      have hs2 : shN n k m < 65536 := Nat.lt_of_le_of_lt (Nat.div_le_self _ _) hk
      have ST := Lib.hid (show ∀ z t, z = bits .and .i64 (shN n k m : Int) (full n) → (if t = q then z else dnF (mkF n c k) vs c m t) = dnF (mkF n c k) vs c (m + 1) t from fun z t hz => dn_set (by rw [← hj]; exact hq) (by rw [hz, and_full hn (by omega), shN_mk hlt]; rfl) t)
      have SN := Lib.hid (shN_next n k m)
      obtain ⟨x, hx⟩ : ∃ x, x = shN n k m := ⟨_, rfl⟩
      rw [← hx] at hs2 ST SN ⊢
      have JJ := Lib.hid hj
      obtain ⟨lt, f0, f1⟩ := X.out.keep B.out
      clear hcc hq hx hj hji hq6
      go_wp2
      go_region_with (go_at_call 24; refine (FU.out _).mono ?_; rintro e w' ⟨rfl, rfl⟩)
      all_goals
        go_wp2
        go_wp2
        go_roundw
        case rel => exact ⟨m + 1, hlt, by have := JJ.out; go_num, by rw [← SN.out]; simp, Lib.hid (row_setI (show World.rowIs (World.drew _) _ _ _ _ from R.out) (fun t => ST.out _ t rfl)), Lib.hid ((B.out.drew).setCell (p := ⟨w.heap.size + 1, q, none⟩) (by have := WS.out; show _ ≤ w.heap.size + 1; omega) _)⟩
        case measure => simp [intOf] <;> omega
    · obtain rfl : m = c := by omega
      have O5 := Lib.hid (own_of_row (F := upF (mkF n m k) vs m) (B := w.heap.size + 1) (Nat.le_refl _) (by omega) (R.out.congr fun t _ => by rw [DF.out t]))
      have EQ := Lib.hid (show vlL n vs k = tab 6 (upF (mkF n m k) vs m) by rw [vlL, ← CC.out])
      have hneg : (m : Int) - 1 - m = -1 := by omega
      rw [hneg]
      go_wp2
      go_ret
      exact ⟨_, rfl, by rw [EQ.out]; exact (show Own wr (w.heap.size + 1) _ (tab 6 (upF (mkF n m k) vs m)) from O5.out).mono (by omega), HB.out.trans (B.out.mono HB.out.size)⟩

end Go.Proofs.YtnoaaklkbfbdbaaDoor
