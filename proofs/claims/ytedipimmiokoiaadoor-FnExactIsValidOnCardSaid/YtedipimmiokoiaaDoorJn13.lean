/- 3 texts in one: Tr4, TrA, VlS. -/
import Derived.Test.YtedipimmiokoiaaDoorTr
import Derived.Test.YtedipimmiokoiaaDoorJn11
import Derived.Test.YtedipimmiokoiaaDoorVlM
/- The truth set of a formula of two parts (kind 4), by the model. Conditions: those in the theorem. -/
namespace Go.Proofs.YtedipimmiokoiaaDoor
open Go.RowKit

set_option maxHeartbeats 4000000 in
set_option maxRecDepth 100000 in
theorem tr_bi4 (g d : Fm) (hg : g.ok) (ihg : TrC g) (ihd : TrC d) : TrC (.bi 4 g d) := by
  intro n xs ys a cap a' cap' b off len cp w hl hm h
  obtain ⟨W, hW, hb0, hx, hWs⟩ := boxM (w := w) n a xs.length cap a' ys.length cap' 59
  have HB := Lib.hid hb0
  have X := Lib.hid hx
  have M := Lib.hid (hm.keep hb0)
  have HF := Lib.hid (h.keep hb0 (Nat.le_refl _))
  have HW := Lib.hid hW
  obtain ⟨hb, c1, -⟩ := HF.out.head
  have hsz : (Fm.bi 4 g d).sz = 1 + g.sz + d.sz := rfl
  have hgp := g.sz_pos
  have hdp := d.sz_pos
  have hlen := h.len
  have h0 : 0 < len := by omega
  obtain ⟨hn, h8, -⟩ := hm
  have hn0 : 0 ≤ n := by omega
  have hn30 : n ≤ 30 := by omega
  obtain ⟨lt, x0, x1, x2⟩ := X.out
  replace c1 : W.cell? ⟨b, off, none⟩ = some (.int .i64 4) := c1
  obtain ⟨x, hxx⟩ : ∃ x, x = g.tr xs ys := ⟨_, rfl⟩
  obtain ⟨y, hyy⟩ : ∃ y, y = d.tr xs ys := ⟨_, rfl⟩
  obtain ⟨cl, hcl⟩ : ∃ c, c = cp - 1 := ⟨_, rfl⟩
  obtain ⟨cr, hcr⟩ : ∃ c, c = cp - (1 + g.sz) := ⟨_, rfl⟩
  obtain ⟨ol, hol⟩ : ∃ c, c = off + 2 := ⟨_, rfl⟩
  obtain ⟨or, hor⟩ : ∃ c, c = off + (1 + g.sz) * 2 := ⟨_, rfl⟩
  obtain ⟨sl, hsl⟩ : ∃ c, c = g.sz := ⟨_, rfl⟩
  obtain ⟨sr, hsr⟩ : ∃ c, c = d.sz := ⟨_, rfl⟩
  have L := Lib.hid (show ∀ w1 : World, Below W.heap.size W w1 → Calls Tryd.prog 53 #[.slice (some ⟨b, off, none⟩) len cp] w1 fun e w' => e = .returned (.slice (some ⟨b, ol, none⟩) sl cl) ∧ w1 = w' from
    fun w1 hw => by rw [hol, hcl, hsl]; exact l02Left_any 4 g d hg b off len cp w1 hl (HF.out.keep hw (Nat.le_refl _)))
  have R := Lib.hid (show ∀ w1 : World, Below W.heap.size W w1 → Calls Tryd.prog 54 #[.slice (some ⟨b, off, none⟩) len cp] w1 fun e w' => e = .returned (.slice (some ⟨b, or, none⟩) sr cr) ∧ w1 = w' from
    fun w1 hw => by rw [hor, hcr, hsr]; exact l02Right_any 4 g d hg b off len cp w1 hl (HF.out.keep hw (Nat.le_refl _)))
  have IL := Lib.hid (show ∀ w1 : World, Below W.heap.size W w1 → Calls Tryd.prog 39 #[.agg #[.int .i64 n, .slice a xs.length cap, .slice a' ys.length cap'], .slice (some ⟨b, ol, none⟩) sl cl] w1 fun e w' => e = .returned (.int .i64 x) ∧ Below w1.heap.size w1 w' from
    fun w1 hw => by rw [hxx, hol, hcl, hsl]; exact ihg n xs ys a cap a' cap' b (off + 2) g.sz (cp - 1) w1 (by omega) (M.out.keep hw) (HF.out.left.keep hw (Nat.le_refl _)))
  have IR := Lib.hid (show ∀ w1 : World, Below W.heap.size W w1 → Calls Tryd.prog 39 #[.agg #[.int .i64 n, .slice a xs.length cap, .slice a' ys.length cap'], .slice (some ⟨b, or, none⟩) sr cr] w1 fun e w' => e = .returned (.int .i64 y) ∧ Below w1.heap.size w1 w' from
    fun w1 hw => by rw [hyy, hor, hcr, hsr]; exact ihd n xs ys a cap a' cap' b (off + (1 + g.sz) * 2) d.sz (cp - (1 + g.sz)) w1 (by omega) (M.out.keep hw) (HF.out.right.keep hw (Nat.le_refl _)))
  have E := Lib.hid (show bits .or .i64 (bits .andNot .i64 (full n) x) y = (Fm.bi 4 g d).tr xs ys by rw [Fm.tr, if_neg (by decide), if_neg (by decide), hxx, hyy, hn])
  clear h hb0 hx hW hn h8 hsz hgp hdp hlen hxx hyy ihg ihd hcl hcr hol hor hsl hsr hg
  go_enter Tryd.func39, Tryd.ntmps39
  go_wp2_with fail
  rw [← HW.out]
  refine (l01Full_any _ _ hn0 hn30).mono ?_
  rintro e w' ⟨rfl, rfl⟩
  go_wp2
  go_region_held3 (fun w' => w'.cell? ⟨w.heap.size, 0, none⟩ = some (.int .i64 n) ∧ w'.cell? ⟨w.heap.size, 1, none⟩ = some (.slice a xs.length cap) ∧ w'.cell? ⟨w.heap.size, 2, none⟩ = some (.slice a' ys.length cap')) (first | exact ⟨z0, z1, z2⟩ | exact ⟨y0, y1, y2⟩ | exact ⟨x0, x1, x2⟩ | go_keep) (first | (go_at_call 53; refine (L.out _ (Below.refl _ _).drew).mono ?_; rintro e w' ⟨rfl, rfl⟩) | (go_at_call_of 39 cl; refine (IL.out _ (Below.refl _ _).drew).mono ?_; rintro e w1 ⟨rfl, hb⟩; have T1 := Lib.hid (show Below W.heap.size W w1 from below_of_drew hb); clear hb; obtain ⟨ly, y0, y1, y2⟩ := X.out.keep T1.out) | (go_at_call 54; refine (R.out _ T1.out).mono ?_; rintro e w' ⟨rfl, rfl⟩) | (go_at_call_of 39 cr; refine (IR.out _ T1.out).mono ?_; rintro e w2 ⟨rfl, hb⟩; have T2 := Lib.hid (show Below W.heap.size W w2 from T1.out.trans (hb.mono T1.out.size)); clear hb; obtain ⟨lz, z0, z1, z2⟩ := X.out.keep T2.out))
  all_goals
    go_wp2
    go_ret
    exact ⟨ret_int E.out, HB.out.trans (T2.out.mono HB.out.size)⟩

end Go.Proofs.YtedipimmiokoiaaDoor

/- The truth set of a formula, by the model. Conditions: those in the theorems. -/
namespace Go.Proofs.YtedipimmiokoiaaDoor
open Go.RowKit

theorem tr_bi (k : Int) (g d : Fm) (hk : k = 2 ∨ k = 3 ∨ k = 4) (hg : g.ok) (ihg : TrC g) (ihd : TrC d) : TrC (.bi k g d) := by
  rcases hk with rfl | rfl | rfl
  · exact tr_bi2 g d hg ihg ihd
  · exact tr_bi3 g d hg ihg ihd
  · exact tr_bi4 g d hg ihg ihd
theorem l06Truth_any (f : Fm) (hf : f.ok) : TrC f := by
  induction f with
  | va s => exact tr_va s hf
  | fa => exact tr_fa
  | bi k a b iha ihb => exact tr_bi k a b hf.1 hf.2.1 (iha hf.2.1) (ihb hf.2.2)
  | un k a ih => exact tr_un k a hf.1 (ih hf.2)

end Go.Proofs.YtedipimmiokoiaaDoor

/- The model's values of the models of a number. Conditions: those in the theorems. -/
namespace Go.Proofs.YtedipimmiokoiaaDoor
open Go.RowKit

theorem and_full {n x : Nat} (hn : n ≤ 8) (hx : x < 1073741824) : bits .and .i64 (x : Int) (full n) = ((x % 2 ^ n : Nat) : Int) := by
  have h1 := full_eq n (by omega) (by omega)
  rw [h1, Int.toNat_natCast]
  have e : ((2 : Int) ^ n) - 1 = ((2 ^ n - 1 : Nat) : Int) := by
    have := Nat.two_pow_pos n
    have e2 : ((2 : Int) ^ n) = ((2 ^ n : Nat) : Int) := by simp
    rw [e2]; omega
  rw [e, and_low hn hx]

set_option maxHeartbeats 4000000 in
set_option maxRecDepth 100000 in
theorem l06Values_any (n k : Nat) (vs : List Int) (a : Option Addr) (len cap : Nat) (av : Option Addr) (cv : Nat) (w : World) (hn : n ≤ 8) (hv : Vs vs) (hk : k < 65536) (h : At w av vs.length vs) :
    Calls Tryd.prog 38 #[.agg #[.int .i64 n, .slice a len cap], .slice av vs.length cv, .int .i64 k] w fun e w' => ∃ v, e = .returned v ∧ Own w' w.heap.size v (vlL n vs k) ∧ Below w.heap.size w w' := by
  obtain ⟨W, hW, HB, X, hWs⟩ : ∃ W : World, W = w.alloc (.cells #[.int .i64 n, .slice a len cap] 30) ∧ Hid (Below w.heap.size w W) ∧ Hid (Bx W w.heap.size n a len cap) ∧ Hid (W.heap.size = w.heap.size + 1) := ⟨_, rfl, Lib.hid (alloc_keep _ _).1, Lib.hid (Bx.new _ _ _ _ _ _), Lib.hid (by simp)⟩
  have H := Lib.hid (h.keep HB.out (Nat.le_refl _))
  have HW := Lib.hid hW
  have V := Lib.hid hv
  have v6 := hv.l6
  obtain ⟨c, hc⟩ : ∃ c, c = vs.length := ⟨_, rfl⟩
  have CC := Lib.hid hc
  rw [← hc] at H ⊢
  have c6 : c ≤ 6 := by omega
  have hmk : ∀ W : World, (Instr.makeSlice 22 (.int .i64 6) (.int .i64 6)).run Tryd.prog W = .ok (.slice (some ⟨W.heap.size, 0, none⟩) 6 6) (W.alloc (.cells (madeCells #[.int .i64 0] 6) 2)) := fun (W : World) => run_make_row' (P := Tryd.prog) 22 2 (.int .i64 0) 8 Tryd.underlying22 info64 rfl .i64 .i64 6 (by omega) (by omega) W
  have R0 := Lib.hid (show (W.alloc (.cells (madeCells #[.int .i64 0] 6) 2)).rowIs (w.heap.size + 1) 2 6 (fun _ => .int .i64 0) from by have q := World.rowIs_made W (.int .i64 0) 6 2; rw [hWs.out] at q; exact q)
  have hz0 : w.heap.size + 1 ≤ W.heap.size := by have := hWs.out; omega
  have WS := Lib.hid hWs.out
  have FU := Lib.hid (fun w => l01Full_any (n : Int) w (by omega) (by omega))
  have DF := Lib.hid (fun t => show dnF (mkF n c k) vs c c t = upF (mkF n c k) vs c t from up_dn (by rw [hc]; exact hv.ds) t)
  clear h hv hW hc v6
  go_enter Tryd.func38, Tryd.ntmps38
  go_wp2
  rw [← HW.out]
  clear hmk
  go_loopw [2, 8] (fun nb i wr => ∃ m : Nat, m ≤ c ∧ i = .int .i64 ((c : Int) - 1 - m) ∧ nb = .int .i64 (shN n k m) ∧ Hid (wr.rowIs (w.heap.size + 1) 2 6 (fun t => .int .i64 (dnF (mkF n c k) vs c m t))) ∧ Hid (Below W.heap.size W wr)) (fun _ i _ => (intOf i + 1).toNat)
  case atStart => exact ⟨0, Nat.zero_le _, by simp, by simp [shN], R0, Lib.hid (alloc_keep _ _).1⟩
  case round =>
    obtain ⟨m, hm, rfl, rfl, R, B⟩ := hrel
    by_cases hlt : m < c
    · obtain ⟨j, hj⟩ : ∃ j, j = c - 1 - m := ⟨_, rfl⟩
      have hji : (c : Int) - 1 - m = (j : Int) := by omega
      rw [hji]
      have hjc : j < c := by omega
      obtain ⟨b, o, rfl, hb, hcc⟩ := (H.out.keep B.out (Nat.le_refl _)).2.resolve_left (by omega)
      have g := hcc j hjc
      obtain ⟨q, hq, hq6⟩ := V.out.lt j (by rw [← CC.out]; exact hjc)
      rw [hq] at g
      have hcg : wr.cell? ⟨w.heap.size + 1, q, none⟩ = some (.int .i64 (dnF (mkF n c k) vs c m q)) := R.out.cell hq6
      have hfg : wr.frozen? ⟨w.heap.size + 1, q, none⟩ = false := R.out.frozen q
      have hqi : (q : Int) < 6 := by omega
      have hjl : (j : Int) < (c : Int) := by omega
      have hs2 : shN n k m < 65536 := Nat.lt_of_le_of_lt (Nat.div_le_self _ _) hk
      have ST := Lib.hid (show ∀ z t, z = bits .and .i64 (shN n k m : Int) (full n) → (if t = q then z else dnF (mkF n c k) vs c m t) = dnF (mkF n c k) vs c (m + 1) t from fun z t hz => dn_set (by rw [← hj]; exact hq) (by rw [hz, and_full hn (by omega), shN_mk hlt]; rfl) t)
      have SN := Lib.hid (shN_next n k m)
      obtain ⟨x, hx⟩ : ∃ x, x = shN n k m := ⟨_, rfl⟩
      rw [← hx] at hs2 ST SN ⊢
      have JJ := Lib.hid hj
      obtain ⟨lt, f0, f1⟩ := X.out.keep B.out
      clear hcc hq hx hj hji hq6
      go_wp2
      go_region_with (go_at_call 24; refine (FU.out _).mono ?_; rintro e w' ⟨rfl, rfl⟩)
      all_goals
        go_wp2
        go_wp2
        go_roundw
        case rel => exact ⟨m + 1, hlt, by have := JJ.out; go_num, by rw [← SN.out]; simp, Lib.hid (row_setI (show World.rowIs (World.drew _) _ _ _ _ from R.out) (fun t => ST.out _ t rfl)), Lib.hid ((B.out.drew).setCell (p := ⟨w.heap.size + 1, q, none⟩) (by have := WS.out; show _ ≤ w.heap.size + 1; omega) _)⟩
        case measure => simp [intOf] <;> omega
    · obtain rfl : m = c := by omega
      have O5 := Lib.hid (own_of_row (F := upF (mkF n m k) vs m) (B := w.heap.size + 1) (Nat.le_refl _) (by omega) (R.out.congr fun t _ => by rw [DF.out t]))
      have EQ := Lib.hid (show vlL n vs k = tab 6 (upF (mkF n m k) vs m) by rw [vlL, ← CC.out])
      have hneg : (m : Int) - 1 - m = -1 := by omega
      rw [hneg]
      go_wp2
      go_ret
      exact ⟨_, rfl, by rw [EQ.out]; exact (show Own wr (w.heap.size + 1) _ (tab 6 (upF (mkF n m k) vs m)) from O5.out).mono (by omega), HB.out.trans (B.out.mono HB.out.size)⟩

end Go.Proofs.YtedipimmiokoiaaDoor
