/- 2 texts in one: QuF, QuP. -/
import Derived.Test.YtomldealpmohhaaJn08
import Derived.Test.YtomldealpmohhaaJn09
import Derived.Test.YtomldealpmohhaaPop
import Derived.Test.YtomldealpmohhaaJn12
/- The contract of the program's quotient of a frame by classes. Conditions: those in the theorems. -/
namespace Go.Proofs.Ytomldealpmohhaa
open Go.RowKit

theorem pop_fu {m : Nat} (hm : m ≤ 8) : ∃ q : Nat, full m = q ∧ q < 1073741824 ∧ pop q = m := by
  refine ⟨2 ^ m - 1, ?_, ?_, pop_ones m⟩
  · rw [full_eq _ (by omega) (by omega), Int.toNat_natCast]
    have := Nat.two_pow_pos m
    have e : ((2 : Int) ^ m) = ((2 ^ m : Nat) : Int) := by simp
    rw [e]; omega
  · have : 2 ^ m ≤ 2 ^ 8 := Nat.pow_le_pow_right (by decide) hm
    omega

set_option maxHeartbeats 4000000 in
set_option maxRecDepth 100000 in
theorem fquo_any (cs xs : List Int) (n m : Nat) (a : Option Addr) (cap : Nat) (ac : Option Addr) (cc : Nat) (w : World) (hq : Cq cs n m) (hn : n ≤ 8) (hx : ∀ i, InMk n (nth xs i)) (h : At w a n xs) (h' : At w ac n cs) :
    Calls Try.prog 115 #[.agg #[.int .i64 n, .slice a n cap], .slice ac n cc] w fun e w' => ∃ v, e = .returned v ∧ OwnF w' w.heap.size v m (tab m (qaF cs xs n n)) ∧ Below w.heap.size w w' := by
  obtain ⟨W, hW, HB, X, Z, hWs⟩ := boxF1 w n a n cap
  have H := Lib.hid (h.keep HB.out (Nat.le_refl _))
  have H' := Lib.hid (h'.keep HB.out (Nat.le_refl _))
  have hm8 : m ≤ 8 := by have := hq.mn; omega
  obtain ⟨fm, hfm, hf30, hpop⟩ := pop_fu hm8
  have hmk := fun (W : World) => run_make_row' (P := Try.prog) 22 2 (.int .i64 0) 8 Try.underlying22 info64 rfl .i64 .i64 m (by omega) (by omega) W
  have CO := Lib.hid (fun q a c w (hat : At w a n cs) => by
    have z := classesOf_any cs q a c w (by rw [hq.len]; omega) (fun i => ⟨(hq.b30 i).1, by have := (hq.b30 i).2; omega⟩) (by rw [hq.len]; exact hat)
    rw [hq.len] at z
    exact z)
  have FU := Lib.hid (show coTo cs (full n) n = (fm : Int) by rw [hq.full hn]; exact hfm)
  have PB := Lib.hid (fun w => countBits_any fm (by omega) w)
  have Q := Lib.hid hq
  have HX := Lib.hid hx
  have HW := Lib.hid hW
  have HP := Lib.hid hpop
  have hz0 : w.heap.size + 1 + 1 ≤ W.heap.size := by omega
  obtain ⟨lt, x0, x1⟩ := X.out
  clear h h' hW hWs hq hx hfm hpop
  go_enter Try.func115, Try.ntmps115
  go_wp2_with fail
  rw [← HW.out]
  refine (allWorlds_any n _ _ _ _ (by omega) (by omega)).mono ?_
  rintro e w1 ⟨rfl, hb⟩
  have T1 := Lib.hid hb
  clear hb x0 x1
  go_wp2_with fail
  refine (CO.out (full n) _ _ _ (H'.out.keep T1.out (Nat.le_refl _))).mono ?_
  rw [FU.out]
  rintro e w' ⟨rfl, rfl⟩
  go_wp2_with fail
  refine (PB.out _).mono ?_
  rw [HP.out]
  rintro e w' ⟨rfl, rfl⟩
  have R0 := Lib.hid (World.rowIs_made w1 (.int .i64 0) m 2)
  go_wp2
  clear hmk
  go_loopw [16] (fun i wr => ∃ k : Nat, k ≤ n ∧ i = .int .i64 k ∧ Hid (wr.rowIs w1.heap.size 2 m (fun t => .int .i64 (qaF cs xs n k t))) ∧ Hid (Below w1.heap.size w1 wr)) (fun i _ => n - (intOf i).toNat)
  case atStart => exact ⟨0, Nat.zero_le _, rfl, R0, Lib.hid (alloc_keep _ _).1⟩
  case round =>
    obtain ⟨k, hk, rfl, R, B⟩ := hrel
    have TB := Lib.hid (T1.out.trans (B.out.mono T1.out.size))
    by_cases hlt : k < n
    · obtain ⟨cb, co, rfl, hcb, hcc⟩ := (H'.out.keep TB.out (Nat.le_refl _)).2.resolve_left (by omega)
      obtain ⟨xb, xo, rfl, hxb, hxc⟩ := (H.out.keep TB.out (Nat.le_refl _)).2.resolve_left (by omega)
      have hck := hcc k hlt
      have hxk := hxc k hlt
      obtain ⟨j, hj⟩ := Int.eq_ofNat_of_zero_le (Q.out.bd k hlt).1
      have hjm : j < m := by have := (Q.out.bd k hlt).2; omega
      rw [hj] at hck
      have hcg : wr.cell? ⟨w1.heap.size, j, none⟩ = some (.int .i64 (qaF cs xs n k j)) := R.out.cell hjm
      have hfg : wr.frozen? ⟨w1.heap.size, j, none⟩ = false := R.out.frozen j
      have hjm' : (j : Int) < (m : Int) := by omega
      have hkn' : (k : Int) < (n : Int) := by omega
      have AC := Lib.hid (H'.out.keep TB.out (Nat.le_refl _))
      obtain ⟨lt0, x0, x1⟩ := X.out.keep TB.out
      have SETS := Lib.hid (show ∀ z t, z = bits .or .i64 (qaF cs xs n k j) (coTo cs (nth xs k) n) → (if t = j then z else qaF cs xs n k t) = qaF cs xs n (k + 1) t from fun z t hz => qa_set hj hz t)
      clear hcc hxc hj
      go_wp2
      go_region_with (first | (go_at_call 113; refine (CO.out _ _ _ _ AC.out.drw).mono ?_; rintro e w' ⟨rfl, rfl⟩))
      all_goals
        go_wp2
        go_roundw
        case rel => exact ⟨k + 1, hlt, by go_num, Lib.hid (row_setI (show World.rowIs (World.drew _) _ _ _ _ from R.out) (fun t => SETS.out _ t rfl)), Lib.hid ((B.out.drew).setCell (p := ⟨w1.heap.size, j, none⟩) (Nat.le_refl _) _)⟩
        case measure => simp [intOf]; omega
    · obtain rfl : k = n := by omega
      have O5 := Lib.hid (own_of_row (B := w1.heap.size) (Nat.le_refl _) (by omega) R.out)
      go_wp2_with fail
      refine (frameOf_any _ _ _ _ (by omega)).mono ?_
      rintro e w2 ⟨rfl, hb⟩
      have T2 := Lib.hid (TB.out.trans (hb.mono TB.out.size))
      obtain ⟨lt2, z0, z1, z2, z3⟩ := Z.out.keep T2.out
      have O6 := Lib.hid (O5.out.keep hb (Nat.le_refl _))
      have hs1 := T1.out.size
      clear hb O5
      go_wp2
      refine bodyPost_ret (v := .agg #[.int .i64 m, .slice (some ⟨w1.heap.size, 0, none⟩) m m]) (by simp [results, Try.results115, go_sem, z0, z1]) rfl ⟨_, rfl, ?_, ((HB.out.trans (T2.out.mono HB.out.size)).setCell (by show _ ≤ _; simp) _).setCell (by show _ ≤ _; simp) _⟩
      exact ((OwnF.mk (n := m) O6.out).out2 (by omega)).mono (by omega)

end Go.Proofs.Ytomldealpmohhaa

/- Contracts of the program's quotients by classes. Conditions: those in the theorems. -/
namespace Go.Proofs.Ytomldealpmohhaa
open Go.RowKit

set_option maxHeartbeats 4000000 in
set_option maxRecDepth 100000 in
theorem mquo_any (cs xs ys : List Int) (n m : Nat) (a : Option Addr) (cap : Nat) (b : Option Addr) (d : Nat) (ac : Option Addr) (cc : Nat) (w : World) (hq : Cq cs n m) (hn : n ≤ 8) (hy : ys.length ≤ 30) (hx : ∀ i, InMk n (nth xs i)) (h : At w a n xs) (h' : At w b ys.length ys) (h'' : At w ac n cs) :
    Calls Try.prog 75 #[.agg #[.int .i64 n, .slice a n cap, .slice b ys.length d], .slice ac n cc] w fun e w' => ∃ v, e = .returned v ∧ OwnM w' w.heap.size v m (tab m (qaF cs xs n n)) (tab ys.length (fun v => coTo cs (nth ys v) n)) ∧ Below w.heap.size w w' := by
  obtain ⟨W, hW, HB, X, Z, hWs⟩ := boxM2 w n a n cap b ys.length d
  have H := Lib.hid (h.keep HB.out (Nat.le_refl _))
  have H' := Lib.hid (h'.keep HB.out (Nat.le_refl _))
  have H2 := Lib.hid (h''.keep HB.out (Nat.le_refl _))
  have hmk := fun (W : World) => run_make_row' (P := Try.prog) 22 2 (.int .i64 0) 8 Try.underlying22 info64 rfl .i64 .i64 ys.length (by omega) (by omega) W
  have hr0 := World.rowIs_made W (.int .i64 0) ys.length 2
  rw [hWs] at hr0
  have HR0 := Lib.hid hr0
  have HBV := Lib.hid ((Below.refl (w.heap.size + 1 + 1) W).alloc (by omega) (.cells (madeCells #[.int .i64 0] ys.length) 2))
  have hz0 : w.heap.size + 1 + 1 ≤ W.heap.size := by omega
  have hz1 : W.heap.size ≤ w.heap.size + 1 + 1 := by omega
  have CO := Lib.hid (fun q a c w (hat : At w a n cs) => by
    have z := classesOf_any cs q a c w (by rw [hq.len]; omega) (fun i => ⟨(hq.b30 i).1, by have := (hq.b30 i).2; have := hq.mn; omega⟩) (by rw [hq.len]; exact hat)
    rw [hq.len] at z
    exact z)
  have FQ := Lib.hid (fun w (hat : At w a n xs) (hac : At w ac n cs) => fquo_any cs xs n m a cap ac cc w hq hn hx hat hac)
  have HW := Lib.hid hW
  have hm8 : m ≤ 8 := by have := hq.mn; omega
  obtain ⟨lt, x0, x1, x2⟩ := X.out
  rw [HW.out] at x2
  clear h h' h'' hr0 hW hWs hq hx x0 x1
  go_enter Try.func75, Try.ntmps75
  go_wp2
  clear hmk x2
  go_loopw [15] (fun i wr => ∃ k : Nat, k ≤ ys.length ∧ i = .int .i64 k ∧ wr.rowIs (w.heap.size + 1 + 1) 2 ys.length (fun t => .int .i64 (upS (fun v => coTo cs (nth ys v) n) k t)) ∧ Hid (Below (w.heap.size + 1 + 1) W wr)) (fun i _ => ys.length - (intOf i).toNat)
  case atStart =>
    rw [← HW.out]
    exact ⟨0, Nat.zero_le _, rfl, HR0.out.congr fun t _ => by rw [upS_start], HBV⟩
  case round =>
    obtain ⟨k, hk, rfl, hrow, B⟩ := hrel
    have hsz := B.out.size
    by_cases hlt : k < ys.length
    · have HL := Lib.hid (H2.out.keep B.out (by omega))
      obtain ⟨b', off', rfl, hb', hc'⟩ := H'.out.2.resolve_left (by omega)
      have hcell' : wr.cell? ⟨b', off' + k, none⟩ = some (.int .i64 (nth ys k)) := (B.out.cell (p := ⟨b', off' + k, none⟩) (Nat.lt_of_lt_of_le hb' hz1)).trans (hc' k hlt)
      have hcg : wr.cell? ⟨w.heap.size + 1 + 1, k, none⟩ = some (.int .i64 (upS (fun v => coTo cs (nth ys v) n) k k)) := hrow.cell hlt
      have hfg : wr.frozen? ⟨w.heap.size + 1 + 1, k, none⟩ = false := hrow.frozen k
      have HROW := Lib.hid hrow
      clear hc' hrow
      go_wp2_with (go_at_call 113; refine (CO.out _ _ _ _ HL.out).mono ?_; rintro e w' ⟨rfl, rfl⟩)
      go_roundw
      case rel => exact ⟨k + 1, hlt, by go_num, row_setI HROW.out (fun t => upS_set rfl t), Lib.hid (B.out.setCell (p := ⟨w.heap.size + 1 + 1, k, none⟩) (Nat.le_refl _) _)⟩
      case measure => simp [intOf]; omega
    · obtain rfl : k = ys.length := by omega
      have O5 := Lib.hid (own_of_row (B := w.heap.size + 1 + 1) (Nat.le_refl _) (by omega) (hrow.congr fun t ht => by rw [upS_all ht]))
      have Z1 := Lib.hid (Z.out.below B.out (by omega))
      have X1 := Lib.hid (X.out.below B.out (by omega))
      have B2 := Lib.hid (HB.out.trans (B.out.mono (by omega)))
      have H5 := Lib.hid (H.out.keep B.out (by omega))
      have L5 := Lib.hid (H2.out.keep B.out (by omega))
      obtain ⟨lt1, x0, x1, x2⟩ := X1.out
      clear hrow
      go_wp2_with fail
      clear x0 x1 x2
      refine (FQ.out _ H5.out L5.out).mono ?_
      rintro e w2 ⟨v2, rfl, ho, hb⟩
      obtain ⟨a2, c2, rfl⟩ := ho.form
      rw [tab_len] at ho ⊢
      obtain ⟨lt2, z0, z1, z2, z3, z4, z5⟩ := (Z1.out.keep hb).all
      have B3 := Lib.hid (B2.out.trans (hb.mono B2.out.size))
      have O6 := Lib.hid (O5.out.inn.below hb (Nat.le_refl _))
      have O7 := Lib.hid ho
      have hlr : w.heap.size + 1 + 1 ≤ wr.heap.size := by omega
      clear hb O5 ho
      go_wp2
      refine bodyPost_ret (v := .agg #[.int .i64 m, .slice a2 m c2, .slice (some ⟨w.heap.size + 1 + 1, 0, none⟩) ys.length ys.length]) (by simp [results, Try.results75, go_sem, z0, z1, z2]) rfl ⟨_, rfl, ?_, ((B3.out.setCell (by show _ ≤ _; simp) _).setCell (by show _ ≤ _; simp) _).setCell (by show _ ≤ _; simp) _⟩
      exact ((OwnM.two' (n := m) O7.out.2 (show OwnIn _ (w.heap.size + 1 + 1) wr.heap.size _ (tab ys.length (fun v => coTo cs (nth ys v) n)) from O6.out) hlr).out3 (by omega)).mono (by omega)

end Go.Proofs.Ytomldealpmohhaa
