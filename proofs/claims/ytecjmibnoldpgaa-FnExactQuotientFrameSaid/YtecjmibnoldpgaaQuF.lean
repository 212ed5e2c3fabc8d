/- The contract of the program's quotient of a frame by classes. Conditions: those in the theorems. -/
import Derived.Test.YtecjmibnoldpgaaQuM
import Derived.Test.YtecjmibnoldpgaaPrt
import Derived.Test.YtecjmibnoldpgaaAw
import Derived.Test.YtecjmibnoldpgaaPop
namespace Go.Proofs.Ytecjmibnoldpgaa
open Go.RowKit

theorem pop_fu {m : Nat} (hm : m ≤ 8) : ∃ q : Nat, full m = q ∧ q < 1073741824 ∧ pop q = m := by
  refine ⟨2 ^ m - 1, ?_, ?_, pop_ones m⟩
  · rw [full_eq _ (by omega) (by omega), Int.toNat_natCast]
    have := Nat.two_pow_pos m
    have e : ((2 : Int) ^ m) = ((2 ^ m : Nat) : Int) := by simp
    rw [e]; omega
  · have : 2 ^ m ≤ 2 ^ 8 := Nat.pow_le_pow_right (by decide) hm
    omega

set_option maxHeartbeats 4000000 in
set_option maxRecDepth 100000 in
theorem fquo_any (cs xs : List Int) (n m : Nat) (a : Option Addr) (cap : Nat) (ac : Option Addr) (cc : Nat) (w : World) (hq : Cq cs n m) (hn : n ≤ 8) (hx : ∀ i, InMk n (nth xs i)) (h : At w a n xs) (h' : At w ac n cs) :
    Calls Try.prog 63 #[.agg #[.int .i64 n, .slice a n cap], .slice ac n cc] w fun e w' => ∃ v, e = .returned v ∧ OwnF w' w.heap.size v m (tab m (qaF cs xs n n)) ∧ Below w.heap.size w w' := by
  obtain ⟨W, hW, HB, X, Z, hWs⟩ := boxF1 w n a n cap
  have H := Lib.hid (h.keep HB.out (Nat.le_refl _))
  have H' := Lib.hid (h'.keep HB.out (Nat.le_refl _))
  have hm8 : m ≤ 8 := by have := hq.mn; omega
  obtain ⟨fm, hfm, hf30, hpop⟩ := pop_fu hm8
  have hmk := fun (W : World) => run_make_row' (P := Try.prog) 22 2 (.int .i64 0) 8 Try.underlying22 info64 rfl .i64 .i64 m (by omega) (by omega) W
  have CO := Lib.hid (fun q a c w (hat : At w a n cs) => by
    have z := classesOf_any cs q a c w (by rw [hq.len]; omega) (fun i => ⟨(hq.b30 i).1, by have := (hq.b30 i).2; omega⟩) (by rw [hq.len]; exact hat)
    rw [hq.len] at z
    exact z)
  have FU := Lib.hid (show coTo cs (full n) n = (fm : Int) by rw [hq.full hn]; exact hfm)
  have PB := Lib.hid (fun w => countBits_any fm (by omega) w)
  have Q := Lib.hid hq
  have HX := Lib.hid hx
  have HW := Lib.hid hW
  have HP := Lib.hid hpop
  have hz0 : w.heap.size + 1 + 1 ≤ W.heap.size := by omega
  obtain ⟨lt, x0, x1⟩ := X.out
  clear h h' hW hWs hq hx hfm hpop
  go_enter Try.func63, Try.ntmps63
  go_wp2_with fail
  rw [← HW.out]
  refine (allWorlds_any n _ _ _ _ (by omega) (by omega)).mono ?_
  rintro e w1 ⟨rfl, hb⟩
  have T1 := Lib.hid hb
  clear hb x0 x1
  go_wp2_with fail
  refine (CO.out (full n) _ _ _ (H'.out.keep T1.out (Nat.le_refl _))).mono ?_
  rw [FU.out]
  rintro e w' ⟨rfl, rfl⟩
  go_wp2_with fail
  refine (PB.out _).mono ?_
  rw [HP.out]
  rintro e w' ⟨rfl, rfl⟩
  have R0 := Lib.hid (World.rowIs_made w1 (.int .i64 0) m 2)
  go_wp2
  clear hmk
  go_loopw [16] (fun i wr => ∃ k : Nat, k ≤ n ∧ i = .int .i64 k ∧ Hid (wr.rowIs w1.heap.size 2 m (fun t => .int .i64 (qaF cs xs n k t))) ∧ Hid (Below w1.heap.size w1 wr)) (fun i _ => n - (intOf i).toNat)
  case atStart => exact ⟨0, Nat.zero_le _, rfl, R0, Lib.hid (alloc_keep _ _).1⟩
  case round =>
    obtain ⟨k, hk, rfl, R, B⟩ := hrel
    have TB := Lib.hid (T1.out.trans (B.out.mono T1.out.size))
    by_cases hlt : k < n
    · obtain ⟨cb, co, rfl, hcb, hcc⟩ := (H'.out.keep TB.out (Nat.le_refl _)).2.resolve_left (by omega)
      obtain ⟨xb, xo, rfl, hxb, hxc⟩ := (H.out.keep TB.out (Nat.le_refl _)).2.resolve_left (by omega)
      have hck := hcc k hlt
      have hxk := hxc k hlt
      obtain ⟨j, hj⟩ := Int.eq_ofNat_of_zero_le (Q.out.bd k hlt).1
      have hjm : j < m := by have := (Q.out.bd k hlt).2; omega
      rw [hj] at hck
      have hcg : wr.cell? ⟨w1.heap.size, j, none⟩ = some (.int .i64 (qaF cs xs n k j)) := R.out.cell hjm
      have hfg : wr.frozen? ⟨w1.heap.size, j, none⟩ = false := R.out.frozen j
      have hjm' : (j : Int) < (m : Int) := by omega
      have hkn' : (k : Int) < (n : Int) := by omega
      have AC := Lib.hid (H'.out.keep TB.out (Nat.le_refl _))
      obtain ⟨lt0, x0, x1⟩ := X.out.keep TB.out
      have SETS := Lib.hid (show ∀ z t, z = bits .or .i64 (qaF cs xs n k j) (coTo cs (nth xs k) n) → (if t = j then z else qaF cs xs n k t) = qaF cs xs n (k + 1) t from fun z t hz => qa_set hj hz t)
      clear hcc hxc hj
      go_wp2
      go_region_with (first | (go_at_call 77; refine (CO.out _ _ _ _ AC.out.drw).mono ?_; rintro e w' ⟨rfl, rfl⟩))
      all_goals
        go_wp2
        go_roundw
        case rel => exact ⟨k + 1, hlt, by go_num, Lib.hid (row_setI (show World.rowIs (World.drew _) _ _ _ _ from R.out) (fun t => SETS.out _ t rfl)), Lib.hid ((B.out.drew).setCell (p := ⟨w1.heap.size, j, none⟩) (Nat.le_refl _) _)⟩
        case measure => simp [intOf]; omega
    · obtain rfl : k = n := by omega
      have O5 := Lib.hid (own_of_row (B := w1.heap.size) (Nat.le_refl _) (by omega) R.out)
      go_wp2_with fail
      refine (frameOf_any _ _ _ _ (by omega)).mono ?_
      rintro e w2 ⟨rfl, hb⟩
      have T2 := Lib.hid (TB.out.trans (hb.mono TB.out.size))
      obtain ⟨lt2, z0, z1, z2, z3⟩ := Z.out.keep T2.out
      have O6 := Lib.hid (O5.out.keep hb (Nat.le_refl _))
      have hs1 := T1.out.size
      clear hb O5
      go_wp2
      refine bodyPost_ret (v := .agg #[.int .i64 m, .slice (some ⟨w1.heap.size, 0, none⟩) m m]) (by simp [results, Try.results63, go_sem, z0, z1]) rfl ⟨_, rfl, ?_, ((HB.out.trans (T2.out.mono HB.out.size)).setCell (by show _ ≤ _; simp) _).setCell (by show _ ≤ _; simp) _⟩
      exact ((OwnF.mk (n := m) O6.out).out2 (by omega)).mono (by omega)

end Go.Proofs.Ytecjmibnoldpgaa
