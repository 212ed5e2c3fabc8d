/- Contracts of FrameFlags of the program, and in value form. Conditions: those in the theorems. -/
import Derived.Test.YtpedinmflhgcoaaFlG
import Derived.Test.YtpedinmflhgcoaaFlF
namespace Go.Proofs.Ytpedinmflhgcoaa
open Go.RowKit

theorem flagsOf_fl (xs : List Int) (a : Option Addr) (cap : Nat) (w : World) (h8 : xs.length ≤ 8) (hr : Rel xs.length (nth xs)) (h : At w a xs.length xs) :
    Calls Try.prog 72 #[.slice a xs.length cap] w fun e w' => e = .returned (.agg #[.bool (flB 0 xs), .bool (flB 1 xs), .bool (flB 2 xs), .bool (flB 3 xs), .bool (flB 4 xs), .bool (flB 5 xs), .bool (flB 6 xs), .bool (flB 7 xs), .bool (flB 8 xs), .bool (flB 9 xs), .bool (flB 10 xs)]) ∧ Below w.heap.size w w' := by
  have q := flagsOf_any xs a cap w h8 h
  rw [ib_fl h8 hr 0 (by omega), ib_fl h8 hr 1 (by omega), ib_fl h8 hr 2 (by omega), ib_fl h8 hr 3 (by omega), ib_fl h8 hr 4 (by omega), ib_fl h8 hr 5 (by omega), ib_fl h8 hr 6 (by omega), ib_fl h8 hr 7 (by omega), ib_fl h8 hr 8 (by omega), ib_fl h8 hr 9 (by omega), ib_fl h8 hr 10 (by omega)] at q
  exact q

def fsF (xs : List Int) (k i : Nat) : Int := if i < k then (if flB i xs then 1 else 0) else 0
theorem fs_set {xs : List Int} {k : Nat} (h : flB k xs = true) (t : Nat) : (if t = k then (1 : Int) else fsF xs k t) = fsF xs (k + 1) t := by
  unfold fsF
  by_cases e : t = k
  · subst e; rw [if_pos rfl, if_pos (by omega), h]; rfl
  · rw [if_neg e]
    by_cases h2 : t < k
    · have h3 : t < k + 1 := by omega
      rw [if_pos h2, if_pos h3]
    · have h3 : ¬ t < k + 1 := by omega
      rw [if_neg h2, if_neg h3]
theorem fs_no {xs : List Int} {k : Nat} (h : flB k xs = false) : fsF xs k = fsF xs (k + 1) := by
  funext t
  unfold fsF
  by_cases e : t = k
  · subst e; rw [if_neg (by omega), if_pos (by omega), h]; rfl
  · by_cases h2 : t < k
    · have h3 : t < k + 1 := by omega
      rw [if_pos h2, if_pos h3]
    · have h3 : ¬ t < k + 1 := by omega
      rw [if_neg h2, if_neg h3]
theorem flL_tab (xs : List Int) (k : Nat) : flL xs k = tab k (fun i => if flB i xs then 1 else 0) := by
  induction k with
  | zero => rfl
  | succ k ih => rw [flL, ih]; unfold tab; rw [List.range_succ, List.map_append]; rfl
theorem fs_all (xs : List Int) : tab 11 (fsF xs 11) = flL xs 11 := by
  rw [flL_tab]
  exact tab_congr fun t ht => by rw [fsF, if_pos ht]
theorem fs_zero (xs : List Int) : (madeCells #[.int .i64 0] 11).toList = (tab 11 (fsF xs 0)).map (Value.int .i64) := by
  rw [toList_madeCells_one]
  rfl

theorem run_flag0 (b0 b1 b2 b3 b4 b5 b6 b7 b8 b9 b10 : Bool) (W : World) : Sem.run Try.prog (Instr.index 84 (.agg #[.bool b0, .bool b1, .bool b2, .bool b3, .bool b4, .bool b5, .bool b6, .bool b7, .bool b8, .bool b9, .bool b10]) (.int .i64 0)) W = .ok (.bool b0) W := by
  simp [Instr.index, run_underlying Try.underlying84, asIntOf, go_sem]
theorem run_flag1 (b0 b1 b2 b3 b4 b5 b6 b7 b8 b9 b10 : Bool) (W : World) : Sem.run Try.prog (Instr.index 84 (.agg #[.bool b0, .bool b1, .bool b2, .bool b3, .bool b4, .bool b5, .bool b6, .bool b7, .bool b8, .bool b9, .bool b10]) (.int .i64 1)) W = .ok (.bool b1) W := by
  simp [Instr.index, run_underlying Try.underlying84, asIntOf, go_sem]
theorem run_flag2 (b0 b1 b2 b3 b4 b5 b6 b7 b8 b9 b10 : Bool) (W : World) : Sem.run Try.prog (Instr.index 84 (.agg #[.bool b0, .bool b1, .bool b2, .bool b3, .bool b4, .bool b5, .bool b6, .bool b7, .bool b8, .bool b9, .bool b10]) (.int .i64 2)) W = .ok (.bool b2) W := by
  simp [Instr.index, run_underlying Try.underlying84, asIntOf, go_sem]
theorem run_flag3 (b0 b1 b2 b3 b4 b5 b6 b7 b8 b9 b10 : Bool) (W : World) : Sem.run Try.prog (Instr.index 84 (.agg #[.bool b0, .bool b1, .bool b2, .bool b3, .bool b4, .bool b5, .bool b6, .bool b7, .bool b8, .bool b9, .bool b10]) (.int .i64 3)) W = .ok (.bool b3) W := by
  simp [Instr.index, run_underlying Try.underlying84, asIntOf, go_sem]
theorem run_flag4 (b0 b1 b2 b3 b4 b5 b6 b7 b8 b9 b10 : Bool) (W : World) : Sem.run Try.prog (Instr.index 84 (.agg #[.bool b0, .bool b1, .bool b2, .bool b3, .bool b4, .bool b5, .bool b6, .bool b7, .bool b8, .bool b9, .bool b10]) (.int .i64 4)) W = .ok (.bool b4) W := by
  simp [Instr.index, run_underlying Try.underlying84, asIntOf, go_sem]
theorem run_flag5 (b0 b1 b2 b3 b4 b5 b6 b7 b8 b9 b10 : Bool) (W : World) : Sem.run Try.prog (Instr.index 84 (.agg #[.bool b0, .bool b1, .bool b2, .bool b3, .bool b4, .bool b5, .bool b6, .bool b7, .bool b8, .bool b9, .bool b10]) (.int .i64 5)) W = .ok (.bool b5) W := by
  simp [Instr.index, run_underlying Try.underlying84, asIntOf, go_sem]
theorem run_flag6 (b0 b1 b2 b3 b4 b5 b6 b7 b8 b9 b10 : Bool) (W : World) : Sem.run Try.prog (Instr.index 84 (.agg #[.bool b0, .bool b1, .bool b2, .bool b3, .bool b4, .bool b5, .bool b6, .bool b7, .bool b8, .bool b9, .bool b10]) (.int .i64 6)) W = .ok (.bool b6) W := by
  simp [Instr.index, run_underlying Try.underlying84, asIntOf, go_sem]
theorem run_flag7 (b0 b1 b2 b3 b4 b5 b6 b7 b8 b9 b10 : Bool) (W : World) : Sem.run Try.prog (Instr.index 84 (.agg #[.bool b0, .bool b1, .bool b2, .bool b3, .bool b4, .bool b5, .bool b6, .bool b7, .bool b8, .bool b9, .bool b10]) (.int .i64 7)) W = .ok (.bool b7) W := by
  simp [Instr.index, run_underlying Try.underlying84, asIntOf, go_sem]
theorem run_flag8 (b0 b1 b2 b3 b4 b5 b6 b7 b8 b9 b10 : Bool) (W : World) : Sem.run Try.prog (Instr.index 84 (.agg #[.bool b0, .bool b1, .bool b2, .bool b3, .bool b4, .bool b5, .bool b6, .bool b7, .bool b8, .bool b9, .bool b10]) (.int .i64 8)) W = .ok (.bool b8) W := by
  simp [Instr.index, run_underlying Try.underlying84, asIntOf, go_sem]
theorem run_flag9 (b0 b1 b2 b3 b4 b5 b6 b7 b8 b9 b10 : Bool) (W : World) : Sem.run Try.prog (Instr.index 84 (.agg #[.bool b0, .bool b1, .bool b2, .bool b3, .bool b4, .bool b5, .bool b6, .bool b7, .bool b8, .bool b9, .bool b10]) (.int .i64 9)) W = .ok (.bool b9) W := by
  simp [Instr.index, run_underlying Try.underlying84, asIntOf, go_sem]
theorem run_flag10 (b0 b1 b2 b3 b4 b5 b6 b7 b8 b9 b10 : Bool) (W : World) : Sem.run Try.prog (Instr.index 84 (.agg #[.bool b0, .bool b1, .bool b2, .bool b3, .bool b4, .bool b5, .bool b6, .bool b7, .bool b8, .bool b9, .bool b10]) (.int .i64 10)) W = .ok (.bool b10) W := by
  simp [Instr.index, run_underlying Try.underlying84, asIntOf, go_sem]
theorem run_flag (xs : List Int) (k : Nat) (hk : k ≤ 10) (W : World) : Sem.run Try.prog (Instr.index 84 (.agg #[.bool (flB 0 xs), .bool (flB 1 xs), .bool (flB 2 xs), .bool (flB 3 xs), .bool (flB 4 xs), .bool (flB 5 xs), .bool (flB 6 xs), .bool (flB 7 xs), .bool (flB 8 xs), .bool (flB 9 xs), .bool (flB 10 xs)]) (.int .i64 k)) W = .ok (.bool (flB k xs)) W :=
  match k, hk with
  | 0, _ => run_flag0 _ _ _ _ _ _ _ _ _ _ _ W
  | 1, _ => run_flag1 _ _ _ _ _ _ _ _ _ _ _ W
  | 2, _ => run_flag2 _ _ _ _ _ _ _ _ _ _ _ W
  | 3, _ => run_flag3 _ _ _ _ _ _ _ _ _ _ _ W
  | 4, _ => run_flag4 _ _ _ _ _ _ _ _ _ _ _ W
  | 5, _ => run_flag5 _ _ _ _ _ _ _ _ _ _ _ W
  | 6, _ => run_flag6 _ _ _ _ _ _ _ _ _ _ _ W
  | 7, _ => run_flag7 _ _ _ _ _ _ _ _ _ _ _ W
  | 8, _ => run_flag8 _ _ _ _ _ _ _ _ _ _ _ W
  | 9, _ => run_flag9 _ _ _ _ _ _ _ _ _ _ _ W
  | 10, _ => run_flag10 _ _ _ _ _ _ _ _ _ _ _ W
  | n + 11, h => absurd h (by omega)

set_option maxHeartbeats 2000000 in
set_option maxRecDepth 100000 in
theorem implFrameFlags_any (n : Int) (xs : List Int) (a : Option Addr) (len cap : Nat) (w : World) (hl : len ≤ 1048576) (h : At w a len xs) :
    Calls Try.prog 28 #[.agg #[.int .i64 n, .slice a len cap]] w fun e w' => ∃ v, e = .returned (.tuple #[v, .int .i64 (rtC n xs)]) ∧ Own w' w.heap.size v (outL (rtC n xs) (flL xs 11)) ∧ Below w.heap.size w w' := by
  have HB := Lib.hid (boxF (w := w) n a len cap)
  have H := Lib.hid (h.keep HB.out (Nat.le_refl _))
  obtain rfl := h.1
  clear h
  cases h0 : frB n xs
  · have C := Lib.hid h0
    have E := Lib.hid (ff_bad h0)
    clear h0
    go_enter Try.func28, Try.ntmps28
    go_wp2_with fail
    refine (implIsFrame_any n xs _ _ _ _ hl H.out).mono ?_
    rw [C.out]
    rintro e w1 ⟨rfl, hb1⟩
    have B1 := Lib.hid (HB.out.trans (hb1.mono HB.out.size))
    clear hb1
    go_wp2
    go_ret2
    exact ⟨_, by rw [E.out]; rfl, Own.nil (by rw [E.out]; decide), B1.out⟩
  · obtain ⟨i0, hi, hz0, hz1, hz2⟩ := info_parts info64
    obtain ⟨rfl, h8, -, hr⟩ := frB_ok h0
    have HR := Lib.hid hr
    have C := Lib.hid h0
    have E := Lib.hid (ff_ok h0)
    clear hr h0
    go_enter Try.func28, Try.ntmps28
    go_wp2_with fail
    refine (implIsFrame_any xs.length xs _ _ _ _ hl H.out).mono ?_
    rw [C.out]
    rintro e w1 ⟨rfl, hb1⟩
    have B1 := Lib.hid (HB.out.trans (hb1.mono HB.out.size))
    have H1 := Lib.hid (H.out.keep hb1 (Nat.le_refl _))
    have X1 := Lib.hid (bx1 hb1)
    clear hb1
    go_wp2_with (at_make; refine wpList_make_full _ rfl _ _ 22 rfl w1.heap.size 2 i0 (.int .i64 0) 1 Try.underlying22 hi hz0 hz1 _ _ _ _ 11 rfl rfl rfl rfl ?b2 ?b3 (Nat.le_refl _) ?_)
    case b2 => rw [hz2]; omega
    case b3 => unfold maxLen; omega
    intro w2 hown2 hgrow2
    rw [fs_zero xs] at hown2
    have hb2 : Below w1.heap.size w1 w2 := (Below.refl _ _).grown hgrow2 (Nat.le_refl _) (fun k h => by cases h)
    have O2 := Lib.hid hown2
    have B2 := Lib.hid (B1.out.trans (hb2.mono B1.out.size))
    have H2 := Lib.hid (H1.out.keep hb2 (Nat.le_refl _))
    obtain ⟨lt2, c0, c1⟩ := X1.out.keep hb2
    have hlt2 := World.ownsRow.lt hown2 w1.heap.size rfl
    have hlt1 : w1.heap.size < w2.heap.size := hlt2.2
    have hz1' := B1.out.size
    clear hown2 hgrow2 hb2 hi hz0 hz1 hz2 hlt2
    go_wp2_with fail
    clear c0 c1
    refine (frRel_any _ _ _ _ _).mono ?_
    rintro e w3 ⟨rfl, hb3⟩
    have B3 := Lib.hid (B2.out.trans (hb3.mono B2.out.size))
    have H3 := Lib.hid (H2.out.keep hb3 (Nat.le_refl _))
    have hz3 := hb3.size
    have bl3 := Lib.hid (hb3.block w1.heap.size hlt1)
    clear hb3
    go_wp2_with fail
    refine (flagsOf_fl xs a cap _ h8 HR.out H3.out).mono ?_
    rintro e w4 ⟨rfl, hb4⟩
    have B4 := Lib.hid (B3.out.trans (hb4.mono B3.out.size))
    have bl4 := Lib.hid ((hb4.block w1.heap.size (by omega)).trans bl3.out)
    have O4 : Hid (w4.ownsRow w1.heap.size 2 1 (.slice (some ⟨w1.heap.size, 0, none⟩) 11 11) 11 ((tab 11 (fsF xs 0)).map (Value.int .i64))) := by
      obtain ⟨q1, q2⟩ := O2.out
      refine Lib.hid ⟨q1, ?_⟩
      rcases q2 with ⟨hv, -⟩ | ⟨g, cp, cur, hv, hg, hh, r⟩
      · cases hv
      · cases hv
        exact .inr ⟨_, _, _, rfl, hg, by rw [bl4.out]; exact hh, r⟩
    clear hb4 O2 bl3 bl4
    go_wp2
    go_loopw [14] (fun i wr => ∃ k : Nat, k ≤ 11 ∧ i = .int .i64 k ∧ Hid (wr.ownsRow w1.heap.size 2 1 (.slice (some ⟨w1.heap.size, 0, none⟩) 11 11) 11 ((tab 11 (fsF xs k)).map (Value.int .i64))) ∧ Hid (Below w.heap.size w wr)) (fun i _ => 11 - (intOf i).toNat)
    case atStart => exact ⟨0, Nat.zero_le _, rfl, O4, B4⟩
    case round =>
      obtain ⟨k, hk, rfl, O, B⟩ := hrel
      by_cases hlt : k ≤ 10
      · have hcg : wr.cell? ⟨w1.heap.size, k, none⟩ = some (.int .i64 (fsF xs k k)) := (O.out.cellAt k (by omega)).trans (tab_get (by omega))
        have hfg : wr.frozen? ⟨w1.heap.size, k, none⟩ = false := O.out.frozenAt k
        have ri := fun W => run_flag xs k hlt W
        cases hv : flB k xs
        · have V := Lib.hid hv
          rw [hv] at ri
          clear hv
          go_wp2
          go_roundw
          case rel => exact ⟨k + 1, by omega, by go_num, Lib.hid (by rw [← fs_no V.out]; exact O.out), B⟩
          case measure => simp [intOf]; omega
        · have V := Lib.hid hv
          rw [hv] at ri
          clear hv
          go_wp2
          go_roundw
          case rel => exact ⟨k + 1, by omega, by go_num, Lib.hid (by rw [← tab_set (fs_set V.out)]; exact (O.out.stored _ _).1), Lib.hid (B.out.setCell (by show _ ≤ _; exact hz1') _)⟩
          case measure => simp [intOf]; omega
      · obtain rfl : k = 11 := by omega
        go_wp2
        go_ret2
        exact ⟨_, out_ok E.out, Own.ok E.out (Own.mono (B := w1.heap.size) (by have q := O.out; rw [fs_all] at q; unfold Own; rw [flL_len]; exact q) hz1'), B.out⟩

theorem FrameFlags_len (n : Int) (xs : List Int) : (outL (rtC n xs) (flL xs 11)).length ≤ 1048576 := by
  unfold outL
  split
  · rw [flL_len]; omega
  · simp
theorem specFrameFlags_v (n : Int) (xs : List Int) (v : Value) (lo hi : Nat) (w : World) (hl : xs.length ≤ 1048576) (h : InF w lo hi v n xs) :
    Calls Try.prog 26 #[v] w fun e w' => ∃ v, e = .returned (.tuple #[v, .int .i64 (rtC n xs)]) ∧ Own w' w.heap.size v (outL (rtC n xs) (flL xs 11)) ∧ Below w.heap.size w w' := by
  obtain ⟨a, cap, rfl, hat, -⟩ := h.at
  exact specFrameFlags_any n xs a _ cap w hl hat
theorem implFrameFlags_v (n : Int) (xs : List Int) (v : Value) (lo hi : Nat) (w : World) (hl : xs.length ≤ 1048576) (h : InF w lo hi v n xs) :
    Calls Try.prog 28 #[v] w fun e w' => ∃ v, e = .returned (.tuple #[v, .int .i64 (rtC n xs)]) ∧ Own w' w.heap.size v (outL (rtC n xs) (flL xs 11)) ∧ Below w.heap.size w w' := by
  obtain ⟨a, cap, rfl, hat, -⟩ := h.at
  exact implFrameFlags_any n xs a _ cap w hl hat

end Go.Proofs.Ytpedinmflhgcoaa
