/- Contract of slices.Repeat at a list of one int64. Conditions: those in the theorems. -/
import Derived.Laws.CopyOwn
import Derived.Deep.RegionLaw
import Derived.Test.YthopleeehbkjaaaMul
import Derived.Test.YthopleeehbkjaaaInv
namespace Go.Proofs.Ythopleeehbkjaaa
open Go.RowKit

/-- j times x, then zeros. -/
def rpV (x : Int) (n j : Nat) : List Value := List.replicate j (.int .i64 x) ++ List.replicate (n - j) (.int .i64 0)
theorem rpV_len (x : Int) (n j : Nat) (h : j ≤ n) : (rpV x n j).length = n := by simp [rpV]; omega
theorem rpV_next (x : Int) (n j m : Nat) : splice (rpV x n j) j (List.replicate m (.int .i64 x)) = rpV x n (j + m) := by
  unfold splice rpV
  rw [List.take_append, List.drop_append]
  simp only [List.length_replicate, Nat.sub_self, List.take_replicate, Nat.min_self, List.drop_replicate, Nat.zero_min, List.replicate_zero, List.append_nil]
  rw [show j - (j + m) = 0 by omega, show n - j - (j + m - j) = n - (j + m) by omega]
  simp only [List.replicate_zero, List.nil_append]
  rw [← List.append_assoc, List.replicate_append_replicate]
theorem sz64 : (Try.prog.info? 2).map (·.size) = some 1 := by kernel_rfl
theorem one_cells (x : Int) (m : Nat) : ∀ v ∈ List.replicate m (Value.int .i64 x), v.oneCell' = true := by
  intro v hv
  rw [(List.mem_replicate.1 hv).2]
  rfl
theorem rpV_row {w : World} {g n j : Nat} {x : Int} (hj : j ≤ n) (h : w.heap[g]? = some (.cells (rpV x n j).toArray 2 (0, 0))) : w.rowIs g 2 n (fun t => .int .i64 (if t < j then x else 0)) := by
  refine ⟨_, h, by rw [List.size_toArray, rpV_len _ _ _ hj], fun t ht => ?_⟩
  rw [List.getElem?_toArray]
  show _ = some (Value.int .i64 (if t < j then x else 0))
  unfold rpV
  by_cases e : t < j
  · rw [List.getElem?_append_left (by simpa using e), if_pos e, List.getElem?_replicate, if_pos e]
  · rw [List.getElem?_append_right (by simpa using Nat.le_of_not_lt e), if_neg e, List.length_replicate, List.getElem?_replicate, if_pos (by omega)]

set_option maxHeartbeats 1000000 in
set_option maxRecDepth 100000 in
theorem repeatI_any (x : Int) (n : Nat) (a : Option Addr) (cap : Nat) (w : World) (hn : n ≤ 4096) (h : At w a 1 [x]) :
    Calls Try.prog 68 #[.slice a 1 cap, .int .i64 n] w fun e w' => ∃ v, e = .returned v ∧ Own w' w.heap.size v (tab n (fun _ => x)) ∧ Below w.heap.size w w' := by
  have hmk := fun (W : World) => run_make_row' (P := Try.prog) 22 2 (.int .i64 0) 8 Try.underlying22 info64 rfl .i64 .i64 n (by omega) (by omega) W
  obtain ⟨b, off, rfl, hb, -⟩ := h.2.resolve_left (by omega)
  have H := Lib.hid h
  clear h
  have M := mul_small 1 n (by omega) (by omega)
  rw [Nat.one_mul] at M
  have hu : IntKind.u64.wrap (n : Int) = (n : Int) := by rw [IntKind.wrap_u64]; omega
  have hu2 : IntKind.i64.wrap (n : Int) = (n : Int) := by rw [IntKind.wrap_i64]; omega
  have hbig : ¬ (9223372036854775807 : Int) < (n : Int) := by omega
  obtain ⟨m, hm⟩ : ∃ m, m = Nat.min 1 n := ⟨_, rfl⟩
  have hmn : m ≤ n := by rw [hm]; exact Nat.min_le_right _ _
  have hm1 : m ≤ 1 := by rw [hm]; exact Nat.min_le_left _ _
  have hm0 : n = 0 ∨ 0 < m := by
    rcases Nat.eq_zero_or_pos n with h | h
    · exact .inl h
    · right; rw [hm]; show 0 < min 1 n; omega
  have HM := Lib.hid hm
  have HR := Lib.hid (show (w.alloc (.cells (madeCells #[.int .i64 0] n) 2)).heap[w.heap.size]? = some (.cells (rpV x n 0).toArray 2 (0, 0)) by
    refine (MapKept.heap_alloc w _).1.trans ?_
    have e : madeCells #[.int .i64 0] n = (rpV x n 0).toArray := by
      apply Array.toList_inj.1
      rw [cpl_zero (List.replicate n 0) n]
      simp [rpV, cpl]
    rw [e])
  have BW := Lib.hid (show Below w.heap.size w (w.alloc (.cells (madeCells #[.int .i64 0] n) 2)) from (Below.refl _ _).alloc (Nat.le_refl _) _)
  have CW := Lib.hid (show ∀ (j : Nat) (v : Value), (List.replicate m (Value.int .i64 x))[j]? = some v → (w.alloc (.cells (madeCells #[.int .i64 0] n) 2)).cell? ((⟨b, off, none⟩ : Addr).add j) = some v by
    intro j v hv
    rw [List.getElem?_replicate] at hv
    split at hv
    · rename_i hj
      obtain rfl : j = 0 := by omega
      cases hv
      obtain ⟨b', off', e, hb', hc'⟩ := (H.out.keep BW.out (Nat.le_refl _)).2.resolve_left (by omega)
      cases e
      exact hc' 0 (by omega)
    · cases hv)
  clear hm
  go_enter Try.func68, Try.ntmps68
  go_wp2_with fail
  refine (M _).mono ?_
  rintro e w1 ⟨rfl, rfl⟩
  clear M
  go_wp2_with (refine wpList_copy_splice rfl _ _ _ _ rfl 2 Try.underlying22 sz64 (some ⟨w1.heap.size, 0, none⟩) (some ⟨b, off, none⟩) n n 1 cap rfl rfl w1.heap.size 0 (rpV x n 0) 2 HR.out (List.replicate m (.int .i64 x)) (by rw [List.length_replicate]; exact HM.out) (fun h0 => ⟨rfl, _, rfl, CW.out⟩) (by rw [rpV_len _ _ _ (Nat.zero_le _)]; simpa using hmn) (one_cells x m) w1.heap.size w1 BW.out (Nat.le_refl _) ?_)
  intro w2 hg2 hb2
  have G2 := Lib.hid (show w2.heap[w1.heap.size]? = some (.cells (rpV x n m).toArray 2 (0, 0)) by have := hg2.out; rw [rpV_next, Nat.zero_add] at this; exact this)
  have B2 := Lib.hid hb2
  clear hg2 hb2
  try rw [List.length_replicate]
  go_wp2
  go_loopw [8] (fun v wr => ∃ j : Nat, j ≤ n ∧ (n = 0 ∨ 0 < j) ∧ v = .int .i64 j ∧ Hid (wr.heap[w1.heap.size]? = some (.cells (rpV x n j).toArray 2 (0, 0))) ∧ Hid (Below w1.heap.size w1 wr)) (fun v _ => n - (intOf v).toNat)
  case atStart => exact ⟨m, hmn, hm0, rfl, G2, B2⟩
  case round =>
    obtain ⟨j, hj, hj0, rfl, G, B⟩ := hrel
    by_cases hlt : j < n
    · have hz1 : (j : Int) ≤ (n : Int) := by omega
      have hz0 : (0 : Int) ≤ (j : Int) := by omega
      have hne : ¬ n = j := by omega
      obtain ⟨q, hq⟩ : ∃ q, q = Nat.min j (n - j) := ⟨_, rfl⟩
      have hq1 : q ≤ j := by rw [hq]; exact Nat.min_le_left _ _
      have hq2 : q ≤ n - j := by rw [hq]; exact Nat.min_le_right _ _
      have hq3 : 0 < q := by rw [hq]; show 0 < min j (n - j); omega
      have HQ := Lib.hid hq
      clear hq
      have CS := Lib.hid (fun (i : Nat) (v : Value) (hv : (List.replicate q (Value.int .i64 x))[i]? = some v) => (show wr.cell? ((⟨w1.heap.size, 0, none⟩ : Addr).add i) = some v by
        rw [List.getElem?_replicate] at hv
        split at hv
        · rename_i hi
          cases hv
          have := (rpV_row hj G.out).cell (show i < n by omega)
          rw [if_pos (by omega)] at this
          by_cases e0 : i = 0
          · subst e0; simpa [Addr.add] using this
          · simpa [Addr.add, e0] using this
        · cases hv))
      go_wp2
      go_region_law (refine step_copy_splice rfl _ _ _ _ rfl 2 Try.underlying22 sz64 (some ⟨w1.heap.size, j, none⟩) (some ⟨w1.heap.size, 0, none⟩) (n - j) (n - j) j n (by go_simp) (by go_simp) w1.heap.size j (rpV x n j) 2 (show (World.drew _).heap[_]? = _ from G.out) (List.replicate q (.int .i64 x)) (by rw [List.length_replicate]; exact HQ.out) (fun _ => ⟨rfl, _, rfl, CS.out⟩) (by rw [rpV_len _ _ _ hj, List.length_replicate]; omega) (one_cells x q) w1.heap.size w1 B.out.drew (Nat.le_refl _) ?_; intro w4 hg4 hb4)
      all_goals
        have G4 := Lib.hid (show w4.heap[w1.heap.size]? = some (.cells (rpV x n (j + q)).toArray 2 (0, 0)) by have := hg4.out; rw [rpV_next] at this; exact this)
        have B4 := Lib.hid hb4
        clear hg4 hb4
        have hw2 : IntKind.i64.wrap ((j : Int) + (q : Int)) = (j : Int) + (q : Int) := by rw [IntKind.wrap_i64]; omega
        try rw [List.length_replicate]
        go_simp
        go_wp2
        go_roundw
        case rel => exact ⟨j + q, by omega, by omega, by simp, G4, B4⟩
        case measure => simp [intOf]; omega
    · obtain rfl : j = n := by omega
      have hr := (rpV_row (Nat.le_refl _) G.out).congr (g := fun t => .int .i64 x) fun t ht => by rw [if_pos ht]
      have HR2 := Lib.hid hr
      clear hr
      go_wp2
      go_ret
      exact ⟨_, rfl, own_of_row (F := fun _ => x) (Nat.le_refl _) (by omega) HR2.out, B.out⟩

end Go.Proofs.Ythopleeehbkjaaa
