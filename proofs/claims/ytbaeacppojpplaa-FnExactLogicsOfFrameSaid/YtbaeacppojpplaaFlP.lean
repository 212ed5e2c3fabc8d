/- Contracts of the program's isWithin, union, common and of slices.Contains at relations. Conditions: those in the theorems. -/
import Derived.Test.YtbaeacppojpplaaFlQ
namespace Go.Proofs.Ytbaeacppojpplaa
open Go.RowKit

set_option maxHeartbeats 400000 in
theorem isWithin_any (xs ys : List Int) (n : Nat) (a a' : Option Addr) (cap cap' : Nat) (w : World) (hl : n ≤ 1048576) (h : At w a n xs) (h' : At w a' n ys) :
    Calls Try.prog 68 #[.slice a n cap, .slice a' n cap'] w fun e w' => e = .returned (.bool (wiB xs ys n)) ∧ w = w' := by
  have H := Lib.hid h
  have H' := Lib.hid h'
  clear h h'
  go_enter Try.func68, Try.ntmps68
  go_wp2
  go_loop [9] (fun i => ∃ k : Nat, k ≤ n ∧ i = .int .i64 k ∧ Hid (allTo (fun i => bits .andNot .i64 (nth xs i) (nth ys i) == 0) k = true)) (fun i => n - (intOf i).toNat)
  case atStart => exact ⟨0, Nat.zero_le _, rfl, Lib.hid rfl⟩
  case round =>
    obtain ⟨k, hk, rfl, A⟩ := hrel
    by_cases hlt : k < n
    · obtain ⟨b, off, rfl, -, hc⟩ := H.out.2.resolve_left (by omega)
      obtain ⟨b', off', rfl, -, hc'⟩ := H'.out.2.resolve_left (by omega)
      have hcx := hc k hlt
      have hcy := hc' k hlt
      clear hc hc'
      cases hv : (bits .andNot .i64 (nth xs k) (nth ys k) != 0)
      · have HV := Lib.hid (show (bits .andNot .i64 (nth xs k) (nth ys k) == 0) = true by simpa using hv)
        go_wp2
        go_round
        case rel => exact ⟨k + 1, hlt, by go_num, Lib.hid (allTo_next A.out HV.out)⟩
        case measure => simp [intOf]; omega
      · have HV := Lib.hid (show wiB xs ys n = false from allTo_false hlt (by simpa using hv))
        go_wp2
        go_ret
        exact ⟨ret_bool HV.out.symm, rfl⟩
    · obtain rfl : k = n := by omega
      go_wp2
      go_ret
      exact ⟨ret_bool A.out.symm, rfl⟩

set_option maxHeartbeats 400000 in
theorem slIndexI_any (xs : List Int) (v : Int) (n : Nat) (a : Option Addr) (cap : Nat) (w : World) (hl : n ≤ 1048576) (h : At w a n xs) :
    Calls Try.prog 86 #[.slice a n cap, .int .i64 v] w fun e w' => Hid (∃ r : Int, e = .returned (.int .i64 r) ∧ -1 ≤ r ∧ decide (0 ≤ r) = !(allTo (fun i => !(v == nth xs i)) n)) ∧ w = w' := by
  have H := Lib.hid h
  clear h
  go_enter Try.func86, Try.ntmps86
  go_wp2
  go_loop [8] (fun i => ∃ k : Nat, k ≤ n ∧ i = .int .i64 k ∧ Hid (allTo (fun i => !(v == nth xs i)) k = true)) (fun i => n - (intOf i).toNat)
  case atStart => exact ⟨0, Nat.zero_le _, rfl, Lib.hid rfl⟩
  case round =>
    obtain ⟨k, hk, rfl, A⟩ := hrel
    by_cases hlt : k < n
    · obtain ⟨b, off, rfl, -, hc⟩ := H.out.2.resolve_left (by omega)
      have hcx := hc k hlt
      clear hc
      cases hv : (v == nth xs k)
      · have HV := Lib.hid (show (!(v == nth xs k)) = true by rw [hv]; rfl)
        go_wp2
        go_round
        case rel => exact ⟨k + 1, hlt, by go_num, Lib.hid (allTo_next A.out HV.out)⟩
        case measure => simp [intOf]; omega
      · have HV := Lib.hid (show allTo (fun i => !(v == nth xs i)) n = false from allTo_false hlt (by rw [hv]; rfl))
        go_wp2
        go_ret
        exact ⟨Lib.hid ⟨(k : Int), rfl, by omega, by rw [HV.out]; simp⟩, rfl⟩
    · obtain rfl : k = n := by omega
      go_wp2
      go_ret
      exact ⟨Lib.hid ⟨-1, rfl, by omega, by rw [A.out]; rfl⟩, rfl⟩

set_option maxHeartbeats 400000 in
theorem slContainsI_any (xs : List Int) (v : Int) (n : Nat) (a : Option Addr) (cap : Nat) (w : World) (hl : n ≤ 1048576) (h : At w a n xs) :
    Calls Try.prog 79 #[.slice a n cap, .int .i64 v] w fun e w' => e = .returned (.bool (!(allTo (fun i => !(v == nth xs i)) n))) ∧ w = w' := by
  have H := Lib.hid h
  clear h
  go_enter Try.func79, Try.ntmps79
  go_wp2_with fail
  refine (slIndexI_any xs v n _ _ _ hl H.out).mono ?_
  rintro e w1 ⟨hh, rfl⟩
  obtain ⟨r, rfl, h1, h2⟩ := hh.out
  have H2 := Lib.hid h2
  clear hh h2
  go_wp2
  go_ret
  exact ⟨ret_bool H2.out, rfl⟩

set_option maxHeartbeats 400000 in
theorem union_any (xs ys : List Int) (n : Nat) (a a' : Option Addr) (cap cap' : Nat) (w : World) (hl : n ≤ 30) (h : At w a n xs) (h' : At w a' n ys) :
    Calls Try.prog 80 #[.slice a n cap, .slice a' n cap'] w fun e w' => ∃ v, e = .returned v ∧ Own w' w.heap.size v (opL .or xs ys n) ∧ Below w.heap.size w w' := by
  obtain ⟨i0, hi, hz0, hz1, hz2⟩ := info_parts info64
  have H := Lib.hid h
  have H' := Lib.hid h'
  clear h h'
  have HL := Lib.hid (opL_len .or xs ys n)
  have HN := Lib.hid (opL_nth .or xs ys n)
  go_enter Try.func80, Try.ntmps80
  go_wp2_with (at_make; refine wpList_make_full _ rfl _ _ 60 rfl w.heap.size 2 i0 (.int .i64 0) 1 Try.underlying60 hi hz0 hz1 _ _ _ _ n rfl rfl rfl rfl ?b2 ?b3 (Nat.le_refl _) ?_)
  case b2 => rw [hz2]; omega
  case b3 => unfold maxLen; omega
  intro w0 hown0 hgrow0
  clear hi hz0 hz1 hz2
  have HO0 := Lib.hid hown0
  clear hown0
  go_wp2
  go_loopw [13] (fun i wr => ∃ k : Nat, k ≤ n ∧ i = .int .i64 k ∧ wr.ownsRow w.heap.size 2 1 (.slice (some ⟨w.heap.size, 0, none⟩) n n) n ((cpl (opL .or xs ys n) n k).map (Value.int .i64)) ∧ Below w.heap.size w wr) (fun i _ => n - (intOf i).toNat)
  case atStart => exact ⟨0, Nat.zero_le _, rfl, by rw [← cpl_zero]; exact HO0.out, (Below.refl _ _).grown hgrow0 (Nat.le_refl _) (fun k h => by cases h)⟩
  case round =>
    obtain ⟨k, hk, rfl, hown, hbel⟩ := hrel
    clear hgrow0
    by_cases hlt : k < n
    · obtain ⟨b, off, rfl, hb, hc⟩ := H.out.2.resolve_left (by omega)
      obtain ⟨b', off', rfl, hb', hc'⟩ := H'.out.2.resolve_left (by omega)
      have hcell : wr.cell? ⟨b, off + k, none⟩ = some (.int .i64 (nth xs k)) := (hbel.cell (p := ⟨b, off + k, none⟩) hb).trans (hc k hlt)
      have hcell' : wr.cell? ⟨b', off' + k, none⟩ = some (.int .i64 (nth ys k)) := (hbel.cell (p := ⟨b', off' + k, none⟩) hb').trans (hc' k hlt)
      obtain ⟨u, hu⟩ : ∃ u, ((cpl (opL .or xs ys n) n k).map (Value.int .i64))[k]? = some u := ⟨_, List.getElem?_eq_getElem (by simp [cpl_len _ n k HL.out.symm hk, hlt])⟩
      have hcg : wr.cell? ⟨w.heap.size, k, none⟩ = some u := (hown.cellAt k (by omega)).trans hu
      have hfg : wr.frozen? ⟨w.heap.size, k, none⟩ = false := hown.frozenAt k
      have hs := (hown.stored k (.int .i64 (nth (opL .or xs ys n) k))).1
      have hbs := hbel.setCell (p := ⟨w.heap.size, k, none⟩) (Nat.le_refl _) (.int .i64 (nth (opL .or xs ys n) k))
      rw [cpl_set _ n k HL.out.symm hlt] at hs
      rw [HN.out k hlt] at hs hbs
      have HS := Lib.hid hs
      have HBS := Lib.hid hbs
      clear hown hu hc hc' hs hbs
      go_wp2
      go_roundw
      case rel => exact ⟨k + 1, hlt, by go_num, HS.out, HBS.out⟩
      case measure => simp [intOf]; omega
    · obtain rfl : k = n := by omega
      have HO := Lib.hid hown
      clear hown
      go_wp2
      go_ret
      exact ⟨_, rfl, (by have ho := HO.out; rw [cpl_all _ k HL.out.symm] at ho; unfold Own; rw [HL.out]; exact ho), hbel⟩

set_option maxHeartbeats 400000 in
theorem common_any (xs ys : List Int) (n : Nat) (a a' : Option Addr) (cap cap' : Nat) (w : World) (hl : n ≤ 30) (h : At w a n xs) (h' : At w a' n ys) :
    Calls Try.prog 82 #[.slice a n cap, .slice a' n cap'] w fun e w' => ∃ v, e = .returned v ∧ Own w' w.heap.size v (opL .and xs ys n) ∧ Below w.heap.size w w' := by
  obtain ⟨i0, hi, hz0, hz1, hz2⟩ := info_parts info64
  have H := Lib.hid h
  have H' := Lib.hid h'
  clear h h'
  have HL := Lib.hid (opL_len .and xs ys n)
  have HN := Lib.hid (opL_nth .and xs ys n)
  go_enter Try.func82, Try.ntmps82
  go_wp2_with (at_make; refine wpList_make_full _ rfl _ _ 60 rfl w.heap.size 2 i0 (.int .i64 0) 1 Try.underlying60 hi hz0 hz1 _ _ _ _ n rfl rfl rfl rfl ?b2 ?b3 (Nat.le_refl _) ?_)
  case b2 => rw [hz2]; omega
  case b3 => unfold maxLen; omega
  intro w0 hown0 hgrow0
  clear hi hz0 hz1 hz2
  have HO0 := Lib.hid hown0
  clear hown0
  go_wp2
  go_loopw [13] (fun i wr => ∃ k : Nat, k ≤ n ∧ i = .int .i64 k ∧ wr.ownsRow w.heap.size 2 1 (.slice (some ⟨w.heap.size, 0, none⟩) n n) n ((cpl (opL .and xs ys n) n k).map (Value.int .i64)) ∧ Below w.heap.size w wr) (fun i _ => n - (intOf i).toNat)
  case atStart => exact ⟨0, Nat.zero_le _, rfl, by rw [← cpl_zero]; exact HO0.out, (Below.refl _ _).grown hgrow0 (Nat.le_refl _) (fun k h => by cases h)⟩
  case round =>
    obtain ⟨k, hk, rfl, hown, hbel⟩ := hrel
    clear hgrow0
    by_cases hlt : k < n
    · obtain ⟨b, off, rfl, hb, hc⟩ := H.out.2.resolve_left (by omega)
      obtain ⟨b', off', rfl, hb', hc'⟩ := H'.out.2.resolve_left (by omega)
      have hcell : wr.cell? ⟨b, off + k, none⟩ = some (.int .i64 (nth xs k)) := (hbel.cell (p := ⟨b, off + k, none⟩) hb).trans (hc k hlt)
      have hcell' : wr.cell? ⟨b', off' + k, none⟩ = some (.int .i64 (nth ys k)) := (hbel.cell (p := ⟨b', off' + k, none⟩) hb').trans (hc' k hlt)
      obtain ⟨u, hu⟩ : ∃ u, ((cpl (opL .and xs ys n) n k).map (Value.int .i64))[k]? = some u := ⟨_, List.getElem?_eq_getElem (by simp [cpl_len _ n k HL.out.symm hk, hlt])⟩
      have hcg : wr.cell? ⟨w.heap.size, k, none⟩ = some u := (hown.cellAt k (by omega)).trans hu
      have hfg : wr.frozen? ⟨w.heap.size, k, none⟩ = false := hown.frozenAt k
      have hs := (hown.stored k (.int .i64 (nth (opL .and xs ys n) k))).1
      have hbs := hbel.setCell (p := ⟨w.heap.size, k, none⟩) (Nat.le_refl _) (.int .i64 (nth (opL .and xs ys n) k))
      rw [cpl_set _ n k HL.out.symm hlt] at hs
      rw [HN.out k hlt] at hs hbs
      have HS := Lib.hid hs
      have HBS := Lib.hid hbs
      clear hown hu hc hc' hs hbs
      go_wp2
      go_roundw
      case rel => exact ⟨k + 1, hlt, by go_num, HS.out, HBS.out⟩
      case measure => simp [intOf]; omega
    · obtain rfl : k = n := by omega
      have HO := Lib.hid hown
      clear hown
      go_wp2
      go_ret
      exact ⟨_, rfl, (by have ho := HO.out; rw [cpl_all _ k HL.out.symm] at ho; unfold Own; rw [HL.out]; exact ho), hbel⟩

end Go.Proofs.Ytbaeacppojpplaa
