/- Contracts of the program's isWithin, union, common and of slices.Contains at relations. Conditions: those in the theorems. -/
import Derived.Test.YtckilaeolkgnkaaFlQ
namespace Go.Proofs.Ytckilaeolkgnkaa
open Go.RowKit

set_option maxHeartbeats 400000 in
theorem common_any (xs ys : List Int) (n : Nat) (a a' : Option Addr) (cap cap' : Nat) (w : World) (hl : n ≤ 30) (h : At w a n xs) (h' : At w a' n ys) :
    Calls Try.prog 69 #[.slice a n cap, .slice a' n cap'] w fun e w' => ∃ v, e = .returned v ∧ Own w' w.heap.size v (opL .and xs ys n) ∧ Below w.heap.size w w' := by
  obtain ⟨i0, hi, hz0, hz1, hz2⟩ := info_parts info64
  have H := Lib.hid h
  have H' := Lib.hid h'
  clear h h'
  have HL := Lib.hid (opL_len .and xs ys n)
  have HN := Lib.hid (opL_nth .and xs ys n)
  go_enter Try.func69, Try.ntmps69
  go_wp2_with (at_make; refine wpList_make_full _ rfl _ _ 62 rfl w.heap.size 2 i0 (.int .i64 0) 1 Try.underlying62 hi hz0 hz1 _ _ _ _ n rfl rfl rfl rfl ?b2 ?b3 (Nat.le_refl _) ?_)
  case b2 => rw [hz2]; omega
  case b3 => unfold maxLen; omega
  intro w0 hown0 hgrow0
  clear hi hz0 hz1 hz2
  have HO0 := Lib.hid hown0
  clear hown0
  go_wp2
  go_loopw [13] (fun i wr => ∃ k : Nat, k ≤ n ∧ i = .int .i64 k ∧ wr.ownsRow w.heap.size 2 1 (.slice (some ⟨w.heap.size, 0, none⟩) n n) n ((cpl (opL .and xs ys n) n k).map (Value.int .i64)) ∧ Below w.heap.size w wr) (fun i _ => n - (intOf i).toNat)
  case atStart => exact ⟨0, Nat.zero_le _, rfl, by rw [← cpl_zero]; exact HO0.out, (Below.refl _ _).grown hgrow0 (Nat.le_refl _) (fun k h => by cases h)⟩
  case round =>
    obtain ⟨k, hk, rfl, hown, hbel⟩ := hrel
    clear hgrow0
    by_cases hlt : k < n
    · obtain ⟨b, off, rfl, hb, hc⟩ := H.out.2.resolve_left (by omega)
      obtain ⟨b', off', rfl, hb', hc'⟩ := H'.out.2.resolve_left (by omega)
      have hcell : wr.cell? ⟨b, off + k, none⟩ = some (.int .i64 (nth xs k)) := (hbel.cell (p := ⟨b, off + k, none⟩) hb).trans (hc k hlt)
      have hcell' : wr.cell? ⟨b', off' + k, none⟩ = some (.int .i64 (nth ys k)) := (hbel.cell (p := ⟨b', off' + k, none⟩) hb').trans (hc' k hlt)
      obtain ⟨u, hu⟩ : ∃ u, ((cpl (opL .and xs ys n) n k).map (Value.int .i64))[k]? = some u := ⟨_, List.getElem?_eq_getElem (by simp [cpl_len _ n k HL.out.symm hk, hlt])⟩
      have hcg : wr.cell? ⟨w.heap.size, k, none⟩ = some u := (hown.cellAt k (by omega)).trans hu
      have hfg : wr.frozen? ⟨w.heap.size, k, none⟩ = false := hown.frozenAt k
      have hs := (hown.stored k (.int .i64 (nth (opL .and xs ys n) k))).1
      have hbs := hbel.setCell (p := ⟨w.heap.size, k, none⟩) (Nat.le_refl _) (.int .i64 (nth (opL .and xs ys n) k))
      rw [cpl_set _ n k HL.out.symm hlt] at hs
      rw [HN.out k hlt] at hs hbs
      have HS := Lib.hid hs
      have HBS := Lib.hid hbs
      clear hown hu hc hc' hs hbs
      go_wp2
      go_roundw
      case rel => exact ⟨k + 1, hlt, by go_num, HS.out, HBS.out⟩
      case measure => simp [intOf]; omega
    · obtain rfl : k = n := by omega
      have HO := Lib.hid hown
      clear hown
      go_wp2
      go_ret
      exact ⟨_, rfl, (by have ho := HO.out; rw [cpl_all _ k HL.out.symm] at ho; unfold Own; rw [HL.out]; exact ho), hbel⟩

end Go.Proofs.Ytckilaeolkgnkaa
