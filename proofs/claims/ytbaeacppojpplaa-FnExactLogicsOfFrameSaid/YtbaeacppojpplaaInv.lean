/- Contracts of the functions of chapter 1 behind InverseRelation. Conditions: those in the theorems. -/
import Derived.RegionTactic
import Derived.ChangeAlike
import Derived.BigRegion
import Derived.Deep.RegionWith
import Derived.Test.YtbaeacppojpplaaRefl
namespace Go.Proofs.Ytbaeacppojpplaa
open Go.RowKit

/-- The list of a function's first n values. -/
def tab (n : Nat) (F : Nat → Int) : List Int := (List.range n).map F
theorem tab_len (n : Nat) (F : Nat → Int) : (tab n F).length = n := by simp [tab]
theorem tab_nth (n : Nat) (F : Nat → Int) (t : Nat) (h : t < n) : nth (tab n F) t = F t := by simp [nth, tab, List.getD, h]

/-- A row that the call made, told cell by cell, is owned as a list. -/
theorem own_of_row {w : World} {B g n : Nat} {F : Nat → Int} (hB : B ≤ g) (hn : n ≤ 1099511627776) (h : w.rowIs g 2 n (fun t => .int .i64 (F t))) : Own w B (.slice (some ⟨g, 0, none⟩) n n) (tab n F) := by
  obtain ⟨c, hb, hs, hc⟩ := h
  unfold Own
  rw [tab_len]
  refine ⟨by simp [tab], .inr ⟨g, n, c, rfl, hB, hb, Nat.le_refl _, by unfold maxLen; omega, by omega, ?_⟩⟩
  apply List.ext_getElem?
  intro j
  by_cases hj : j < n
  · rw [List.getElem?_take, if_pos (by omega), Array.getElem?_toList, hc j hj]
    simp [tab, hj]
  · rw [List.getElem?_eq_none (by simp; omega), List.getElem?_eq_none (by simp [tab]; omega)]

def ivTo (xs : List Int) (t : Nat) : Nat → Int
  | 0 => 0
  | k + 1 => if bitB (nth xs k) t then bits .or .i64 (ivTo xs t k) (one k) else ivTo xs t k

def ivMid (xs : List Int) (k j t : Nat) : Int := if t < j then ivTo xs t (k + 1) else ivTo xs t k
theorem ivMid_zero (xs : List Int) (k t : Nat) : ivMid xs k 0 t = ivTo xs t k := by simp [ivMid]
theorem ivMid_at (xs : List Int) (k j : Nat) : ivMid xs k j j = ivTo xs j k := by simp [ivMid]
theorem ivMid_no {xs : List Int} {k j : Nat} (h : bitB (nth xs k) j = false) (t : Nat) : ivMid xs k j t = ivMid xs k (j + 1) t := by
  unfold ivMid
  by_cases e : t = j
  · subst e; rw [if_neg (by omega), if_pos (by omega), ivTo, h]; rfl
  · by_cases h2 : t < j
    · rw [if_pos h2, if_pos (by omega)]
    · rw [if_neg h2, if_neg (by omega)]
theorem ivMid_yes {xs : List Int} {k j : Nat} (h : bitB (nth xs k) j = true) (t : Nat) : (if t = j then bits .or .i64 (ivTo xs j k) (one k) else ivMid xs k j t) = ivMid xs k (j + 1) t := by
  unfold ivMid
  by_cases e : t = j
  · subst e; rw [if_pos rfl, if_pos (by omega), ivTo, h]; rfl
  · rw [if_neg e]
    by_cases h2 : t < j
    · rw [if_pos h2, if_pos (by omega)]
    · rw [if_neg h2, if_neg (by omega)]
theorem ivMid_all {xs : List Int} {k len t : Nat} (h : t < len) : ivMid xs k len t = ivTo xs t (k + 1) := by simp [ivMid, h]
theorem row_setI {w : World} {g n j : Nat} {F G : Nat → Int} {z : Int} (h : w.rowIs g 2 n (fun t => .int .i64 (F t))) (e : ∀ t, (if t = j then z else F t) = G t) : (w.setCell ⟨g, j, none⟩ (.int .i64 z)).rowIs g 2 n (fun t => .int .i64 (G t)) :=
  (h.set j (.int .i64 z)).congr fun t _ => by rw [← e t]; by_cases h : t = j <;> simp [h]

set_option maxHeartbeats 1000000 in
theorem inverseOf_any (xs : List Int) (a : Option Addr) (len cap n : Nat) (w : World) (hl : len ≤ 30) (hn : n ≤ 30) (h : At w a len xs) :
    Calls Try.prog 84 #[.slice a len cap, .int .i64 n] w fun e w' => ∃ v, e = .returned v ∧ Own w' w.heap.size v (tab n (fun t => ivTo xs t len)) ∧ Below w.heap.size w w' := by
  have hmk := fun (W : World) => run_make_row' (P := Try.prog) 25 2 (.int .i64 0) 8 Try.underlying25 info64 rfl .i64 .i64 n (by omega) (by omega) W
  have H := Lib.hid h
  clear h
  have hr0 := World.rowIs_made w (.int .i64 0) n 2
  have HR0 := Lib.hid hr0
  clear hr0
  go_enter Try.func84, Try.ntmps84
  go_wp2
  clear hmk
  go_loopw [13] (fun i wr => ∃ k : Nat, k ≤ len ∧ i = .int .i64 k ∧ wr.rowIs w.heap.size 2 n (fun t => .int .i64 (ivTo xs t k)) ∧ Below w.heap.size w wr) (fun i _ => len - (intOf i).toNat)
  case atStart => exact ⟨0, Nat.zero_le _, rfl, HR0.out, (Below.refl _ _).alloc (Nat.le_refl _) _⟩
  case round =>
    obtain ⟨k, hk, rfl, hrow, hbel⟩ := hrel
    have HROW := Lib.hid hrow
    clear hrow
    by_cases hlt : k < len
    · obtain ⟨b, off, rfl, hb, hc⟩ := H.out.2.resolve_left (by omega)
      have hcell : wr.cell? ⟨b, off + k, none⟩ = some (.int .i64 (nth xs k)) := (hbel.cell (p := ⟨b, off + k, none⟩) hb).trans (hc k hlt)
      clear hc
      obtain ⟨wo, rfl⟩ : ∃ wo : World, wo = wr := ⟨_, rfl⟩
      go_wp2
      go_loopw [20] (fun i wr => ∃ j : Nat, j ≤ n ∧ i = .int .i64 j ∧ wr.rowIs w.heap.size 2 n (fun t => .int .i64 (ivMid xs k j t)) ∧ Below w.heap.size w wr) (fun i _ => n - (intOf i).toNat)
      case atStart => exact ⟨0, Nat.zero_le _, rfl, HROW.out.congr fun t _ => by rw [ivMid_zero], hbel⟩
      case round =>
        obtain ⟨j, hj, rfl, hrow2, hbel2⟩ := hrel
        clear hcell
        by_cases hjl : j < n
        · have hcg : wr.cell? ⟨w.heap.size, j, none⟩ = some (.int .i64 (ivMid xs k j j)) := hrow2.cell hjl
          have hfg : wr.frozen? ⟨w.heap.size, j, none⟩ = false := hrow2.frozen j
          rw [ivMid_at] at hcg
          have HROW2 := Lib.hid hrow2
          clear hrow2
          cases hbit : bitB (nth xs k) j
          · have HB := Lib.hid hbit
            go_wp2_with (go_at_call 64; refine (hasMember_any _ _ _ (by omega) (by omega)).mono ?_; rintro e w' ⟨rfl, rfl⟩)
            go_roundw
            case rel => exact ⟨j + 1, hjl, by go_num, HROW2.out.congr fun t _ => by rw [ivMid_no HB.out], hbel2⟩
            case measure => simp [intOf]; omega
          · have HB := Lib.hid hbit
            go_wp2_with (go_at_call 64; refine (hasMember_any _ _ _ (by omega) (by omega)).mono ?_; rintro e w' ⟨rfl, rfl⟩)
            go_region
            all_goals
              go_wp2
              go_roundw
              case rel => exact ⟨j + 1, hjl, by go_num, row_setI HROW2.out.drew (fun t => ivMid_yes HB.out t), (hbel2.drew).setCell (p := ⟨w.heap.size, j, none⟩) (Nat.le_refl _) _⟩
              case measure => simp [intOf]; omega
        · obtain rfl : j = n := by omega
          have HROW2 := Lib.hid hrow2
          clear hrow2
          go_wp2
          go_roundw
          case rel => exact ⟨k + 1, hlt, by go_num, HROW2.out.congr fun t ht => by rw [ivMid_all ht], hbel2⟩
          case measure => simp [intOf]; omega
    · obtain rfl : k = len := by omega
      go_wp2
      go_ret
      exact ⟨_, rfl, own_of_row (Nat.le_refl _) (by omega) HROW.out, hbel⟩

set_option maxHeartbeats 400000 in
theorem inverse_any (xs : List Int) (a : Option Addr) (len cap : Nat) (w : World) (hl : len ≤ 30) (h : At w a len xs) :
    Calls Try.prog 77 #[.slice a len cap] w fun e w' => ∃ v, e = .returned v ∧ Own w' w.heap.size v (tab len (fun t => ivTo xs t len)) ∧ Below w.heap.size w w' := by
  have H := Lib.hid h
  clear h
  go_enter Try.func77, Try.ntmps77
  go_wp2_with fail
  refine (inverseOf_any xs _ _ _ len _ hl hl H.out).mono ?_
  rintro e w1 ⟨v, rfl, ho, hb⟩
  have O := Lib.hid ho
  clear ho
  go_wp2
  go_ret
  exact ⟨_, rfl, O.out, hb⟩

def ivS (xs : List Int) (len i j t : Nat) : Int := if t < i then ivTo xs t len else if t = i then ivTo xs i j else 0
theorem ivS_at (xs : List Int) (len i j : Nat) : ivS xs len i j i = ivTo xs i j := by simp [ivS]
theorem ivS_start (xs : List Int) (len t : Nat) : ivS xs len 0 0 t = 0 := by
  unfold ivS; rw [if_neg (by omega)]; split <;> rfl
theorem ivS_next (xs : List Int) (len i t : Nat) : ivS xs len i len t = ivS xs len (i + 1) 0 t := by
  unfold ivS
  by_cases h : t < i
  · rw [if_pos h, if_pos (by omega)]
  · by_cases e : t = i
    · subst e; rw [if_neg h, if_pos rfl, if_pos (by omega)]
    · rw [if_neg h, if_neg e, if_neg (by omega)]; split <;> rfl
theorem ivS_all {xs : List Int} {len t : Nat} (h : t < len) : ivS xs len len 0 t = ivTo xs t len := by unfold ivS; rw [if_pos h]
theorem ivS_no {xs : List Int} {len i j : Nat} (h : bitB (nth xs j) i = false) (t : Nat) : ivS xs len i j t = ivS xs len i (j + 1) t := by
  unfold ivS
  by_cases h2 : t < i
  · rw [if_pos h2, if_pos h2]
  · by_cases e : t = i
    · subst e; rw [if_neg h2, if_pos rfl, if_neg h2, if_pos rfl, ivTo, h]; rfl
    · rw [if_neg h2, if_neg e, if_neg h2, if_neg e]
theorem ivS_yes {xs : List Int} {len i j : Nat} (h : bitB (nth xs j) i = true) (t : Nat) : (if t = i then bits .or .i64 (ivTo xs i j) (one j) else ivS xs len i j t) = ivS xs len i (j + 1) t := by
  by_cases e : t = i
  · subst e; rw [if_pos rfl, ivS_at, ivTo, h]; rfl
  · rw [if_neg e]
    unfold ivS
    rw [if_neg e, if_neg e]

set_option maxHeartbeats 1000000 in
theorem l01Inverse_any (xs : List Int) (a : Option Addr) (len cap : Nat) (w : World) (hl : len ≤ 30) (h : At w a len xs) :
    Calls Try.prog 75 #[.slice a len cap] w fun e w' => ∃ v, e = .returned v ∧ Own w' w.heap.size v (tab len (fun t => ivTo xs t len)) ∧ Below w.heap.size w w' := by
  have hmk := fun (W : World) => run_make_row' (P := Try.prog) 25 2 (.int .i64 0) 8 Try.underlying25 info64 rfl .i64 .i64 len (by omega) (by omega) W
  have H := Lib.hid h
  clear h
  have hr0 := World.rowIs_made w (.int .i64 0) len 2
  have HR0 := Lib.hid hr0
  clear hr0
  go_enter Try.func75, Try.ntmps75
  go_wp2
  clear hmk
  go_loopw [4] (fun i wr => ∃ k : Nat, k ≤ len ∧ i = .int .i64 k ∧ wr.rowIs w.heap.size 2 len (fun t => .int .i64 (ivS xs len k 0 t)) ∧ Below w.heap.size w wr) (fun i _ => len - (intOf i).toNat)
  case atStart => exact ⟨0, Nat.zero_le _, rfl, HR0.out.congr fun t _ => by rw [ivS_start], (Below.refl _ _).alloc (Nat.le_refl _) _⟩
  case round =>
    obtain ⟨k, hk, rfl, hrow, hbel⟩ := hrel
    have HROW := Lib.hid hrow
    clear hrow
    by_cases hlt : k < len
    · obtain ⟨b, off, rfl, hb, hc⟩ := H.out.2.resolve_left (by omega)
      have HC := Lib.hid hc
      clear hc
      obtain ⟨wo, rfl⟩ : ∃ wo : World, wo = wr := ⟨_, rfl⟩
      go_wp2
      go_loopw [5] (fun i wr => ∃ j : Nat, j ≤ len ∧ i = .int .i64 j ∧ wr.rowIs w.heap.size 2 len (fun t => .int .i64 (ivS xs len k j t)) ∧ Below w.heap.size w wr) (fun i _ => len - (intOf i).toNat)
      case atStart => exact ⟨0, Nat.zero_le _, rfl, HROW.out, hbel⟩
      case round =>
        obtain ⟨j, hj, rfl, hrow2, hbel2⟩ := hrel
        by_cases hjl : j < len
        · have hcell : wr.cell? ⟨b, off + j, none⟩ = some (.int .i64 (nth xs j)) := (hbel2.cell (p := ⟨b, off + j, none⟩) hb).trans (HC.out j hjl)
          have hcg : wr.cell? ⟨w.heap.size, k, none⟩ = some (.int .i64 (ivS xs len k j k)) := hrow2.cell hlt
          have hfg : wr.frozen? ⟨w.heap.size, k, none⟩ = false := hrow2.frozen k
          rw [ivS_at] at hcg
          have HROW2 := Lib.hid hrow2
          clear hrow2
          cases hbit : bitB (nth xs j) k
          · have HB := Lib.hid hbit
            go_wp2_with (go_at_call 71; refine (l01Bit_any _ _ _ (by omega) (by omega)).mono ?_; rintro e w' ⟨rfl, rfl⟩)
            go_roundw
            case rel => exact ⟨j + 1, hjl, by go_num, HROW2.out.congr fun t _ => by rw [ivS_no HB.out], hbel2⟩
            case measure => simp [intOf]; omega
          · have HB := Lib.hid hbit
            go_wp2_with (go_at_call 71; refine (l01Bit_any _ _ _ (by omega) (by omega)).mono ?_; rintro e w' ⟨rfl, rfl⟩)
            go_region_with (go_at_call 59; refine (l01One_any _ _ (by omega) (by omega)).mono ?_; rintro e w' ⟨rfl, rfl⟩)
            all_goals
              go_wp2
              go_roundw
              case rel => exact ⟨j + 1, hjl, by go_num, row_setI HROW2.out.drew (fun t => ivS_yes HB.out t), (hbel2.drew).setCell (p := ⟨w.heap.size, k, none⟩) (Nat.le_refl _) _⟩
              case measure => simp [intOf]; omega
        · obtain rfl : j = len := by omega
          have HROW2 := Lib.hid hrow2
          clear hrow2
          go_wp2
          go_roundw
          case rel => exact ⟨k + 1, hlt, by go_num, HROW2.out.congr fun t ht => by rw [ivS_next], hbel2⟩
          case measure => simp [intOf]; omega
    · obtain rfl : k = len := by omega
      go_wp2
      go_ret
      exact ⟨_, rfl, own_of_row (Nat.le_refl _) (by omega) (HROW.out.congr fun t ht => by rw [ivS_all ht]), hbel⟩

end Go.Proofs.Ytbaeacppojpplaa
