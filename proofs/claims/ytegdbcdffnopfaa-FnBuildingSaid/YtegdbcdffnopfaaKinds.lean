/- Contracts of KindCounts of the model and of the program, at every list of nodes. Conditions: those in the theorems. -/
import Derived.Test.YtegdbcdffnopfaaPart
import Derived.Test.YtegdbcdffnopfaaInv
namespace Go.Proofs.Ytegdbcdffnopfaa
open Go.RowKit

/-- How many of the first k nodes have the kind t. -/
def cn (xs : List Nd) : Nat → Nat → Nat
  | 0, _ => 0
  | k + 1, t => if kd xs k = t then cn xs k t + 1 else cn xs k t
theorem cn_le (xs : List Nd) (k t : Nat) : cn xs k t ≤ k := by
  induction k with
  | zero => exact Nat.le_refl _
  | succ k ih => rw [cn]; split <;> omega
theorem cn_set {xs : List Nd} {k q : Nat} (h : kd xs k = q) (t : Nat) : (if t = q then ((cn xs k q : Nat) : Int) + 1 else (cn xs k t : Nat)) = (cn xs (k + 1) t : Nat) := by
  rw [cn]
  by_cases e : t = q
  · subst e; rw [if_pos rfl, if_pos h]; simp
  · rw [if_neg e, if_neg (by rw [h]; omega)]
def knL (xs : List Nd) (k : Nat) : List Int := tab 7 (fun t => ((cn xs k t : Nat) : Int))
theorem kd_bd {xs : List Nd} {len k : Nat} (h : treeTo xs len = true) (hk : k < len) : ∃ q : Nat, kd xs k = q ∧ q < 7 := by
  have := ok_at h hk
  simp only [okN, inB, Bool.and_eq_true, decide_eq_true_eq] at this
  obtain ⟨q, hq⟩ := Int.eq_ofNat_of_zero_le this.1.1.1
  exact ⟨q, hq, by omega⟩
theorem is_tree {xs : List Nd} {len : Nat} (h : isB xs len = true) : treeTo xs len = true ∧ len ≤ 40 := by
  simp only [isB, treeB, Bool.and_eq_true, decide_eq_true_eq] at h
  exact ⟨h.2.1.1, h.1⟩
def knR (xs : List Nd) : List Int := if isB xs xs.length then knL xs xs.length else []
def knC (xs : List Nd) : Int := if isB xs xs.length then 0 else 1
theorem KindCounts_len (xs : List Nd) : (knR xs).length ≤ 1048576 := by
  unfold knR
  split
  · rw [knL, tab_len]; omega
  · exact Nat.zero_le _
theorem kn_bad {xs : List Nd} (h : isB xs xs.length = false) : knR xs = [] ∧ knC xs = 1 := by unfold knR knC; rw [h]; exact ⟨rfl, rfl⟩
theorem kn_good {xs : List Nd} (h : isB xs xs.length = true) : knR xs = knL xs xs.length ∧ knC xs = 0 := by unfold knR knC; rw [h]; exact ⟨rfl, rfl⟩
theorem row_of_own {w : World} {B g n : Nat} {z : Int} (h : w.ownsRow B 2 1 (.slice (some ⟨g, 0, none⟩) n n) n (madeCells #[.int .i64 z] (n * 1)).toList) : w.rowIs g 2 n (fun _ => .int .i64 z) := by
  rcases h.2 with ⟨h', _⟩ | ⟨g', cap', cur, h', hb, hg, hnc, hcm, hcs, htake⟩
  · simp at h'
  · simp only [Value.slice.injEq, Option.some.injEq, Addr.mk.injEq, and_true, true_and] at h'
    obtain ⟨rfl, rfl⟩ := h'
    refine ⟨cur, hg, by omega, fun i hi => ?_⟩
    rw [Nat.mul_one, toList_madeCells_one] at htake
    have h1 : (cur.toList.take n)[i]? = some (.int .i64 z) := by rw [htake]; simp [hi]
    rw [List.getElem?_take, if_pos hi, Array.getElem?_toList] at h1
    exact h1
theorem ownI_nil (w : World) (B : Nat) : Own w B (.slice none 0 0) [] := World.ownsRow_nil w B 2 1

set_option maxHeartbeats 1000000 in
theorem implKindCounts_v (x0 : List Nd) (v : Value) (lo hi : Nat) (w : World) (hl : x0.length ≤ 1048576) (h : InN w lo hi v x0) :
    Calls Try.prog 38 #[v] w fun e w' => ∃ v', e = .returned (.tuple #[v', .int .i64 (knC x0)]) ∧ Own w' w.heap.size v' (knR x0) ∧ Below w.heap.size w w' := by
  obtain ⟨a, cap, rfl, hat⟩ := h.at
  have H := Lib.hid hat
  clear h hat
  cases hb : isB x0 x0.length
  · obtain ⟨e1, e2⟩ := kn_bad hb
    rw [e1, e2]
    have HB := Lib.hid hb
    clear hb e1 e2
    go_enter Try.func38, Try.ntmps38
    go_wp2_with (go_at_call 54; refine (implIsF_any _ _ _ _ _ hl H.out).mono ?_; rw [HB.out]; rintro e w' ⟨rfl, hb⟩)
    go_ret2
    exact ⟨_, rfl, ownI_nil _ _, hb⟩
  · obtain ⟨e1, e2⟩ := kn_good hb
    rw [e1, e2]
    obtain ⟨ht, h40⟩ := is_tree hb
    have HB := Lib.hid hb
    have HT := Lib.hid ht
    clear hb e1 e2 ht
    obtain ⟨len, hlen⟩ : ∃ len, len = x0.length := ⟨_, rfl⟩
    rw [← hlen] at H HB HT hl h40 ⊢
    clear hlen
    obtain ⟨i0, hi, hz0, hz1, hz2⟩ := info_parts info64
    go_enter Try.func38, Try.ntmps38
    go_wp2_with fail
    refine (implIsF_any _ _ _ _ _ hl H.out).mono ?_
    rw [HB.out]
    rintro e w0 ⟨rfl, hb0⟩
    have B0 := Lib.hid hb0
    clear hb0
    go_wp2_with (at_make; refine wpList_make_full _ rfl _ _ 42 rfl w0.heap.size 2 i0 (.int .i64 0) 1 Try.underlying42 hi hz0 hz1 _ _ _ _ 7 rfl rfl rfl rfl ?b2 ?b3 (Nat.le_refl _) ?_)
    case b2 => rw [hz2]; omega
    case b3 => unfold maxLen; omega
    intro wm hown0 hgr0
    have HR0 := Lib.hid (row_of_own hown0)
    have BM := Lib.hid (B0.out.grown hgr0 B0.out.size (fun k h => by cases h))
    clear hown0 hgr0 hi hz0 hz1 hz2
    go_wp2
    go_loopw [13] (fun i wr => ∃ k : Nat, k ≤ len ∧ i = .int .i64 k ∧ wr.rowIs w0.heap.size 2 7 (fun t => .int .i64 ((cn x0 k t : Nat) : Int)) ∧ Below w.heap.size w wr) (fun i _ => len - (intOf i).toNat)
    case atStart => exact ⟨0, Nat.zero_le _, rfl, HR0.out.congr fun t _ => rfl, BM.out⟩
    case round =>
      obtain ⟨k, hk, rfl, hrow, hbel⟩ := hrel
      have RW := Lib.hid hrow
      have BL := Lib.hid hbel
      have BS := B0.out.size
      clear HR0
      by_cases hlt : k < len
      · obtain ⟨b, off, rfl, hb, hc⟩ := H.out.2.resolve_left (by omega)
        obtain ⟨q, hq, hq7⟩ := kd_bd HT.out hlt
        have hc1 : wr.cell? ⟨b, off + k * 2, none⟩ = some (.int .i64 q) := by rw [← hq]; exact (hbel.cell (p := ⟨b, off + k * 2, none⟩) hb).trans (hc k hlt).1
        have hc2 : wr.cell? ⟨b, off + k * 2 + 1, none⟩ = some (.int .i64 (sy x0 k)) := (hbel.cell (p := ⟨b, off + k * 2 + 1, none⟩) hb).trans (hc k hlt).2
        have hra := hrow.alloc (.cells #[.int .i64 (q : Int), .int .i64 (sy x0 k)] 63)
        have hcg := hra.cell hq7
        have hfg := hra.frozen q
        have hcl := cn_le x0 k q
        have RA := Lib.hid hra
        have HQ := Lib.hid hq
        have BA := Lib.hid (hbel.alloc hbel.size (.cells #[.int .i64 (q : Int), .int .i64 (sy x0 k)] 63))
        clear hc hra hq hrow hbel
        go_wp2
        go_roundw
        case rel => exact ⟨k + 1, hlt, by go_num, row_setI RA.out (fun t => cn_set HQ.out t), BA.out.setCell (p := ⟨w0.heap.size, q, none⟩) BS _⟩
        case measure => simp [intOf]; omega
      · obtain rfl : k = len := by omega
        clear hrow hbel
        go_wp2
        go_ret2
        exact ⟨_, rfl, own_of_row BS (by omega) RW.out, BL.out⟩

set_option maxHeartbeats 1000000 in
theorem specKindCounts_v (x0 : List Nd) (v : Value) (lo hi : Nat) (w : World) (hl : x0.length ≤ 1048576) (h : InN w lo hi v x0) :
    Calls Try.prog 37 #[v] w fun e w' => ∃ v', e = .returned (.tuple #[v', .int .i64 (knC x0)]) ∧ Own w' w.heap.size v' (knR x0) ∧ Below w.heap.size w w' := by
  obtain ⟨a, cap, rfl, hat⟩ := h.at
  have H := Lib.hid hat
  clear h hat
  cases hb : isB x0 x0.length
  · obtain ⟨e1, e2⟩ := kn_bad hb
    rw [e1, e2]
    have HB := Lib.hid hb
    clear hb e1 e2
    go_enter Try.func37, Try.ntmps37
    go_wp2_with (go_at_call 51; refine (l02Is_any _ _ _ _ _ hl H.out).mono ?_; rw [HB.out]; rintro e w' ⟨rfl, rfl⟩)
    go_ret2
    exact ⟨_, rfl, ownI_nil _ _, Below.refl _ _⟩
  · obtain ⟨e1, e2⟩ := kn_good hb
    rw [e1, e2]
    obtain ⟨ht, h40⟩ := is_tree hb
    have HB := Lib.hid hb
    have HT := Lib.hid ht
    clear hb e1 e2 ht
    obtain ⟨len, hlen⟩ : ∃ len, len = x0.length := ⟨_, rfl⟩
    rw [← hlen] at H HB HT hl h40 ⊢
    clear hlen
    obtain ⟨i0, hi, hz0, hz1, hz2⟩ := info_parts info64
    go_enter Try.func37, Try.ntmps37
    go_wp2_with fail
    refine (l02Is_any _ _ _ _ _ hl H.out).mono ?_
    rw [HB.out]
    rintro e w' ⟨rfl, rfl⟩
    go_wp2_with (at_make; refine wpList_make_full _ rfl _ _ 42 rfl w.heap.size 2 i0 (.int .i64 0) 1 Try.underlying42 hi hz0 hz1 _ _ _ _ 7 rfl rfl rfl rfl ?b2 ?b3 (Nat.le_refl _) ?_)
    case b2 => rw [hz2]; omega
    case b3 => unfold maxLen; omega
    intro wm hown0 hgr0
    have HR0 := Lib.hid (row_of_own hown0)
    have BM := Lib.hid ((Below.refl _ _).grown hgr0 (Nat.le_refl _) (fun k h => by cases h))
    clear hown0 hgr0 hi hz0 hz1 hz2
    go_wp2
    go_loopw [5] (fun i wr => ∃ k : Nat, k ≤ len ∧ i = .int .i64 k ∧ wr.rowIs w.heap.size 2 7 (fun t => .int .i64 ((cn x0 k t : Nat) : Int)) ∧ Below w.heap.size w wr) (fun i _ => len - (intOf i).toNat)
    case atStart => exact ⟨0, Nat.zero_le _, rfl, HR0.out.congr fun t _ => rfl, BM.out⟩
    case round =>
      obtain ⟨k, hk, rfl, hrow, hbel⟩ := hrel
      have RW := Lib.hid hrow
      have BL := Lib.hid hbel
      clear HR0
      by_cases hlt : k < len
      · obtain ⟨b, off, rfl, hb, hc⟩ := H.out.2.resolve_left (by omega)
        obtain ⟨q, hq, hq7⟩ := kd_bd HT.out hlt
        have hc1 : wr.cell? ⟨b, off + k * 2, none⟩ = some (.int .i64 q) := by rw [← hq]; exact (hbel.cell (p := ⟨b, off + k * 2, none⟩) hb).trans (hc k hlt).1
        have hcg : wr.cell? ⟨w.heap.size, q, none⟩ = some (.int .i64 ((cn x0 k q : Nat) : Int)) := hrow.cell hq7
        have hfg : wr.frozen? ⟨w.heap.size, q, none⟩ = false := hrow.frozen q
        have hcl := cn_le x0 k q
        have HQ := Lib.hid hq
        clear hc hq hrow hbel
        go_wp2
        go_region
        all_goals
          go_wp2
          go_roundw
          case rel => exact ⟨k + 1, hlt, by go_num, row_setI RW.out.drew (fun t => cn_set HQ.out t), BL.out.drew.setCell (p := ⟨w.heap.size, q, none⟩) (Nat.le_refl _) _⟩
          case measure => simp [intOf]; omega
      · obtain rfl : k = len := by omega
        clear hrow hbel
        go_wp2
        go_ret2
        exact ⟨_, rfl, own_of_row (Nat.le_refl _) (by omega) RW.out, BL.out⟩

end Go.Proofs.Ytegdbcdffnopfaa
