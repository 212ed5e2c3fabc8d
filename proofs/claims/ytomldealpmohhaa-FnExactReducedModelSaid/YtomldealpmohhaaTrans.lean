/- Contracts of the functions of chapter 1 behind TransitiveClosure. Conditions: those in the theorems. -/
import Derived.Laws.CopyOwn
import Derived.Laws.AppendOwnNone
import Derived.Test.YtomldealpmohhaaJn04
namespace Go.Proofs.Ytomldealpmohhaa
open Go.RowKit

/-- One step of the closure at via k, row i. -/
def tcStep (F : Nat → Int) (k i : Nat) : Nat → Int := fun t => if t = i then (if bitB (F i) k then bits .or .i64 (F i) (F k) else F i) else F t
def tcIn (F : Nat → Int) (k : Nat) : Nat → Nat → Int
  | 0 => F
  | i + 1 => tcStep (tcIn F k i) k i
def tcTo (xs : List Int) (len : Nat) : Nat → Nat → Int
  | 0 => nth xs
  | k + 1 => tcIn (tcTo xs len k) k len

theorem tcStep_no {F : Nat → Int} {k i : Nat} (h : bitB (F i) k = false) (t : Nat) : tcStep F k i t = F t := by
  unfold tcStep; by_cases e : t = i
  · subst e; rw [if_pos rfl, h]; rfl
  · rw [if_neg e]
theorem tcStep_yes {F : Nat → Int} {k i : Nat} (h : bitB (F i) k = true) (t : Nat) : (if t = i then bits .or .i64 (F i) (F k) else F t) = tcStep F k i t := by
  unfold tcStep; by_cases e : t = i
  · subst e; rw [if_pos rfl, if_pos rfl, h]; rfl
  · rw [if_neg e, if_neg e]

theorem tab_self (xs : List Int) : tab xs.length (nth xs) = xs := by
  apply List.ext_getElem?
  intro j
  by_cases hj : j < xs.length
  · simp [tab, nth, List.getD, hj]
  · rw [List.getElem?_eq_none (by rw [tab_len]; omega), List.getElem?_eq_none (by omega)]
theorem tab_get {n j : Nat} {F : Nat → Int} (h : j < n) : ((tab n F).map (Value.int .i64))[j]? = some (.int .i64 (F j)) := by simp [tab, h]
theorem tab_congr {n : Nat} {F G : Nat → Int} (h : ∀ t, t < n → F t = G t) : tab n F = tab n G := by
  unfold tab
  apply List.map_congr_left
  intro t ht
  exact h t (by simpa using ht)
theorem tab_set {n j : Nat} {F G : Nat → Int} {z : Int} (e : ∀ t, (if t = j then z else F t) = G t) : ((tab n F).map (Value.int .i64)).set j (.int .i64 z) = (tab n G).map (Value.int .i64) := by
  apply List.ext_getElem?
  intro t
  by_cases ht : t < n
  · rw [tab_get ht, ← e t]
    by_cases h : t = j
    · subst h; rw [List.getElem?_set_self (by simp [tab, ht])]; simp
    · rw [List.getElem?_set_ne (by omega), tab_get ht, if_neg h]
  · rw [List.getElem?_eq_none (by simp [tab]; omega), List.getElem?_eq_none (by simp [tab]; omega)]
theorem own_of_heap {w : World} {B g n : Nat} {zs : List Value} (hB : B ≤ g) (hn : zs.length = n) (hm : n ≤ 1099511627776) (h : w.heap[g]? = some (.cells zs.toArray 2 (0, 0))) : w.ownsRow B 2 1 (.slice (some ⟨g, 0, none⟩) n n) n zs := by
  subst hn
  exact ⟨by simp, .inr ⟨g, zs.length, zs.toArray, rfl, hB, h, Nat.le_refl _, by unfold maxLen; omega, by simp, by simp⟩⟩
theorem size64 : (Try.prog.info? 2).map (·.size) = some 1 := by kernel_rfl

set_option maxHeartbeats 1000000 in
theorem transitive_any (xs : List Int) (a : Option Addr) (len cap : Nat) (w : World) (hl : len ≤ 30) (h : At w a len xs) :
    Calls Try.prog 106 #[.slice a len cap] w fun e w' => ∃ v, e = .returned v ∧ Own w' w.heap.size v (tab len (tcTo xs len len)) ∧ Below w.heap.size w w' := by
  have hmk := fun (W : World) => run_make_row' (P := Try.prog) 87 2 (.int .i64 0) 8 Try.underlying87 info64 rfl .i64 .i64 len (by omega) (by omega) W
  have H := Lib.hid h
  clear h
  have hg0 : (w.alloc (.cells (madeCells #[.int .i64 0] len) 2)).heap[w.heap.size]? = some (.cells (List.replicate len (Value.int .i64 0)).toArray 2 (0, 0)) := by
    rw [← toList_madeCells_one]; exact heap_alloc_new w _
  have HG0 := Lib.hid hg0
  clear hg0
  obtain ⟨cs, hcs⟩ : ∃ cs, cs = xs.map (Value.int .i64) := ⟨_, rfl⟩
  have hcl : cs.length = len := by rw [hcs, List.length_map]; exact H.out.1.symm
  have hc1 : ∀ v ∈ cs, v.oneCell' = true := by rw [hcs]; exact ints_oneCell _ _
  have hpos : 0 < cs.length → (some (⟨w.heap.size, 0, none⟩ : Addr)) = some ⟨w.heap.size, 0, none⟩ ∧ ∃ ad, a = some ad ∧ ∀ j v, cs[j]? = some v → (w.alloc (.cells (madeCells #[.int .i64 0] len) 2)).cell? (ad.add j) = some v := by
    intro hp
    obtain ⟨b, off, rfl, hb, hc⟩ := H.out.2.resolve_left (by omega)
    refine ⟨rfl, _, rfl, fun j v hj => ?_⟩
    have hjl : j < xs.length := by
      rw [hcs] at hj
      have := (List.getElem?_eq_some_iff.1 hj).1
      simpa using this
    rw [hcs, nth_map hjl] at hj
    have e2 : (⟨b, off, none⟩ : Addr).add j = ⟨b, off + j, none⟩ := by unfold Addr.add; split <;> simp_all
    rw [e2, World.cell?_alloc_past _ _ _ hb, hc j (by have := H.out.1; omega), ← hj]
  have HCL := Lib.hid hcl
  have HCS := Lib.hid hcs
  have HC1 := Lib.hid hc1
  have HPOS := Lib.hid hpos
  clear hcl hcs hc1 hpos
  go_enter Try.func106, Try.ntmps106
  go_wp2_with (with_reducible refine wpList_copy_splice rfl (.tmp 9) (.tmp 10) 87 87 rfl 2 Try.underlying87 size64 _ _ _ _ _ _ rfl rfl w.heap.size 0 (List.replicate len (Value.int .i64 0)) 2 HG0.out cs ?b1 HPOS.out ?b2 HC1.out w.heap.size w ((Below.refl _ _).alloc (Nat.le_refl _) _) (Nat.le_refl _) ?_)
  case b1 => rw [HCL.out]
  case b2 => rw [HCL.out]; simp
  intro w1 HG1 hB1
  clear hmk
  have HO1 : Hid (w1.ownsRow w.heap.size 2 1 (.slice (some ⟨w.heap.size, 0, none⟩) len len) len ((tab len (tcTo xs len 0)).map (Value.int .i64))) := by
    have e : splice (List.replicate len (Value.int .i64 0)) 0 cs = (tab len (tcTo xs len 0)).map (Value.int .i64) := by
      have e1 : tab len (tcTo xs len 0) = xs := by have := H.out.1; subst this; exact tab_self xs
      rw [e1, ← HCS.out]
      simp [splice, HCL.out]
    have g1 := HG1.out
    rw [e] at g1
    exact own_of_heap (Nat.le_refl _) (by simp [tab]) (by omega) g1
  go_wp2
  go_loopw [14] (fun i wr => ∃ k : Nat, k ≤ len ∧ i = .int .i64 k ∧ wr.ownsRow w.heap.size 2 1 (.slice (some ⟨w.heap.size, 0, none⟩) len len) len ((tab len (tcTo xs len k)).map (Value.int .i64)) ∧ Below w.heap.size w wr) (fun i _ => len - (intOf i).toNat)
  case atStart => exact ⟨0, Nat.zero_le _, rfl, HO1.out, hB1⟩
  case round =>
    obtain ⟨k, hk, rfl, hown, hbel⟩ := hrel
    have HO := Lib.hid hown
    clear hown
    by_cases hlt : k < len
    · obtain ⟨wo, rfl⟩ : ∃ wo : World, wo = wr := ⟨_, rfl⟩
      go_wp2
      go_loopw [19] (fun i wr => ∃ j : Nat, j ≤ len ∧ i = .int .i64 j ∧ wr.ownsRow w.heap.size 2 1 (.slice (some ⟨w.heap.size, 0, none⟩) len len) len ((tab len (tcIn (tcTo xs len k) k j)).map (Value.int .i64)) ∧ Below w.heap.size w wr) (fun i _ => len - (intOf i).toNat)
      case atStart => exact ⟨0, Nat.zero_le _, rfl, HO.out, hbel⟩
      case round =>
        obtain ⟨j, hj, rfl, hown2, hbel2⟩ := hrel
        by_cases hjl : j < len
        · obtain ⟨F, hF⟩ : ∃ F, F = tcIn (tcTo xs len k) k j := ⟨_, rfl⟩
          have hF2 : tcIn (tcTo xs len k) k (j + 1) = tcStep F k j := by rw [hF]; rfl
          have HF2 := Lib.hid hF2
          rw [← hF] at hown2
          clear hF2 hF
          have hcj : wr.cell? ⟨w.heap.size, j, none⟩ = some (.int .i64 (F j)) := (hown2.cellAt j (by omega)).trans (tab_get hjl)
          have hck : wr.cell? ⟨w.heap.size, k, none⟩ = some (.int .i64 (F k)) := (hown2.cellAt k (by omega)).trans (tab_get hlt)
          have hfj : wr.frozen? ⟨w.heap.size, j, none⟩ = false := hown2.frozenAt j
          have HO2 := Lib.hid hown2
          clear hown2
          cases hbit : bitB (F j) k
          · have HB := Lib.hid hbit
            go_wp2_with (go_at_call 54; refine (hasMember_any _ _ _ (by omega) (by omega)).mono ?_; rintro e w' ⟨rfl, rfl⟩)
            go_roundw
            case rel => exact ⟨j + 1, hjl, by go_num, by rw [HF2.out, show tcStep F k j = F from funext (tcStep_no HB.out)]; exact HO2.out, hbel2⟩
            case measure => simp [intOf]; omega
          · have HB := Lib.hid hbit
            go_wp2_with (go_at_call 54; refine (hasMember_any _ _ _ (by omega) (by omega)).mono ?_; rintro e w' ⟨rfl, rfl⟩)
            go_region
            all_goals
              go_wp2
              go_roundw
              case rel => exact ⟨j + 1, hjl, by go_num, by rw [HF2.out, ← tab_set (tcStep_yes HB.out)]; exact (HO2.out.drew.stored j _).1, (hbel2.drew).setCell (p := ⟨w.heap.size, j, none⟩) (Nat.le_refl _) _⟩
              case measure => simp [intOf]; omega
        · obtain rfl : j = len := by omega
          have HO2 := Lib.hid hown2
          clear hown2
          go_wp2
          go_roundw
          case rel => exact ⟨k + 1, hlt, by go_num, HO2.out, hbel2⟩
          case measure => simp [intOf]; omega
    · obtain rfl : k = len := by omega
      go_wp2
      go_ret
      exact ⟨_, rfl, by unfold Own; rw [tab_len]; exact HO.out, hbel⟩

theorem owned_some {w : World} {B : Nat} {v : Value} {n : Nat} {zs : List Value} (h : w.ownsRow B 2 1 v n zs) (hv : v ≠ .slice none 0 0) : ∃ g cap, v = .slice (some ⟨g, 0, none⟩) n cap ∧ B ≤ g := by
  rcases h.2 with ⟨h1, _⟩ | ⟨g, cap, cur, h1, h2, _⟩
  · exact absurd h1 hv
  · exact ⟨g, cap, h1, h2⟩

set_option maxHeartbeats 400000 in
/-- A copy of a list, by append to an empty one. -/
theorem l01Own_any (xs : List Int) (a : Option Addr) (len cap : Nat) (w : World) (hl : len ≤ 1048576) (h : At w a len xs) (hn : a = none → cap = 0) :
    Calls Try.prog 124 #[.slice a len cap] w fun e w' => ∃ g cap', e = .returned (.slice (some ⟨g, 0, none⟩) len cap') ∧ w.heap.size ≤ g ∧ w'.ownsRow w.heap.size 2 1 (.slice (some ⟨g, 0, none⟩) len cap') len (xs.map (Value.int .i64)) ∧ Below w.heap.size w w' := by
  obtain ⟨i0, hi, hz0, hz1, hz2⟩ := info_parts info64
  have hnil := World.ownsRow_lit (size := 1) (e := 2) w #[] 0 (Nat.le_refl w.heap.size) (by unfold maxLen; omega) rfl
  have HNIL := Lib.hid hnil
  clear hnil
  have hb0 : Below w.heap.size w (w.alloc (.cells #[] 2)) := (Below.refl _ _).alloc (Nat.le_refl _) _
  have hlen := h.1
  cases a with
  | none =>
    obtain rfl := hn rfl
    have h0 : len = 0 := by
      rcases h.2 with h0 | ⟨b, off, h0, _⟩
      · exact h0
      · cases h0
    subst h0
    obtain rfl : xs = [] := List.eq_nil_of_length_eq_zero hlen.symm
    clear h hlen hn
    go_enter Try.func124, Try.ntmps124
    go_wp2_with (at_builtin; refine wpList_append_own_none rfl (.tmp 3) (.tmp 4) 22 rfl w.heap.size 2 i0 1 Try.underlying22 hi _ _ _ rfl HNIL.out rfl ?_)
    go_ret
    exact ⟨_, _, rfl, Nat.le_refl _, HNIL.out, hb0⟩
  | some ad =>
    have hcells : ∀ j u, (xs.map (Value.int .i64))[j]? = some u → (w.alloc (.cells #[] 2)).cell? (ad.add j) = some u := by
      intro j u hj
      have hjl : j < xs.length := by
        have := (List.getElem?_eq_some_iff.1 hj).1
        simpa using this
      obtain ⟨b, off, he, hb, hc⟩ := h.2.resolve_left (by omega)
      cases he
      rw [nth_map hjl] at hj
      have e2 : (⟨b, off, none⟩ : Addr).add j = ⟨b, off + j, none⟩ := by unfold Addr.add; split <;> simp_all
      rw [e2, World.cell?_alloc_past _ _ _ hb, hc j (by omega), ← hj]
    have HC := Lib.hid hcells
    have HL := Lib.hid hlen
    clear h hcells hlen hn
    go_enter Try.func124, Try.ntmps124
    go_wp2_with (at_builtin; refine wpList_append_own _ rfl (.tmp 3) (.tmp 4) 22 rfl w.heap.size 2 i0 (.int .i64 0) 1 8 Try.underlying22 hi hz0 hz1 hz2 rfl (by decide) _ 0 _ rfl HNIL.out ad len _ (xs.map (Value.int .i64)) rfl ?c1 HC.out (ints_oneCell _ _) ?c2 ?c3 ?c4 ?_)
    case c1 => exact HL.out.symm
    case c2 => unfold maxLen; omega
    case c3 => omega
    intro v' w1 hown1 hgr1 hnn1
    have hb1 : Below w.heap.size w w1 := hb0.grown hgr1 hb0.size (fun k hk => (World.ownsRow.lt HNIL.out k hk).1)
    obtain ⟨g, cap', rfl, hg⟩ := owned_some hown1 hnn1
    have HO := Lib.hid hown1
    clear hown1 hgr1 hnn1
    go_wp2
    go_ret
    exact ⟨g, cap', rfl, hg, HO.out, hb1⟩

end Go.Proofs.Ytomldealpmohhaa
