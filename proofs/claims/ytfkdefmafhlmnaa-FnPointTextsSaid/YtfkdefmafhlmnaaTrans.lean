/- Contracts of the functions of chapter 1 behind TransitiveClosure. Conditions: those in the theorems. -/
import Derived.Laws.CopyOwn
import Derived.Laws.AppendOwnNone
import Derived.Test.YtfkdefmafhlmnaaInv
namespace Go.Proofs.Ytfkdefmafhlmnaa
open Go.RowKit

/-- One step of the closure at via k, row i. -/
def tcStep (F : Nat → Int) (k i : Nat) : Nat → Int := fun t => if t = i then (if bitB (F i) k then bits .or .i64 (F i) (F k) else F i) else F t
def tcIn (F : Nat → Int) (k : Nat) : Nat → Nat → Int
  | 0 => F
  | i + 1 => tcStep (tcIn F k i) k i
def tcTo (xs : List Int) (len : Nat) : Nat → Nat → Int
  | 0 => nth xs
  | k + 1 => tcIn (tcTo xs len k) k len

theorem tcStep_no {F : Nat → Int} {k i : Nat} (h : bitB (F i) k = false) (t : Nat) : tcStep F k i t = F t := by
  unfold tcStep; by_cases e : t = i
  · subst e; rw [if_pos rfl, h]; rfl
  · rw [if_neg e]
theorem tcStep_yes {F : Nat → Int} {k i : Nat} (h : bitB (F i) k = true) (t : Nat) : (if t = i then bits .or .i64 (F i) (F k) else F t) = tcStep F k i t := by
  unfold tcStep; by_cases e : t = i
  · subst e; rw [if_pos rfl, if_pos rfl, h]; rfl
  · rw [if_neg e, if_neg e]

theorem tab_self (xs : List Int) : tab xs.length (nth xs) = xs := by
  apply List.ext_getElem?
  intro j
  by_cases hj : j < xs.length
  · simp [tab, nth, List.getD, hj]
  · rw [List.getElem?_eq_none (by rw [tab_len]; omega), List.getElem?_eq_none (by omega)]
theorem tab_get {n j : Nat} {F : Nat → Int} (h : j < n) : ((tab n F).map (Value.int .i64))[j]? = some (.int .i64 (F j)) := by simp [tab, h]
theorem tab_congr {n : Nat} {F G : Nat → Int} (h : ∀ t, t < n → F t = G t) : tab n F = tab n G := by
  unfold tab
  apply List.map_congr_left
  intro t ht
  exact h t (by simpa using ht)
theorem tab_set {n j : Nat} {F G : Nat → Int} {z : Int} (e : ∀ t, (if t = j then z else F t) = G t) : ((tab n F).map (Value.int .i64)).set j (.int .i64 z) = (tab n G).map (Value.int .i64) := by
  apply List.ext_getElem?
  intro t
  by_cases ht : t < n
  · rw [tab_get ht, ← e t]
    by_cases h : t = j
    · subst h; rw [List.getElem?_set_self (by simp [tab, ht])]; simp
    · rw [List.getElem?_set_ne (by omega), tab_get ht, if_neg h]
  · rw [List.getElem?_eq_none (by simp [tab]; omega), List.getElem?_eq_none (by simp [tab]; omega)]
theorem own_of_heap {w : World} {B g n : Nat} {zs : List Value} (hB : B ≤ g) (hn : zs.length = n) (hm : n ≤ 1099511627776) (h : w.heap[g]? = some (.cells zs.toArray 2 (0, 0))) : w.ownsRow B 2 1 (.slice (some ⟨g, 0, none⟩) n n) n zs := by
  subst hn
  exact ⟨by simp, .inr ⟨g, zs.length, zs.toArray, rfl, hB, h, Nat.le_refl _, by unfold maxLen; omega, by simp, by simp⟩⟩
theorem size64 : (Try.prog.info? 2).map (·.size) = some 1 := by kernel_rfl

theorem owned_some {w : World} {B : Nat} {v : Value} {n : Nat} {zs : List Value} (h : w.ownsRow B 2 1 v n zs) (hv : v ≠ .slice none 0 0) : ∃ g cap, v = .slice (some ⟨g, 0, none⟩) n cap ∧ B ≤ g := by
  rcases h.2 with ⟨h1, _⟩ | ⟨g, cap, cur, h1, h2, _⟩
  · exact absurd h1 hv
  · exact ⟨g, cap, h1, h2⟩

set_option maxHeartbeats 400000 in
/-- A copy of a list, by append to an empty one. -/
theorem l01Own_any (xs : List Int) (a : Option Addr) (len cap : Nat) (w : World) (hl : len ≤ 1048576) (h : At w a len xs) (hn : a = none → cap = 0) :
    Calls Try.prog 94 #[.slice a len cap] w fun e w' => ∃ g cap', e = .returned (.slice (some ⟨g, 0, none⟩) len cap') ∧ w.heap.size ≤ g ∧ w'.ownsRow w.heap.size 2 1 (.slice (some ⟨g, 0, none⟩) len cap') len (xs.map (Value.int .i64)) ∧ Below w.heap.size w w' := by
  obtain ⟨i0, hi, hz0, hz1, hz2⟩ := info_parts info64
  have hnil := World.ownsRow_lit (size := 1) (e := 2) w #[] 0 (Nat.le_refl w.heap.size) (by unfold maxLen; omega) rfl
  have HNIL := Lib.hid hnil
  clear hnil
  have hb0 : Below w.heap.size w (w.alloc (.cells #[] 2)) := (Below.refl _ _).alloc (Nat.le_refl _) _
  have hlen := h.1
  cases a with
  | none =>
    obtain rfl := hn rfl
    have h0 : len = 0 := by
      rcases h.2 with h0 | ⟨b, off, h0, _⟩
      · exact h0
      · cases h0
    subst h0
    obtain rfl : xs = [] := List.eq_nil_of_length_eq_zero hlen.symm
    clear h hlen hn
    go_enter Try.func94, Try.ntmps94
    go_wp2_with (at_builtin; refine wpList_append_own_none rfl (.tmp 3) (.tmp 4) 32 rfl w.heap.size 2 i0 1 Try.underlying32 hi _ _ _ rfl HNIL.out rfl ?_)
    go_ret
    exact ⟨_, _, rfl, Nat.le_refl _, HNIL.out, hb0⟩
  | some ad =>
    have hcells : ∀ j u, (xs.map (Value.int .i64))[j]? = some u → (w.alloc (.cells #[] 2)).cell? (ad.add j) = some u := by
      intro j u hj
      have hjl : j < xs.length := by
        have := (List.getElem?_eq_some_iff.1 hj).1
        simpa using this
      obtain ⟨b, off, he, hb, hc⟩ := h.2.resolve_left (by omega)
      cases he
      rw [nth_map hjl] at hj
      have e2 : (⟨b, off, none⟩ : Addr).add j = ⟨b, off + j, none⟩ := by unfold Addr.add; split <;> simp_all
      rw [e2, World.cell?_alloc_past _ _ _ hb, hc j (by omega), ← hj]
    have HC := Lib.hid hcells
    have HL := Lib.hid hlen
    clear h hcells hlen hn
    go_enter Try.func94, Try.ntmps94
    go_wp2_with (at_builtin; refine wpList_append_own _ rfl (.tmp 3) (.tmp 4) 32 rfl w.heap.size 2 i0 (.int .i64 0) 1 8 Try.underlying32 hi hz0 hz1 hz2 rfl (by decide) _ 0 _ rfl HNIL.out ad len _ (xs.map (Value.int .i64)) rfl ?c1 HC.out (ints_oneCell _ _) ?c2 ?c3 ?c4 ?_)
    case c1 => exact HL.out.symm
    case c2 => unfold maxLen; omega
    case c3 => omega
    intro v' w1 hown1 hgr1 hnn1
    have hb1 : Below w.heap.size w w1 := hb0.grown hgr1 hb0.size (fun k hk => (World.ownsRow.lt HNIL.out k hk).1)
    obtain ⟨g, cap', rfl, hg⟩ := owned_some hown1 hnn1
    have HO := Lib.hid hown1
    clear hown1 hgr1 hnn1
    go_wp2
    go_ret
    exact ⟨g, cap', rfl, hg, HO.out, hb1⟩

end Go.Proofs.Ytfkdefmafhlmnaa
