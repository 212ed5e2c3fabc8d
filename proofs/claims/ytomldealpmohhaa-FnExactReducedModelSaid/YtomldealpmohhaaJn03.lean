/- 2 texts in one: Refl, Comp. -/
import Derived.Deep.RegionLaw
import Derived.Test.YtomldealpmohhaaJn02
/- Contracts of the functions of chapter 1 behind ReflexiveClosure, and the walk of its law. Conditions: those in the theorems. -/
namespace Go.Proofs.Ytomldealpmohhaa
open Go.RowKit

def rfTo (xs : List Int) : Nat → List Int
  | 0 => []
  | k + 1 => rfTo xs k ++ [bits .or .i64 (nth xs k) (one k)]
theorem rfTo_len (xs : List Int) (k : Nat) : (rfTo xs k).length = k := by induction k with | zero => rfl | succ k ih => simp [rfTo, ih]

theorem nth_snoc (xs : List Int) (z : Int) (n : Nat) (h : xs.length = n) : nth (xs ++ [z]) n = z := by unfold nth; subst h; simp [List.getD]
theorem nth_left (xs ys : List Int) (j : Nat) (h : j < xs.length) : nth (xs ++ ys) j = nth xs j := by
  unfold nth; rw [List.getD_eq_getElem?_getD, List.getD_eq_getElem?_getD, List.getElem?_append_left h]
theorem rfTo_nth (xs : List Int) (n k : Nat) (h : k < n) : nth (rfTo xs n) k = bits .or .i64 (nth xs k) (one k) := by
  induction n with
  | zero => omega
  | succ n ih =>
    by_cases e : k = n
    · subst e; exact nth_snoc _ _ _ (rfTo_len xs k)
    · rw [rfTo, nth_left _ _ _ (by rw [rfTo_len]; omega)]; exact ih (by omega)

/-- The result list of a function that may also return a code. -/
def outL (c : Int) (ys : List Int) : List Int := if c = 0 then ys else []

set_option maxHeartbeats 400000 in
theorem reflexive_any (xs : List Int) (a : Option Addr) (len cap : Nat) (w : World) (hl : len ≤ 30) (h : At w a len xs) :
    Calls Try.prog 107 #[.slice a len cap] w fun e w' => ∃ v, e = .returned v ∧ Own w' w.heap.size v (rfTo xs len) ∧ Below w.heap.size w w' := by
  obtain ⟨i0, hi, hz0, hz1, hz2⟩ := info_parts info64
  have H := Lib.hid h
  clear h
  have HL := Lib.hid (rfTo_len xs len)
  have HN := Lib.hid (rfTo_nth xs len)
  go_enter Try.func107, Try.ntmps107
  go_wp2_with (at_make; refine wpList_make_full _ rfl _ _ 87 rfl w.heap.size 2 i0 (.int .i64 0) 1 Try.underlying87 hi hz0 hz1 _ _ _ _ len rfl rfl rfl rfl ?b2 ?b3 (Nat.le_refl _) ?_)
  case b2 => rw [hz2]; omega
  case b3 => unfold maxLen; omega
  intro w0 hown0 hgrow0
  clear hi hz0 hz1 hz2
  have HO0 := Lib.hid hown0
  clear hown0
  go_wp2
  go_loopw [11] (fun i wr => ∃ k : Nat, k ≤ len ∧ i = .int .i64 k ∧ wr.ownsRow w.heap.size 2 1 (.slice (some ⟨w.heap.size, 0, none⟩) len len) len ((cpl (rfTo xs len) len k).map (Value.int .i64)) ∧ Below w.heap.size w wr) (fun i _ => len - (intOf i).toNat)
  case atStart => exact ⟨0, Nat.zero_le _, rfl, by rw [← cpl_zero]; exact HO0.out, (Below.refl _ _).grown hgrow0 (Nat.le_refl _) (fun k h => by cases h)⟩
  case round =>
    obtain ⟨k, hk, rfl, hown, hbel⟩ := hrel
    clear hgrow0
    by_cases hlt : k < len
    · obtain ⟨b, off, rfl, hb, hc⟩ := H.out.2.resolve_left (by omega)
      have hcell : wr.cell? ⟨b, off + k, none⟩ = some (.int .i64 (nth xs k)) := (hbel.cell (p := ⟨b, off + k, none⟩) hb).trans (hc k hlt)
      obtain ⟨u, hu⟩ : ∃ u, ((cpl (rfTo xs len) len k).map (Value.int .i64))[k]? = some u := ⟨_, List.getElem?_eq_getElem (by simp [cpl_len _ len k HL.out.symm hk, hlt])⟩
      have hcg : wr.cell? ⟨w.heap.size, k, none⟩ = some u := (hown.cellAt k (by omega)).trans hu
      have hfg : wr.frozen? ⟨w.heap.size, k, none⟩ = false := hown.frozenAt k
      have hs := (hown.stored k (.int .i64 (nth (rfTo xs len) k))).1
      have hbs := hbel.setCell (p := ⟨w.heap.size, k, none⟩) (Nat.le_refl _) (.int .i64 (nth (rfTo xs len) k))
      rw [cpl_set _ len k HL.out.symm hlt] at hs
      rw [HN.out k hlt] at hs hbs
      have HS := Lib.hid hs
      have HBS := Lib.hid hbs
      clear hown hu hc hs hbs
      go_wp2
      go_roundw
      case rel => exact ⟨k + 1, hlt, by go_num, HS.out, HBS.out⟩
      case measure => simp [intOf]; omega
    · obtain rfl : k = len := by omega
      have HO := Lib.hid hown
      clear hown
      go_wp2
      go_ret
      exact ⟨_, rfl, (by have ho := HO.out; rw [cpl_all _ k HL.out.symm] at ho; unfold Own; rw [HL.out]; exact ho), hbel⟩

theorem out_ok {v : Value} {c : Int} (h : c = 0) : Ending.returned (.tuple #[v, .int .i64 0]) = .returned (.tuple #[v, .int .i64 c]) := by rw [h]
theorem Own.nil {w : World} {B : Nat} {c : Int} {ys : List Int} (h : ¬ c = 0) : Own w B (.slice none 0 0) (outL c ys) := by
  rw [outL, if_neg h]; exact World.ownsRow_nil _ _ _ _
theorem Own.ok {w : World} {B : Nat} {v : Value} {c : Int} {ys : List Int} (h : c = 0) (ho : Own w B v ys) : Own w B v (outL c ys) := by
  rw [outL, if_pos h]; exact ho
theorem chkI_small {xs : List Int} {len : Nat} (h : chkI xs len = 0) : len ≤ 30 ∧ mksTo len xs len = true := by
  unfold chkI at h
  split at h
  · omega
  · cases h1 : mksTo len xs len <;> simp [h1] at h ⊢; omega

end Go.Proofs.Ytomldealpmohhaa

/- Contracts of the functions of chapter 1 behind ComposeRelations. Conditions: those in the theorems. -/
namespace Go.Proofs.Ytomldealpmohhaa
open Go.RowKit

def cpTo (xs ys : List Int) : Nat → List Int
  | 0 => []
  | k + 1 => cpTo xs ys k ++ [imgTo ys (nth xs k) ys.length]
theorem cpTo_len (xs ys : List Int) (k : Nat) : (cpTo xs ys k).length = k := by induction k with | zero => rfl | succ k ih => simp [cpTo, ih]
theorem cpTo_nth (xs ys : List Int) (n k : Nat) (h : k < n) : nth (cpTo xs ys n) k = imgTo ys (nth xs k) ys.length := by
  induction n with
  | zero => omega
  | succ n ih =>
    by_cases e : k = n
    · subst e; exact nth_snoc _ _ _ (cpTo_len xs ys k)
    · rw [cpTo, nth_left _ _ _ (by rw [cpTo_len]; omega)]; exact ih (by omega)

theorem chkI_cases (xs : List Int) (len : Nat) : (30 < len ∧ chkI xs len = 2) ∨ (len ≤ 30 ∧ chkI xs len = 1) ∨ (len ≤ 30 ∧ chkI xs len = 0) := by
  by_cases h : 30 < len
  · exact .inl ⟨h, chkI_big h⟩
  · cases h1 : mksTo len xs len
    · exact .inr (.inl ⟨by omega, chkI_bad h h1⟩)
    · exact .inr (.inr ⟨by omega, chkI_ok h h1⟩)

def cmpI (xs ys : List Int) (lx ly : Nat) : Int := if chkI xs lx = 2 ∨ chkI ys ly = 2 then 2 else if chkI xs lx ≠ 0 ∨ chkI ys ly ≠ 0 ∨ lx ≠ ly then 1 else 0
theorem cmpI_of {xs ys : List Int} {lx ly : Nat} {c d : Int} (hc : chkI xs lx = c) (hd : chkI ys ly = d) : cmpI xs ys lx ly = if c = 2 ∨ d = 2 then 2 else if c ≠ 0 ∨ d ≠ 0 ∨ lx ≠ ly then 1 else 0 := by rw [cmpI, hc, hd]

theorem cmpI_ret {xs ys : List Int} {lx ly : Nat} {c d r : Int} (h1 : chkI xs lx = c) (h2 : chkI ys ly = d) (h3 : (if c = 2 ∨ d = 2 then 2 else if c ≠ 0 ∨ d ≠ 0 ∨ lx ≠ ly then 1 else 0) = r) : Ending.returned (.int .i64 r) = .returned (.int .i64 (cmpI xs ys lx ly)) := by rw [cmpI_of h1 h2, h3]

theorem cmpI_zero {xs ys : List Int} {lx ly : Nat} (h : cmpI xs ys lx ly = 0) : lx ≤ 30 ∧ ly ≤ 30 ∧ chkI xs lx = 0 ∧ chkI ys ly = 0 ∧ lx = ly := by
  rcases chkI_cases xs lx with ⟨h1, h2⟩ | ⟨h1, h2⟩ | ⟨h1, h2⟩ <;> rcases chkI_cases ys ly with ⟨h3, h4⟩ | ⟨h3, h4⟩ | ⟨h3, h4⟩ <;> rw [cmpI_of h2 h4] at h <;> simp at h ⊢ <;> refine ⟨h1, h3, h2, h4, ?_⟩ <;> omega

theorem cmp_ret {xs ys : List Int} {lx ly : Nat} {c d r : Int} (h1 : chkI xs lx = c) (h2 : chkI ys ly = d) (h3 : (if c = 2 ∨ d = 2 then 2 else if c ≠ 0 ∨ d ≠ 0 ∨ lx ≠ ly then 1 else 0) = r) (hr : r ≠ 0) {w w' : World} (q : Nat) (hw : w' = w.drewN q) {zs : List Int} :
    ∃ v, Ending.returned (.tuple #[.slice none 0 0, .int .i64 r]) = .returned (.tuple #[v, .int .i64 (cmpI xs ys lx ly)]) ∧ Own w' w.heap.size v (outL (cmpI xs ys lx ly) zs) ∧ Below w.heap.size w w' := by
  subst hw
  rw [cmpI_of h1 h2, h3]
  exact ⟨_, rfl, Own.nil hr, below_drewN (Below.refl _ _) q⟩

end Go.Proofs.Ytomldealpmohhaa
