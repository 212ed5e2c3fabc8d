/- Lists of strings as parameters: what is told of them, their opening, size and copy. Conditions: those in the theorems. -/
import Derived.SliceStrings
import Derived.Test.YtpccocmiadpgiaaJn14
import Derived.Test.YtpccocmiadpgiaaJn05
namespace Go.Proofs.Ytpccocmiadpgiaa
open Go.RowKit
open Go.WideShapes

def IsStrs (w : World) (a : Option Addr) (len : Nat) (ss : List (List UInt8)) : Prop := AtS w a len ss ∧ len ≤ maxLen ∧ ∀ t ∈ ss, t.length ≤ maxLen
theorem IsStrs.keep {w w' : World} {C : Nat} {a : Option Addr} {len : Nat} {ss : List (List UInt8)} (h : IsStrs w a len ss) (hb : Below C w w') (hC : w.heap.size ≤ C) : IsStrs w' a len ss := ⟨h.1.keep hb hC, h.2⟩

section
variable {H : Type} {enc : TypeId × Value → H} {P : Program} {w : World} {base : Nat} {spare : Nat → Bool} {held : Bool}
theorem open_strs {t e : TypeId} {fuel : Nat} {cs : List Value} {x : DataW H × List MemPlace} (ht : P.underlying t = some (.slice e)) (he : P.underlying e = some .string) (hc : P.cellsOf e = 1)
    (h : DataW.trod enc P w base spare held fuel t cs = some x) :
    ∃ (a : Option Addr) (len cap : Nat) (ss : List (List UInt8)), cs = [.slice a len cap] ∧ IsStrs w a len ss := by
  rcases Go.ChangeShapes.open_strings ht he hc h with ⟨hcs, _⟩ | ⟨x, l, c, zs, hcs, _, hl, hm, hz, _, hcell, hsz⟩
  · exact ⟨none, 0, 0, [], hcs, ⟨rfl, .inl rfl⟩, by unfold maxLen; omega, fun t ht => by cases ht⟩
  · have hlz : l ≤ zs.length := by rw [hz]; split <;> omega
    refine ⟨some x, l, c, (zs.take l).map (fun s => s.data.toList), hcs, ⟨by simp; omega, ?_⟩, by omega, fun t ht => ?_⟩
    · by_cases h0 : l = 0
      · exact .inl h0
      · right
        obtain ⟨b, off, spot⟩ := x
        have hc := hcell 0 (by omega)
        have hspot : spot = none := by simpa [Addr.add] using World.cell?_spot hc
        subst hspot
        refine ⟨b, off, rfl, World.block_lt_of_cell? w _ hc, fun j hj => ?_⟩
        have hcj := hcell j (by omega)
        have e2 : (⟨b, off, none⟩ : Addr).add j = ⟨b, off + j, none⟩ := by unfold Addr.add; split <;> simp_all
        rw [e2] at hcj
        rw [hcj]
        have hj2 : j < zs.length := by omega
        have e3 : zs.getD j ByteArray.empty = zs[j] := by simp [List.getD_eq_getElem?_getD, hj2]
        have e4 : nthS ((zs.take l).map (fun s => s.data.toList)) j = zs[j].data.toList := by
          unfold nthS
          rw [List.getD_eq_getElem?_getD, List.getElem?_map, List.getElem?_take, if_pos hj, List.getElem?_eq_getElem hj2]; rfl
        rw [e3, e4]
        rfl
    · obtain ⟨s, hs, rfl⟩ := List.mem_map.1 ht
      have := hsz s (List.mem_of_mem_take hs)
      rw [Array.length_toList]; exact this
end

theorem IsStrs.nth_le {w : World} {a : Option Addr} {len : Nat} {ss : List (List UInt8)} (h : IsStrs w a len ss) (j : Nat) : (nthS ss j).length ≤ maxLen := by
  unfold nthS
  by_cases hj : j < ss.length
  · rw [List.getD_eq_getElem?_getD, List.getElem?_eq_getElem hj]; exact h.2.2 _ (List.getElem_mem hj)
  · rw [List.getD_eq_getElem?_getD, List.getElem?_eq_none (by omega)]; exact Nat.zero_le _

/-- A list of texts that is small: what the size's count promises. -/
def SmS (left : Int) (ss : List (List UInt8)) : Prop := (ss.length : Int) ≤ left ∧ ∀ j, j < ss.length → ((nthS ss j).length : Int) ≤ left

set_option maxHeartbeats 1000000 in
theorem szStringS_any (ss : List (List UInt8)) (a : Option Addr) (len cap : Nat) (left : Int) (w : World) (h : IsStrs w a len ss) (h0 : 0 ≤ left) (h1 : left ≤ 1048576) :
    Calls Try.prog 21 #[.slice a len cap, .int .i64 left] w fun e w' => ∃ s, e = .returned (.int .i64 s) ∧ Below w.heap.size w w' ∧ (s = -1 ∨ (0 ≤ s ∧ s ≤ left ∧ SmS left ss)) := by
  have HN := Lib.hid h.nth_le
  have hm := h.2.1
  unfold maxLen at hm
  have HL := Lib.hid h.1.1
  have H := Lib.hid h.1
  clear h
  by_cases hbig : left < len
  · go_enter Try.func21, Try.ntmps21
    go_wp2
    go_ret
    exact ⟨-1, rfl, Below.refl _ _, .inl rfl⟩
  have hlen : (len : Int) ≤ left := by omega
  go_enter Try.func21, Try.ntmps21
  go_wp2
  go_loopw [1, 5] (fun c i wr => ∃ (k : Nat) (s : Int), k ≤ len ∧ i = .int .i64 k ∧ c = .int .i64 s ∧ 0 ≤ s ∧ s ≤ left - len ∧ Hid (∀ j, j < k → ((nthS ss j).length : Int) ≤ left) ∧ Below w.heap.size w wr) (fun _ i _ => len - (intOf i).toNat)
  case atStart => exact ⟨0, left - len, Nat.zero_le _, rfl, rfl, by omega, by omega, Lib.hid (fun j hj => by omega), Below.refl _ _⟩
  case round =>
    obtain ⟨k, s, hk, rfl, rfl, hs0, hs1, HF, hbel⟩ := hrel
    by_cases hlt : k < len
    · obtain ⟨b, off, rfl, hb, hc⟩ := H.out.2.resolve_left (by omega)
      obtain ⟨t, ht⟩ : ∃ t, t = stx (nthS ss k) := ⟨_, rfl⟩
      have g1 : wr.cell? ⟨b, off + k, none⟩ = some (.string t) := by rw [ht]; exact (hbel.cell (p := ⟨b, off + k, none⟩) hb).trans (hc k hlt)
      have ts : t.size = (nthS ss k).length := by rw [ht, stx_size]
      have tm : t.size ≤ 9223372036854775807 := by rw [ts]; have := HN.out k; unfold maxLen at this; omega
      have TS := Lib.hid ts
      clear hc ht ts
      by_cases hneg : s < (t.size : Int)
      · have hq : s - (t.size : Int) < 0 := by omega
        go_wp2
        go_ret
        exact ⟨-1, rfl, hbel, .inl rfl⟩
      · have hq : ¬ s - (t.size : Int) < 0 := by omega
        have R := Lib.hid (show ∀ j, j < k + 1 → ((nthS ss j).length : Int) ≤ left from fun j hj => by
          by_cases e : j = k
          · subst e; rw [← TS.out]; omega
          · exact HF.out j (by omega))
        go_wp2
        go_roundw
        case rel => exact ⟨k + 1, s - (t.size : Int), hlt, by go_num, by go_num, by omega, by omega, R, hbel⟩
        case measure => simp [intOf]; omega
    · obtain rfl : k = len := by omega
      have R := Lib.hid (show SmS left ss from ⟨by have := HL.out; omega, fun j hj => HF.out j (by have := HL.out; omega)⟩)
      clear HF
      go_wp2
      go_ret
      exact ⟨s, rfl, hbel, .inr ⟨hs0, by omega, R.out⟩⟩

def cplS (ss : List (List UInt8)) (len k : Nat) : List Value := cS (ss.take k) ++ List.replicate (len - k) (.string ⟨#[]⟩)
theorem cplS_len (ss : List (List UInt8)) (len k : Nat) (h : len = ss.length) (hk : k ≤ len) : (cplS ss len k).length = len := by simp [cplS, cS]; omega
theorem cplS_set (ss : List (List UInt8)) (len k : Nat) (h : len = ss.length) (hk : k < len) : (cplS ss len k).set k (.string (stx (nthS ss k))) = cplS ss len (k + 1) := by
  have hk2 : k < ss.length := by omega
  have e : ss.take (k + 1) = ss.take k ++ [nthS ss k] := by
    rw [List.take_succ_eq_append_getElem hk2]
    have : nthS ss k = ss[k] := by simp [nthS, List.getD_eq_getElem?_getD, hk2]
    rw [this]
  have e2 : List.replicate (len - k) (Value.string ⟨#[]⟩) = .string ⟨#[]⟩ :: List.replicate (len - (k + 1)) (.string ⟨#[]⟩) := by
    rw [show len - k = (len - (k + 1)) + 1 by omega, List.replicate_succ]
  unfold cplS
  rw [e2, e, List.set_append_right _ _ (by simp [cS]; omega), show k - (cS (ss.take k)).length = 0 by simp [cS]; omega, List.set_cons_zero, cS_app, List.append_assoc]
  rfl
theorem cplS_zero (ss : List (List UInt8)) (len : Nat) : (madeCells #[.string ⟨#[]⟩] len).toList = cplS ss len 0 := by
  rw [toList_madeCells_one]; simp [cplS, cS]
theorem cplS_all (ss : List (List UInt8)) (len : Nat) (h : len = ss.length) : cplS ss len len = cS ss := by subst h; simp [cplS]

set_option maxHeartbeats 1000000 in
theorem toStringS_any (ss : List (List UInt8)) (a : Option Addr) (len cap : Nat) (w : World) (hl : len ≤ 1048576) (h : AtS w a len ss) :
    Calls Try.prog 23 #[.slice a len cap] w fun e w' => ∃ v, e = .returned v ∧ OwnS w' w.heap.size v ss ∧ Below w.heap.size w w' := by
  obtain ⟨i0, hi, hz0, hz1, hz2⟩ := info_parts infoStr
  obtain ⟨hlen, rfl | ⟨b, off, rfl, hb, hc⟩⟩ := h
  · obtain rfl : ss = [] := List.eq_nil_of_length_eq_zero hlen.symm
    clear hlen
    go_enter Try.func23, Try.ntmps23
    go_wp2_with (at_make; refine wpList_make_full _ rfl _ _ 23 rfl w.heap.size 9 i0 (.string ⟨#[]⟩) 1 Try.underlying23 hi hz0 hz1 _ _ _ _ 0 rfl rfl (by omega) (by omega) ?b2 ?b3 (Nat.le_refl _) ?_)
    case b2 => rw [hz2]; omega
    case b3 => unfold maxLen; omega
    intro w0 hown0 hgrow0
    have HO := Lib.hid hown0
    clear hown0
    clear hi hz0 hz1 hz2
    go_wp2
    refine wp_loop_rounds 1 ?_
    rw [rounds_succ]
    go_wp2
    go_ret
    exact ⟨_, rfl, (by have h := HO.out; rw [toList_madeCells_one] at h; exact h), (Below.refl _ _).grown hgrow0 (Nat.le_refl _) (fun k h => by cases h)⟩
  · have HL := Lib.hid hlen
    clear hlen
    go_enter Try.func23, Try.ntmps23
    go_wp2_with (at_make; refine wpList_make_full _ rfl _ _ 23 rfl w.heap.size 9 i0 (.string ⟨#[]⟩) 1 Try.underlying23 hi hz0 hz1 _ _ _ _ len rfl rfl rfl rfl ?b2 ?b3 (Nat.le_refl _) ?_)
    case b2 => rw [hz2]; omega
    case b3 => unfold maxLen; omega
    intro w0 hown0 hgrow0
    clear hi hz0 hz1 hz2
    go_wp2
    go_loopw [4] (fun i wr => ∃ k : Nat, k ≤ len ∧ i = .int .i64 k ∧ wr.ownsRow w.heap.size 9 1 (.slice (some ⟨w.heap.size, 0, none⟩) len len) len (cplS ss len k) ∧ Below w.heap.size w wr) (fun i _ => len - (intOf i).toNat)
    case atStart => exact ⟨0, Nat.zero_le _, rfl, by rw [← cplS_zero]; exact hown0, (Below.refl _ _).grown hgrow0 (Nat.le_refl _) (fun k h => by cases h)⟩
    case round =>
      obtain ⟨k, hk, rfl, hown, hbel⟩ := hrel
      clear hown0 hgrow0
      by_cases hlt : k < len
      · have hcell : wr.cell? ⟨b, off + k, none⟩ = some (.string (stx (nthS ss k))) := (hbel.cell (p := ⟨b, off + k, none⟩) hb).trans (hc k hlt)
        obtain ⟨u, hu⟩ : ∃ u, (cplS ss len k)[k]? = some u := ⟨_, List.getElem?_eq_getElem (by simp [cplS_len ss len k HL.out hk, hlt])⟩
        have hcg : wr.cell? ⟨w.heap.size, k, none⟩ = some u := (hown.cellAt k (by omega)).trans hu
        have hfg : wr.frozen? ⟨w.heap.size, k, none⟩ = false := hown.frozenAt k
        have hs := (hown.stored k (.string (stx (nthS ss k)))).1
        rw [cplS_set ss len k HL.out hlt] at hs
        have hbs := hbel.setCell (p := ⟨w.heap.size, k, none⟩) (Nat.le_refl _) (.string (stx (nthS ss k)))
        obtain ⟨t, ht⟩ : ∃ t, t = stx (nthS ss k) := ⟨_, rfl⟩
        rw [← ht] at hcell hs hbs
        clear hown hu hc ht
        go_wp2
        go_roundw
        case rel => exact ⟨k + 1, hlt, by go_num, hs, hbs⟩
        case measure => simp [intOf]; omega
      · obtain rfl : k = len := by omega
        clear hc
        have HO := Lib.hid hown
        clear hown
        go_wp2
        go_ret
        refine ⟨_, rfl, ?_, hbel⟩
        have ho := HO.out
        rw [cplS_all ss k HL.out] at ho
        unfold OwnS
        rw [← HL.out]
        exact ho

end Go.Proofs.Ytpccocmiadpgiaa
