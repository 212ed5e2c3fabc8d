/- Contracts of the functions of chapter 1 that read a list and write nothing. Conditions: those in the theorems. -/
import Derived.Test.YtngllobakfnhiaaDoorBase
namespace Go.Proofs.YtngllobakfnhiaaDoor
open Go.RowKit

def nth (xs : List Int) (k : Nat) : Int := xs.getD k 0

/-- The list xs lies at the slice value (a, len): no element, or cells in a row. -/
def At (w : World) (a : Option Addr) (len : Nat) (xs : List Int) : Prop :=
  len = xs.length ∧ (len = 0 ∨ ∃ b off, a = some ⟨b, off, none⟩ ∧ b < w.heap.size ∧ ∀ j, j < len → w.cell? ⟨b, off + j, none⟩ = some (.int .i64 (nth xs j)))

theorem At.of_row {w : World} {a : Option Addr} {len cap : Nat} {zs : List Int} (h : IsRow .i64 w a len cap zs) : At w a len (zs.take len) := by
  rcases h with ⟨rfl, rfl, rfl, rfl⟩ | ⟨x, rfl, hl, hm, hz, hcell, hwz⟩
  · exact ⟨rfl, .inl rfl⟩
  · refine ⟨by simp; omega, ?_⟩
    by_cases h0 : len = 0
    · exact .inl h0
    · right
      obtain ⟨b, off, spot⟩ := x
      have hc := hcell 0 (by omega)
      have hspot : spot = none := by simpa [Addr.add] using World.cell?_spot hc
      subst hspot
      refine ⟨b, off, rfl, ?_, fun j hj => ?_⟩
      · exact World.block_lt_of_cell? w _ hc
      · have hcj := hcell j (by omega)
        have e : nth (zs.take len) j = zs.getD j 0 := by
          unfold nth
          rw [List.getD_eq_getElem?_getD, List.getD_eq_getElem?_getD, List.getElem?_take, if_pos hj]
        rw [e]
        have e2 : (⟨b, off, none⟩ : Addr).add j = ⟨b, off + j, none⟩ := by unfold Addr.add; split <;> simp_all
        rw [e2] at hcj
        exact hcj

def mksTo (n : Int) (xs : List Int) : Nat → Bool
  | 0 => true
  | k + 1 => mksTo n xs k && mskB n (nth xs k)

theorem mksTo_false {n : Int} {xs : List Int} {k l : Nat} (hk : k ≤ l) (h : mksTo n xs k = false) : mksTo n xs l = false := by
  induction l with
  | zero => simp at hk; subst hk; exact h
  | succ l ih =>
    by_cases e : k = l + 1
    · subst e; exact h
    · rw [mksTo, ih (by omega)]; rfl

def SomeDrew (w : World) (P : Ending → Prop) (e : Ending) (w' : World) : Prop := P e ∧ ∃ q, w' = w.drewN q

set_option maxHeartbeats 400000 in
theorem l01Masks_any (n : Int) (xs : List Int) (a : Option Addr) (len cap : Nat) (w : World) (hn : 0 ≤ n) (hn2 : n ≤ 30) (hl : len ≤ 1048576) (h : At w a len xs) :
    Calls Tryd.prog 17 #[.int .i64 n, .slice a len cap] w (SomeDrew w fun e => e = .returned (.bool (mksTo n xs len))) := by
  obtain ⟨hlen, rfl | ⟨b, off, rfl, hb, hc⟩⟩ := h
  · go_enter Tryd.func17, Tryd.ntmps17
    go_wp2
    refine wp_loop_rounds 1 ?_
    rw [rounds_succ]
    go_wp2
    go_ret
    exact ⟨rfl, 0, rfl⟩
  · clear hlen hb
    go_enter Tryd.func17, Tryd.ntmps17
    go_wp2
    go_loopw [5] (fun i wr => ∃ k q : Nat, k ≤ len ∧ i = .int .i64 k ∧ mksTo n xs k = true ∧ wr = w.drewN q) (fun i _ => len - (intOf i).toNat)
    case atStart => exact ⟨0, 0, Nat.zero_le _, rfl, rfl, rfl⟩
    case round =>
      obtain ⟨k, q, hk, rfl, hm, rfl⟩ := hrel
      have HM := Lib.hid hm
      clear hm
      by_cases hlt : k < len
      · have hcell := hc k hlt
        clear hc
        cases hb : inB (nth xs k) 0 (full n)
        · go_wp2
          go_quiet ((first | (go_at_call 24; exact q_same (l01Full_any _ _ hn hn2) rfl) | (go_at_call 16; exact q_same (l01In_any _ _ _ _) rfl)))
          go_wp2
          go_ret
          exact ⟨ret_bool (mksTo_false (k := k + 1) hlt (by rw [mksTo, mskB, hb, Bool.and_false])).symm, q + nq, by rw [World.drewN_drewN]⟩
        · go_wp2
          go_quiet ((first | (go_at_call 24; exact q_same (l01Full_any _ _ hn hn2) rfl) | (go_at_call 16; exact q_same (l01In_any _ _ _ _) rfl)))
          go_wp2
          go_roundw
          case rel => exact ⟨k + 1, _, hlt, by go_num, by rw [mksTo, HM.out, mskB, hb]; rfl, rfl⟩
          case measure => simp [intOf]; omega
      · obtain rfl : k = len := by omega
        clear hc
        go_wp2
        go_ret
        exact ⟨ret_bool HM.out.symm, _, rfl⟩

def chkI (xs : List Int) (len : Nat) : Int := if 30 < len then 2 else if mksTo len xs len then 0 else 1

theorem chkI_big {xs : List Int} {len : Nat} (h : 30 < len) : chkI xs len = 2 := if_pos h
theorem chkI_ok {xs : List Int} {len : Nat} (h : ¬ 30 < len) (h2 : mksTo len xs len = true) : chkI xs len = 0 := by rw [chkI, if_neg h, if_pos h2]
theorem chkI_bad {xs : List Int} {len : Nat} (h : ¬ 30 < len) (h2 : mksTo len xs len = false) : chkI xs len = 1 := by rw [chkI, if_neg h, if_neg (by simp [h2])]

set_option maxHeartbeats 400000 in
theorem check_any (xs : List Int) (a : Option Addr) (len cap : Nat) (w : World) (hl : len ≤ 1048576) (h : At w a len xs) :
    Calls Tryd.prog 21 #[.slice a len cap] w fun e w' => e = .returned (.int .i64 (chkI xs len)) ∧ w = w' := by
  obtain ⟨hlen, rfl | ⟨b, off, rfl, hb, hc⟩⟩ := h
  · clear hlen
    go_enter Tryd.func21, Tryd.ntmps21
    go_wp2
    refine wp_loop_rounds 1 ?_
    rw [rounds_succ]
    go_wp2
    go_ret
    exact ⟨rfl, rfl⟩
  · clear hlen hb
    by_cases hbig : 30 < len
    · go_enter Tryd.func21, Tryd.ntmps21
      go_wp2
      go_ret
      exact ⟨ret_int (chkI_big hbig).symm, rfl⟩
    · go_enter Tryd.func21, Tryd.ntmps21
      go_wp2
      go_loop [10] (fun i => ∃ k : Nat, k ≤ len ∧ i = .int .i64 k ∧ mksTo len xs k = true) (fun i => len - (intOf i).toNat)
      case atStart => exact ⟨0, Nat.zero_le _, rfl, rfl⟩
      case round =>
        obtain ⟨k, hk, rfl, hm⟩ := hrel
        have HM := Lib.hid hm
        clear hm
        by_cases hlt : k < len
        · have hcell := hc k hlt
          clear hc
          cases hb : mskB len (nth xs k)
          · go_wp2_with (go_at_call 25; refine (isMaskWithin_any _ _ _ (by omega) (by omega)).mono ?_; rintro e w' ⟨rfl, rfl⟩)
            go_ret
            exact ⟨ret_int (chkI_bad hbig (mksTo_false (k := k + 1) hlt (by rw [mksTo, hb, Bool.and_false]))).symm, rfl⟩
          · go_wp2_with (go_at_call 25; refine (isMaskWithin_any _ _ _ (by omega) (by omega)).mono ?_; rintro e w' ⟨rfl, rfl⟩)
            go_round
            case rel => exact ⟨k + 1, hlt, by go_num, by rw [mksTo, HM.out, hb]; rfl⟩
            case measure => simp [intOf]; omega
        · obtain rfl : k = len := by omega
          clear hc
          go_wp2
          go_ret
          exact ⟨ret_int (chkI_ok hbig HM.out).symm, rfl⟩

def imgTo (xs : List Int) (m : Int) : Nat → Int
  | 0 => 0
  | k + 1 => if bitB m k then bits .or .i64 (imgTo xs m k) (nth xs k) else imgTo xs m k

end Go.Proofs.YtngllobakfnhiaaDoor
