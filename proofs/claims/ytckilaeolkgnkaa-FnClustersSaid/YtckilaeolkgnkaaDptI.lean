/- The contract of the program's DepthsOfWorlds. Conditions: those in the theorems. -/
import Derived.Test.YtckilaeolkgnkaaDpt
import Derived.Test.YtckilaeolkgnkaaJn02
import Derived.Test.YtckilaeolkgnkaaJn03
namespace Go.Proofs.Ytckilaeolkgnkaa
open Go.RowKit

def dsF (xs : List Int) (k t : Nat) : Int := if t < k then dp xs t else 0
def dpL (xs : List Int) : List Int := tab xs.length (dp xs)
theorem ds_set (xs : List Int) (k t : Nat) : (if t = k then dp xs k else dsF xs k t) = dsF xs (k + 1) t := by
  unfold dsF
  by_cases e : t = k
  · subst e; rw [if_pos rfl, if_pos (by omega)]
  · rw [if_neg e]
    by_cases h2 : t < k
    · have h3 : t < k + 1 := by omega
      rw [if_pos h2, if_pos h3]
    · have h3 : ¬ t < k + 1 := by omega
      rw [if_neg h2, if_neg h3]
theorem ds_all (xs : List Int) : tab xs.length (dsF xs xs.length) = dpL xs := tab_congr fun t ht => by rw [dsF, if_pos ht]
theorem ds_zero (xs : List Int) (n : Nat) : (madeCells #[.int .i64 0] n).toList = (tab n (dsF xs 0)).map (Value.int .i64) := by
  rw [toList_madeCells_one]
  apply List.ext_getElem
  · simp [tab]
  · intro i h1 h2
    simp [tab, dsF]
theorem dpL_len (xs : List Int) : (dpL xs).length = xs.length := tab_len _ _
theorem rk_le (xs : List Int) (u : Nat) : rk xs u ≤ xs.length := cnt_le _ _

set_option maxHeartbeats 2000000 in
set_option maxRecDepth 100000 in
theorem implDepthsOfWorlds_any (n : Int) (xs : List Int) (a : Option Addr) (len cap : Nat) (w : World) (hl : len ≤ 1048576) (h : At w a len xs) :
    Calls Try.prog 19 #[.agg #[.int .i64 n, .slice a len cap]] w fun e w' => ∃ v, e = .returned (.tuple #[v, .int .i64 (rtC n xs)]) ∧ Own w' w.heap.size v (outL (rtC n xs) (dpL xs)) ∧ Below w.heap.size w w' := by
  have HB := Lib.hid (boxF (w := w) n a len cap)
  have H := Lib.hid (h.keep HB.out (Nat.le_refl _))
  obtain rfl := h.1
  clear h
  cases h0 : frB n xs
  · have C := Lib.hid h0
    have E := Lib.hid (ff_bad h0)
    clear h0
    go_enter Try.func19, Try.ntmps19
    go_wp2_with fail
    refine (implIsFrame_any n xs _ _ _ _ hl H.out).mono ?_
    rw [C.out]
    rintro e w1 ⟨rfl, hb1⟩
    have B1 := Lib.hid (HB.out.trans (hb1.mono HB.out.size))
    clear hb1
    go_wp2
    go_ret2
    exact ⟨_, by rw [E.out]; rfl, Own.nil (by rw [E.out]; decide), B1.out⟩
  · obtain ⟨i0, hi, hz0, hz1, hz2⟩ := info_parts info64
    obtain ⟨rfl, h8, -, hr⟩ := frB_ok h0
    have hl30 : xs.length ≤ 30 := by omega
    have HR := Lib.hid hr
    have C := Lib.hid h0
    have E := Lib.hid (ff_ok h0)
    clear hr h0
    go_enter Try.func19, Try.ntmps19
    go_wp2_with fail
    refine (implIsFrame_any xs.length xs _ _ _ _ hl H.out).mono ?_
    rw [C.out]
    rintro e w1 ⟨rfl, hb1⟩
    have B1 := Lib.hid (HB.out.trans (hb1.mono HB.out.size))
    have H1 := Lib.hid (H.out.keep hb1 (Nat.le_refl _))
    have X1 := Lib.hid (bx1 hb1)
    clear hb1
    obtain ⟨lt1, c0, c1⟩ := X1.out
    go_wp2_with fail
    clear c0 c1
    refine (reach_any _ xs _ _ _ _ hl30 H1.out).mono ?_
    rintro e w2 ⟨v2, rfl, ho, hb2⟩
    have B2 := Lib.hid (B1.out.trans (hb2.mono B1.out.size))
    obtain ⟨lt2, c0, c1⟩ := X1.out.keep hb2
    obtain ⟨a2, k2, rfl, hat, -, -, hlt4⟩ := ho.at
    have L2 := rcL_len xs
    rw [L2] at hat
    rw [L2]
    have H2 := Lib.hid hat
    have hz1' := B2.out.size
    have NE := Lib.hid (fun p (hp : a2 = some p) => (by have k1 := (hlt4 p hp).2; omega : p.block ≠ w2.heap.size))
    clear hlt4
    clear ho hb2 hat L2
    go_wp2_with (at_make; refine wpList_make_full _ rfl _ _ 22 rfl w2.heap.size 2 i0 (.int .i64 0) 1 Try.underlying22 hi hz0 hz1 _ _ _ _ xs.length rfl rfl rfl rfl ?b2 ?b3 (Nat.le_refl _) ?_)
    case b2 => rw [hz2]; omega
    case b3 => unfold maxLen; omega
    intro w3 hown3 hgrow3
    rw [ds_zero xs] at hown3
    have hb3 : Below w2.heap.size w2 w3 := (Below.refl _ _).grown hgrow3 (Nat.le_refl _) (fun k h => by cases h)
    have O3 := Lib.hid (show RowO w3 w2.heap.size _ xs.length (dsF xs 0) from hown3)
    have B3 := Lib.hid (B2.out.trans (hb3.mono B2.out.size))
    have H3 := Lib.hid (H2.out.keep hb3 (Nat.le_refl _))
    clear hown3 hgrow3 hb3 hi hz0 hz1 hz2
    go_wp2
    go_loopw [17] (fun i wr => ∃ k : Nat, k ≤ xs.length ∧ i = .int .i64 k ∧ Hid (RowO wr w2.heap.size (.slice (some ⟨w2.heap.size, 0, none⟩) xs.length xs.length) xs.length (dsF xs k)) ∧ Hid (At wr a2 xs.length (rcL xs)) ∧ Hid (Below w.heap.size w wr)) (fun i _ => xs.length - (intOf i).toNat)
    case atStart => exact ⟨0, Nat.zero_le _, rfl, O3, H3, B3⟩
    case round =>
      obtain ⟨k, hk, rfl, O, A, B⟩ := hrel
      by_cases hlt : k < xs.length
      · obtain ⟨hcg, hfg⟩ := O.out.cell hlt
        have RKL := Lib.hid (show rk xs k < xs.length + 1 from Nat.lt_succ_of_le (rk_le xs k))
        go_wp2_with (go_at_call 43; refine (depthIn_any xs _ _ _ h8 HR.out A.out _ k hlt RKL.out).mono ?_; rintro e w' ⟨rfl, rfl⟩)
        go_roundw
        case rel => exact ⟨k + 1, hlt, by go_num, Lib.hid (RowO.set (show RowO _ w2.heap.size (.slice (some ⟨w2.heap.size, 0, none⟩) xs.length xs.length) xs.length (dsF xs k) from O.out) (ds_set xs k)), Lib.hid (At.setO A.out NE.out), Lib.hid (Below.setCell B.out (by exact hz1') _)⟩
        case measure => simp [intOf]; omega
      · obtain rfl : k = xs.length := by omega
        go_wp2
        go_ret2
        exact ⟨_, out_ok E.out, Own.ok E.out (Own.mono (B := w2.heap.size) (by have q := O.out.own; rw [ds_all] at q; exact q) hz1'), B.out⟩

end Go.Proofs.Ytckilaeolkgnkaa
