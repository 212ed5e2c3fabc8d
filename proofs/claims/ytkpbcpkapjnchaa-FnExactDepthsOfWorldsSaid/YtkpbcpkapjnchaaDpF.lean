/- Contracts of the model's depths and of DepthsOfWorlds of both. Conditions: those in the theorems. -/
import Derived.Test.YtkpbcpkapjnchaaCk
import Derived.Test.YtkpbcpkapjnchaaDpS
import Derived.Test.YtkpbcpkapjnchaaDptI
namespace Go.Proofs.Ytkpbcpkapjnchaa
open Go.RowKit

def dpTo (xs : List Int) : Nat → List Int
  | 0 => []
  | k + 1 => dpTo xs k ++ [dp xs k]
theorem dpTo_tab (xs : List Int) (k : Nat) : dpTo xs k = tab k (dp xs) := by
  induction k with
  | zero => rfl
  | succ k ih => rw [dpTo, ih]; unfold tab; rw [List.range_succ, List.map_append]; rfl
theorem dpTo_len (xs : List Int) (k : Nat) : (dpTo xs k).length = k := by rw [dpTo_tab, tab_len]

set_option maxHeartbeats 2000000 in
theorem l05Depths_any (xs : List Int) (a : Option Addr) (cap : Nat) (w : World) (h8 : xs.length ≤ 8) (hr : Rel xs.length (nth xs)) (h : At w a xs.length xs) :
    Calls Try.prog 75 #[.agg #[.int .i64 xs.length, .slice a xs.length cap]] w fun e w' => ∃ v, e = .returned v ∧ Own w' w.heap.size v (dpL xs) ∧ Below w.heap.size w w' := by
  have HB := Lib.hid (boxF (w := w) xs.length a xs.length cap)
  have X := Lib.hid (Bx.new w xs.length a xs.length cap 27)
  obtain ⟨W, hW⟩ : ∃ W, W = w.alloc (.cells #[.int .i64 xs.length, .slice a xs.length cap] 27) := ⟨_, rfl⟩
  rw [← hW] at HB X
  have hz : w.heap.size < W.heap.size := X.out.1
  have h30 : xs.length ≤ 30 := by omega
  have H := Lib.hid (h.keep HB.out (Nat.le_refl _))
  have HR := Lib.hid hr
  have HW := Lib.hid hW
  have CL := Lib.hid (ckL_len h30 hr)
  obtain ⟨lt, c0, c1⟩ := X.out
  rw [hW] at c0 c1
  clear h hr hW
  go_enter Try.func75, Try.ntmps75
  go_wp2_with fail
  clear c0 c1
  rw [← HW.out]
  refine (l05Clusters_any xs a cap _ h8 HR.out H.out).mono ?_
  rintro e w1 ⟨v1, rfl, ho, hb⟩
  have B1 := Lib.hid hb
  obtain ⟨a1, k1, rfl, hat, -, -, -⟩ := ho.at
  rw [CL.out] at hat
  rw [CL.out]
  have C1 := Lib.hid hat
  have hz1 := hb.size
  clear ho hb hat
  go_wp2
  go_loopw [4, 5] (fun v i wr => ∃ k : Nat, k ≤ xs.length ∧ i = .int .i64 k ∧ Hid (Own wr w1.heap.size v (dpTo xs k)) ∧ Hid (Below w1.heap.size w1 wr)) (fun _ i _ => xs.length - (intOf i).toNat)
  case atStart =>
    exact ⟨0, Nat.zero_le _, rfl, Lib.hid (by exact World.ownsRow_lit (size := 1) (e := 2) w1 #[] 0 (Nat.le_refl _) (by unfold maxLen; omega) rfl), Lib.hid ((Below.refl _ _).alloc (Nat.le_refl _) _)⟩
  case round =>
    obtain ⟨k, hk, rfl, HO, B⟩ := hrel
    have B3 := Lib.hid (B1.out.trans (B.out.mono hz1))
    obtain ⟨lt, x0, x0'⟩ := X.out.keep B3.out
    by_cases hlt : k < xs.length
    · have HA := Lib.hid (H.out.keep B3.out (Nat.le_refl _))
      have HC := Lib.hid (C1.out.keep B.out (Nat.le_refl _))
      have RKL := Lib.hid (show rk xs k < xs.length + 1 from Nat.lt_succ_of_le (rk_le xs k))
      go_wp2_with fail
      refine (l05Depth_any xs a a1 cap k1 h8 HR.out _ k hlt RKL.out _ HA.out HC.out).mono ?_
      rintro e w2 ⟨rfl, hb⟩
      have B2 := Lib.hid (B.out.trans (hb.mono B.out.size))
      have O2 := Lib.hid (HO.out.keep hb (Nat.le_refl _))
      have hz2 := B2.out.size
      have hln := dpTo_len xs k
      have hl8 : (dpTo xs k).length ≤ 8 := by omega
      clear hb x0 x0' hln
      go_wp2_with (at_builtin; refine list_app1 rfl _ _ rfl w1.heap.size _ (dpTo xs k).length _ rfl (show World.ownsRow _ _ _ 1 _ (dpTo xs k).length _ from World.ownsRow.alloc O2.out _) ⟨w2.heap.size, 0, none⟩ 1 _ rfl (World.cell?_alloc_at _ _ _ _ rfl) (by omega) (by simp; omega) ?_; intro v' w1' hown1 hgr1)
      have hbel := Lib.hid (below_app B2.out ((Below.refl _ _).alloc hz2 _) hz2 O2.out hgr1)
      clear hgr1
      go_roundw
      case rel => exact ⟨k + 1, hlt, by go_num, Lib.hid (own_app rfl hown1), hbel⟩
      case measure => simp [intOf]; omega
    · obtain rfl : k = xs.length := by omega
      go_wp2
      go_ret
      exact ⟨_, rfl, Own.mono (B := w1.heap.size) (by have q := HO.out; rw [dpTo_tab] at q; exact q) (by omega), HB.out.trans (B3.out.mono HB.out.size)⟩

set_option maxHeartbeats 400000 in
theorem specDepthsOfWorlds_any (n : Int) (xs : List Int) (a : Option Addr) (len cap : Nat) (w : World) (hl : len ≤ 1048576) (h : At w a len xs) :
    Calls Try.prog 38 #[.agg #[.int .i64 n, .slice a len cap]] w fun e w' => ∃ v, e = .returned (.tuple #[v, .int .i64 (rtC n xs)]) ∧ Own w' w.heap.size v (outL (rtC n xs) (dpL xs)) ∧ Below w.heap.size w w' := by
  have HB := Lib.hid (boxF (w := w) n a len cap)
  have H := Lib.hid (h.keep HB.out (Nat.le_refl _))
  obtain rfl := h.1
  clear h
  cases h0 : frB n xs
  · have C := Lib.hid h0
    have E := Lib.hid (ff_bad h0)
    clear h0
    go_enter Try.func38, Try.ntmps38
    go_wp2_with fail
    refine (l05Is_any n xs _ _ _ _ hl H.out).mono ?_
    rw [C.out]
    rintro e w1 ⟨rfl, hb1⟩
    have B1 := Lib.hid (HB.out.trans (hb1.mono HB.out.size))
    clear hb1
    go_wp2
    go_ret2
    exact ⟨_, by rw [E.out]; rfl, Own.nil (by rw [E.out]; decide), B1.out⟩
  · obtain ⟨rfl, h8, -, hr⟩ := frB_ok h0
    have HR := Lib.hid hr
    have C := Lib.hid h0
    have E := Lib.hid (ff_ok h0)
    clear hr h0
    go_enter Try.func38, Try.ntmps38
    go_wp2_with fail
    refine (l05Is_any xs.length xs _ _ _ _ hl H.out).mono ?_
    rw [C.out]
    rintro e w1 ⟨rfl, hb1⟩
    have B1 := Lib.hid (HB.out.trans (hb1.mono HB.out.size))
    have H1 := Lib.hid (H.out.keep hb1 (Nat.le_refl _))
    obtain ⟨lt0, c0, c1⟩ := bx1 hb1
    clear hb1
    go_wp2_with fail
    clear c0 c1
    refine (l05Depths_any xs a cap _ h8 HR.out H1.out).mono ?_
    rintro e w2 ⟨v2, rfl, ho, hb2⟩
    have O2 := Lib.hid (ho.mono B1.out.size)
    have B2 := Lib.hid (B1.out.trans (hb2.mono B1.out.size))
    clear ho hb2
    go_wp2
    go_ret2
    exact ⟨_, out_ok E.out, Own.ok E.out O2.out, B2.out⟩

theorem DepthsOfWorlds_len (n : Int) (xs : List Int) : (outL (rtC n xs) (dpL xs)).length ≤ 1048576 := by
  cases h : frB n xs
  · rw [ff_bad h]; simp [outL]
  · obtain ⟨-, h8, -, -⟩ := frB_ok h
    unfold outL
    split
    · rw [dpL_len]; omega
    · simp
theorem specDepthsOfWorlds_v (n : Int) (xs : List Int) (v : Value) (lo hi : Nat) (w : World) (hl : xs.length ≤ 1048576) (h : InF w lo hi v n xs) :
    Calls Try.prog 38 #[v] w fun e w' => ∃ v, e = .returned (.tuple #[v, .int .i64 (rtC n xs)]) ∧ Own w' w.heap.size v (outL (rtC n xs) (dpL xs)) ∧ Below w.heap.size w w' := by
  obtain ⟨a, cap, rfl, hat, -⟩ := h.at
  exact specDepthsOfWorlds_any n xs a _ cap w hl hat
theorem implDepthsOfWorlds_v (n : Int) (xs : List Int) (v : Value) (lo hi : Nat) (w : World) (hl : xs.length ≤ 1048576) (h : InF w lo hi v n xs) :
    Calls Try.prog 39 #[v] w fun e w' => ∃ v, e = .returned (.tuple #[v, .int .i64 (rtC n xs)]) ∧ Own w' w.heap.size v (outL (rtC n xs) (dpL xs)) ∧ Below w.heap.size w w' := by
  obtain ⟨a, cap, rfl, hat, -⟩ := h.at
  exact implDepthsOfWorlds_any n xs a _ cap w hl hat

end Go.Proofs.Ytkpbcpkapjnchaa
