/- Contracts of the model's list of flags and of FrameFlags of the model. Conditions: those in the theorems. -/
import Derived.Test.YtpedinmflhgcoaaFlA
import Derived.Test.YtpedinmflhgcoaaFlB
import Derived.Test.YtpedinmflhgcoaaFlC
import Derived.Test.YtpedinmflhgcoaaFlD
import Derived.Test.YtpedinmflhgcoaaRts
namespace Go.Proofs.Ytpedinmflhgcoaa
open Go.RowKit

theorem flag_any (f : Nat) (hf : f ≤ 10) (xs : List Int) (a : Option Addr) (cap : Nat) (w : World) (h8 : xs.length ≤ 8) (hr : Rel xs.length (nth xs)) (h : At w a xs.length xs) :
    Calls Try.prog 111 #[.agg #[.int .i64 xs.length, .slice a xs.length cap], .int .i64 f] w fun e w' => e = .returned (.bool (flB f xs)) ∧ Below w.heap.size w w' :=
  match f, hf with
  | 0, _ => flag0_any xs a cap w h8 hr h
  | 1, _ => flag1_any xs a cap w h8 hr h
  | 2, _ => flag2_any xs a cap w h8 hr h
  | 3, _ => flag3_any xs a cap w h8 hr h
  | 4, _ => flag4_any xs a cap w h8 hr h
  | 5, _ => flag5_any xs a cap w h8 hr h
  | 6, _ => flag6_any xs a cap w h8 hr h
  | 7, _ => flag7_any xs a cap w h8 hr h
  | 8, _ => flag8_any xs a cap w h8 hr h
  | 9, _ => flag9_any xs a cap w h8 hr h
  | 10, _ => flag10_any xs a cap w h8 hr h
  | n + 11, h => absurd h (by omega)

def flL (xs : List Int) : Nat → List Int
  | 0 => []
  | k + 1 => flL xs k ++ [if flB k xs then 1 else 0]
theorem flL_len (xs : List Int) (k : Nat) : (flL xs k).length = k := by induction k with | zero => rfl | succ k ih => simp [flL, ih]
theorem own_app {w : World} {B : Nat} {v : Value} {L M : List Int} {z : Int} (hL : M = L ++ [z]) (h : w.ownsRow B 2 1 v (L.length + 1) (L.map (Value.int .i64) ++ [.int .i64 z])) : Own w B v M := by
  subst hL
  unfold Own
  rw [List.map_append, List.length_append]
  exact h

set_option maxHeartbeats 1000000 in
theorem l05Flags_any (xs : List Int) (a : Option Addr) (cap : Nat) (w : World) (h8 : xs.length ≤ 8) (hr : Rel xs.length (nth xs)) (h : At w a xs.length xs) :
    Calls Try.prog 70 #[.agg #[.int .i64 xs.length, .slice a xs.length cap]] w fun e w' => ∃ v, e = .returned v ∧ Own w' w.heap.size v (flL xs 11) ∧ Below w.heap.size w w' := by
  have HB := Lib.hid (boxF (w := w) xs.length a xs.length cap)
  have X := Lib.hid (Bx.new w xs.length a xs.length cap 40)
  obtain ⟨W, hW⟩ : ∃ W, W = w.alloc (.cells #[.int .i64 xs.length, .slice a xs.length cap] 40) := ⟨_, rfl⟩
  rw [← hW] at HB X
  have hz : w.heap.size < W.heap.size := X.out.1
  have hWs : W.heap.size = w.heap.size + 1 := by rw [hW]; simp
  have HWs := Lib.hid hWs
  clear hWs
  have H := Lib.hid (h.keep HB.out (Nat.le_refl _))
  have HR := Lib.hid hr
  have HW := Lib.hid hW
  clear h hr hW
  go_enter Try.func70, Try.ntmps70
  go_wp2
  go_loopw [3, 4] (fun v i wr => ∃ k : Nat, k ≤ 11 ∧ i = .int .i64 k ∧ Hid (Own wr W.heap.size v (flL xs k)) ∧ Hid (Below W.heap.size W wr)) (fun _ i _ => 11 - (intOf i).toNat)
  case atStart =>
    rw [← HW.out]
    exact ⟨0, Nat.zero_le _, rfl, Lib.hid (by have q := World.ownsRow_lit (size := 1) (e := 2) W #[] 0 (Nat.le_refl _) (by unfold maxLen; omega) rfl; rw [HWs.out] at q ⊢; exact q), Lib.hid ((Below.refl _ _).alloc (Nat.le_refl _) _)⟩
  case round =>
    obtain ⟨k, hk, rfl, HO, B⟩ := hrel
    by_cases hlt : k ≤ 10
    · obtain ⟨lt, x0, x0'⟩ := X.out.keep B.out
      have HA := Lib.hid (H.out.keep B.out (Nat.le_refl _))
      cases hv : flB k xs
      all_goals
        have V := Lib.hid hv
        clear hv
        go_wp2_with fail
        refine (flag_any k hlt xs a cap _ h8 HR.out HA.out).mono ?_
        rw [V.out]
        rintro e w1 ⟨rfl, hb⟩
        have B1 := Lib.hid (B.out.trans (hb.mono B.out.size))
        have O1 := Lib.hid (HO.out.keep hb (Nat.le_refl _))
        have hz1 := B1.out.size
        have hln := flL_len xs k
        have hl11 : (flL xs k).length ≤ 11 := by omega
        clear hb x0 x0' hln
        go_wp2_with (at_builtin; refine list_app1 rfl _ _ rfl W.heap.size _ (flL xs k).length _ rfl (show World.ownsRow _ _ _ 1 _ (flL xs k).length _ from World.ownsRow.alloc O1.out _) ⟨w1.heap.size, 0, none⟩ 1 _ rfl (World.cell?_alloc_at _ _ _ _ rfl) (by omega) (by simp; omega) ?_; intro v' w1' hown1 hgr1)
        have hbel := Lib.hid (below_app B1.out ((Below.refl _ _).alloc hz1 _) hz1 O1.out hgr1)
        clear hgr1
        go_roundw
        case rel => exact ⟨k + 1, by omega, by go_num, Lib.hid (own_app (by rw [flL, V.out]; rfl) hown1), hbel⟩
        case measure => simp [intOf]; omega
    · obtain rfl : k = 11 := by omega
      go_wp2
      go_ret
      exact ⟨_, rfl, HO.out.mono (Nat.le_of_lt hz), HB.out.trans (B.out.mono HB.out.size)⟩

theorem ff_ok {n : Int} {xs : List Int} (h : frB n xs = true) : rtC n xs = 0 := by rw [rtC, h]; rfl
theorem ff_bad {n : Int} {xs : List Int} (h : frB n xs = false) : rtC n xs = 1 := by rw [rtC, h]; rfl

set_option maxHeartbeats 400000 in
theorem specFrameFlags_any (n : Int) (xs : List Int) (a : Option Addr) (len cap : Nat) (w : World) (hl : len ≤ 1048576) (h : At w a len xs) :
    Calls Try.prog 26 #[.agg #[.int .i64 n, .slice a len cap]] w fun e w' => ∃ v, e = .returned (.tuple #[v, .int .i64 (rtC n xs)]) ∧ Own w' w.heap.size v (outL (rtC n xs) (flL xs 11)) ∧ Below w.heap.size w w' := by
  have HB := Lib.hid (boxF (w := w) n a len cap)
  have H := Lib.hid (h.keep HB.out (Nat.le_refl _))
  obtain rfl := h.1
  clear h
  cases h0 : frB n xs
  · have C := Lib.hid h0
    have E := Lib.hid (ff_bad h0)
    clear h0
    go_enter Try.func26, Try.ntmps26
    go_wp2_with fail
    refine (l05Is_any n xs _ _ _ _ hl H.out).mono ?_
    rw [C.out]
    rintro e w1 ⟨rfl, hb1⟩
    have B1 := Lib.hid (HB.out.trans (hb1.mono HB.out.size))
    clear hb1
    go_wp2
    go_ret2
    exact ⟨_, by rw [E.out]; rfl, Own.nil (by rw [E.out]; decide), B1.out⟩
  · obtain ⟨rfl, h8, -, hr⟩ := frB_ok h0
    have HR := Lib.hid hr
    have C := Lib.hid h0
    have E := Lib.hid (ff_ok h0)
    clear hr h0
    go_enter Try.func26, Try.ntmps26
    go_wp2_with fail
    refine (l05Is_any xs.length xs _ _ _ _ hl H.out).mono ?_
    rw [C.out]
    rintro e w1 ⟨rfl, hb1⟩
    have B1 := Lib.hid (HB.out.trans (hb1.mono HB.out.size))
    have H1 := Lib.hid (H.out.keep hb1 (Nat.le_refl _))
    obtain ⟨lt0, c0, c1⟩ := bx1 hb1
    clear hb1
    go_wp2_with fail
    clear c0 c1
    refine (l05Flags_any xs a cap _ h8 HR.out H1.out).mono ?_
    rintro e w2 ⟨v2, rfl, ho, hb2⟩
    have O2 := Lib.hid (ho.mono B1.out.size)
    have B2 := Lib.hid (B1.out.trans (hb2.mono B1.out.size))
    clear ho hb2
    go_wp2
    go_ret2
    exact ⟨_, out_ok E.out, Own.ok E.out O2.out, B2.out⟩

end Go.Proofs.Ytpedinmflhgcoaa
