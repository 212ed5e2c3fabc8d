/- The draw of DrawClustersOf, and contracts of the laws' functions that look at masks. Conditions: those in the theorems. -/
import Derived.Test.YtckilaeolkgnkaaDcf
namespace Go.Proofs.Ytckilaeolkgnkaa
open Go.RowKit

theorem At_of_OwnF {w : World} {B : Nat} {v : Value} {n : Int} {xs : List Int} (h : OwnF w B v n xs) : ∃ a cap, v = .agg #[.int .i64 n, .slice a xs.length cap] ∧ At w a xs.length xs ∧ (a = none → cap = 0) := by
  obtain ⟨a, cap, e, hat, -, hn, -⟩ := h.2.at
  exact ⟨a, cap, by rw [h.1, e], hat, hn⟩
theorem fullN_any (n : Nat) (hn : n ≤ 30) (w : World) :
    Calls Try.prog 22 #[.int .i64 n] w fun e w' => e = .returned (.int .i64 (full n)) ∧ w = w' := by
  go_enter Try.func22, Try.ntmps22
  go_wp2
  go_ret
  exact ⟨rfl, rfl⟩

theorem bit9_any (m i : Int) (w : World) (hn2 : 0 ≤ i) (hi : i < 62) :
    Calls Try.prog 23 #[.int .i64 m, .int .i64 i] w fun e w' => e = .returned (.bool (bitB m i)) ∧ w = w' := by
  go_enter Try.func23, Try.ntmps23
  go_wp2
  go_ret
  exact ⟨rfl, rfl⟩
theorem bit9_is (m : Int) (i : Nat) (b : Bool) (w : World) (hi : i < 62) (hb : bitB m i = b) :
    Calls Try.prog 23 #[.int .i64 m, .int .i64 i] w fun e w' => e = .returned (.bool b) ∧ w = w' :=
  (bit9_any m i w (by omega) (by omega)).mono fun _ _ h => ⟨by rw [h.1, hb], h.2⟩

theorem likeInts_b (xs : List Int) (a a' : Option Addr) (cap cap' : Nat) (w : World) (hl : xs.length ≤ 1048576) (h : At w a xs.length xs) (h' : At w a' xs.length xs) :
    Calls Try.prog 18 #[.slice a xs.length cap, .slice a' xs.length cap'] w fun e w' => e = .returned (.bool true) ∧ Below w.heap.size w w' := by
  refine (likeInts_any xs xs a a' cap cap' w hl hl h h').mono ?_
  rintro e w' ⟨rfl, q, rfl⟩
  exact ⟨by rw [decide_eq_true rfl], below_drewN (Below.refl _ _) q⟩

set_option maxHeartbeats 4000000 in
set_option maxRecDepth 100000 in
theorem DrawClustersOf_any (a : Option Addr) (len cap : Nat) (w : World) (hc : Code w.heap.size w a len) :
    Calls Try.prog 17 #[.slice a len cap] w fun e w' => (∃ v n xs, e = .returned v ∧ OwnF w' w.heap.size v n xs ∧ xs.length ≤ 9) ∧ Below w.heap.size w w' := by
  obtain ⟨W, hW⟩ : ∃ W, W = w.alloc (.cells #[.int .i64 0, .slice none 0 0] 28) := ⟨_, rfl⟩
  have bW : Below w.heap.size w W := by rw [hW]; exact (alloc_keep _ _).1
  have hWs : W.heap.size = w.heap.size + 1 := by rw [hW]; simp
  have HC := Lib.hid ((hc.below bW).mono (show w.heap.size ≤ w.heap.size + 1 by omega))
  have FR := l01From_any a len cap W (by rw [hWs]; exact HC.out)
  rw [hWs] at FR
  have FR1 := Lib.hid FR
  have Z := Lib.hid (show Bz W w.heap.size by rw [hW]; exact Bz.new w)
  have BW := Lib.hid bW
  have HW := Lib.hid hW
  have hw1 : w.heap.size + 1 ≤ W.heap.size := by omega
  clear hc hW bW hWs FR
  go_enter Try.func17, Try.ntmps17
  go_wp2_with fail
  rw [← HW.out]
  refine FR1.out.mono ?_
  rintro e w1 ⟨rfl, hs1, hb1⟩
  have S1 := Lib.hid hs1
  have C1 := Lib.hid (HC.out.below hb1)
  have Z1 := Lib.hid (Z.out.below hb1 (by omega))
  have B1 := Lib.hid (BW.out.trans (hb1.mono (by omega)))
  have hz1 : w.heap.size + 1 ≤ w1.heap.size := by have := hb1.size; omega
  have hsl := hs1.lt
  have DR := l05Draw_any (w.heap.size + 1) a len cap 8 w1 (w.heap.size + 1) (Nat.le_refl _) hz1 (by omega) S1.out C1.out
  rw [show ((8 : Nat) : Int) = 8 from rfl] at DR
  have DW := Lib.hid DR
  clear hs1 hb1 DR
  go_wp2_with fail
  refine DW.out.mono ?_
  rintro e w2 ⟨⟨v2, n, xs, rfl, ho, hx9, -⟩, hs2, hg2⟩
  obtain ⟨a2, c2, rfl⟩ := ho.form
  have O2 := Lib.hid (ho.mono (show w.heap.size + 1 ≤ w1.heap.size from hz1))
  have B2 := Lib.hid (B1.out.grown hg2 B1.out.size (fun k e => by cases e; omega))
  obtain ⟨lt2, x0, x1, f0, f1⟩ := Z1.out.grown hg2 (by omega)
  clear ho hs2 hg2
  go_wp2
  exact bodyPost_ret (v := .agg #[.int .i64 n, .slice a2 xs.length c2]) (by simp [results, Try.results17, go_sem, x0, x1]) rfl ⟨⟨_, n, xs, rfl, ⟨rfl, ((O2.out.2.inn.setOut (.inl (by omega))).setOut (.inl (by omega))).1.mono (by omega)⟩, hx9⟩, (B2.out.setCell (by show _ ≤ _; simp) _).setCell (by show _ ≤ _; simp) _⟩

end Go.Proofs.Ytckilaeolkgnkaa
