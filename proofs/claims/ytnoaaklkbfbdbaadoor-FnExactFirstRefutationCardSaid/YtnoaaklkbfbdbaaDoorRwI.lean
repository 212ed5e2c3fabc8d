/- Contracts of what makes the program's models of a frame, and of the errors of such a search. Conditions: those in the theorems. -/
import Derived.Test.YtnoaaklkbfbdbaaDoorVlI
import Derived.Test.YtnoaaklkbfbdbaaDoorAreF
namespace Go.Proofs.YtnoaaklkbfbdbaaDoor
open Go.RowKit

set_option maxHeartbeats 1000000 in
theorem modelsOn_any (n : Nat) (a : Option Addr) (len cap : Nat) (p : Option Addr) (l c : Nat) (vs : List Int) (w : World) (_ : vs.length ≤ 6)
    (VI : ∀ w1, Below w.heap.size w w1 → Calls Tryd.prog 42 #[.slice p l c] w1 fun e w' => ∃ v, e = .returned v ∧ Own w' w1.heap.size v vs ∧ Below w1.heap.size w1 w') :
    Calls Tryd.prog 28 #[.agg #[.int .i64 n, .slice a len cap], .slice p l c] w fun e w' => ∃ bc bf bv av cv, e = .returned (.func (.func 43) #[] #[.pointer (some ⟨bc, 0, none⟩), .pointer (some ⟨bf, 0, none⟩), .pointer (some ⟨bv, 0, none⟩)]) ∧
      It w' bc bf bv n a len cap av cv vs ∧ w.heap.size ≤ bc ∧ w.heap.size ≤ bf ∧ w.heap.size ≤ bv ∧ (0 < vs.length → ∀ q, av = some q → w.heap.size ≤ q.block) ∧ Below w.heap.size w w' := by
  obtain ⟨W, hW, hb, hx, hWs⟩ : ∃ W : World, W = w.alloc (.cells #[.int .i64 n, .slice a len cap] 30) ∧ Below w.heap.size w W ∧ Bx W w.heap.size n a len cap ∧ W.heap.size = w.heap.size + 1 := ⟨_, rfl, (alloc_keep _ _).1, Bx.new _ _ _ _ _ _, by simp⟩
  have VW := Lib.hid (VI W hb)
  have HB := Lib.hid hb
  have X := Lib.hid hx
  have HW := Lib.hid hW
  have HS := Lib.hid hWs
  clear VI hb hx hW hWs
  go_enter Tryd.func28, Tryd.ntmps28
  go_wp2_with fail
  rw [← HW.out]
  refine VW.out.mono ?_
  rintro e w1 ⟨v, rfl, ho, hb⟩
  obtain ⟨av, cv, rfl, hat, -, -, hbk⟩ := ho.at
  have A := Lib.hid hat
  have BK := Lib.hid hbk
  have T := Lib.hid hb
  obtain ⟨V, hV, bV, cV, sV⟩ : ∃ V, V = (w1.alloc (.cells #[.slice av vs.length cv] 22)).alloc (.cells #[.int .i64 vs.length] 2) ∧ Below w1.heap.size w1 V ∧ (V.cell? ⟨w1.heap.size, 0, none⟩ = some (.slice av vs.length cv) ∧ V.cell? ⟨w1.heap.size + 1, 0, none⟩ = some (.int .i64 vs.length)) ∧ V.heap.size = w1.heap.size + 1 + 1 := by
    refine ⟨_, rfl, ((Below.refl _ _).alloc (Nat.le_refl _) _).alloc (by simp) _, ⟨?_, World.cell?_alloc_at _ _ _ _ (by simp)⟩, by simp⟩
    rw [(alloc_keep (w1.alloc (.cells #[.slice av vs.length cv] 22)) (.cells #[.int .i64 vs.length] 2)).1.cell (p := ⟨w1.heap.size, 0, none⟩) (by simp)]
    exact World.cell?_alloc_at _ _ _ _ rfl
  have HV := Lib.hid hV
  have BV := Lib.hid bV
  have CV := Lib.hid cV
  have hs1 : w.heap.size + 1 ≤ w1.heap.size := by have := hb.size; have := HS.out; omega
  clear ho hat hbk hb hV bV cV
  go_wp2
  go_ret
  rw [← HV.out]
  have TV := T.out.trans (BV.out.mono T.out.size)
  exact ⟨_, _, _, _, _, rfl, ⟨CV.out.2, X.out.keep TV, CV.out.1, A.out.keep BV.out (Nat.le_refl _)⟩, by omega, Nat.le_refl _, by omega, fun _ q hq => by have := (BK.out q hq).1; have := HS.out; omega, HB.out.trans (TV.mono HB.out.size)⟩

/-- The error of a frame and formulas: whether all are ones, and how many variables they have. -/
def csC (n : Int) (xs : List Int) (ok : Bool) (c : Nat) : Int := if frB n xs && ok then (if 16 < n * c then 3 else 0) else 1

set_option maxHeartbeats 2000000 in
theorem checkSearch_any (n : Int) (xs : List Int) (a : Option Addr) (cap : Nat) (p : Option Addr) (l c : Nat) (ok : Bool) (vs : List Int) (w : World) (hl : xs.length ≤ 1048576) (hv6 : ok = true → vs.length ≤ 6) (h : At w a xs.length xs)
    (AF : ∀ w1, Below w.heap.size w w1 → Calls Tryd.prog 41 #[.slice p l c] w1 fun e w' => e = .returned (.bool ok) ∧ Below w1.heap.size w1 w')
    (VI : ok = true → ∀ w1, Below w.heap.size w w1 → Calls Tryd.prog 42 #[.slice p l c] w1 fun e w' => ∃ v, e = .returned v ∧ Own w' w1.heap.size v vs ∧ Below w1.heap.size w1 w') :
    Calls Tryd.prog 27 #[.agg #[.int .i64 n, .slice a xs.length cap], .slice p l c] w fun e w' => e = .returned (.int .i64 (csC n xs ok vs.length)) ∧ Below w.heap.size w w' := by
  obtain ⟨W, hW, hb, hx, hWs⟩ : ∃ W : World, W = w.alloc (.cells #[.int .i64 n, .slice a xs.length cap] 30) ∧ Below w.heap.size w W ∧ Bx W w.heap.size n a xs.length cap ∧ W.heap.size = w.heap.size + 1 := ⟨_, rfl, (alloc_keep _ _).1, Bx.new _ _ _ _ _ _, by simp⟩
  have IS := Lib.hid (implIsFrame_any n xs a xs.length cap W hl (h.keep hb (Nat.le_refl _)))
  have HB := Lib.hid hb
  have X := Lib.hid hx
  have HW := Lib.hid hW
  have AFF := Lib.hid AF
  clear hb hW hWs h AF
  obtain ⟨lt0, x0, x1⟩ := hx
  cases hf : frB n xs
  · have F := Lib.hid hf
    have C := Lib.hid (show csC n xs ok vs.length = 1 by rw [csC, hf]; rfl)
    clear hf
    go_enter Tryd.func27, Tryd.ntmps27
    go_wp2_with fail
    rw [← HW.out]
    refine IS.out.mono ?_
    rw [F.out]
    rintro e w1 ⟨rfl, hb⟩
    have T := Lib.hid (HB.out.trans (hb.mono HB.out.size))
    clear hb x0 x1
    go_wp2
    go_ret
    exact ⟨ret_int C.out.symm, T.out⟩
  · cases ok
    · have F := Lib.hid hf
      have C := Lib.hid (show csC n xs false vs.length = 1 by rw [csC, hf]; rfl)
      clear hf
      go_enter Tryd.func27, Tryd.ntmps27
      go_wp2_with fail
      rw [← HW.out]
      refine IS.out.mono ?_
      rw [F.out]
      rintro e w1 ⟨rfl, hb⟩
      have T := Lib.hid (HB.out.trans (hb.mono HB.out.size))
      clear hb x0 x1
      go_wp2_with fail
      refine (AFF.out _ T.out).mono ?_
      rintro e w2 ⟨rfl, hb⟩
      have T2 := Lib.hid (T.out.trans (hb.mono T.out.size))
      clear hb
      go_wp2
      go_ret
      exact ⟨ret_int C.out.symm, T2.out⟩
    · obtain ⟨hn, h8, -, -⟩ := frB_ok hf
      have v6 := hv6 rfl
      have VII := Lib.hid (fun w' hw => VI rfl w' hw)
      clear VI hv6
      have F := Lib.hid hf
      obtain ⟨k, hk⟩ : ∃ k : Nat, k = vs.length := ⟨_, rfl⟩
      obtain ⟨m, hm⟩ : ∃ m : Nat, m = xs.length * vs.length := ⟨_, rfl⟩
      have hmm : n * (k : Int) = (m : Int) := by rw [hk, hn, hm]; simp
      have hm48 : m ≤ 48 := by rw [hm]; exact Nat.mul_le_mul (show xs.length ≤ 8 by omega) (show vs.length ≤ 6 by omega)
      have CS := Lib.hid (show csC n xs true vs.length = if 16 < (m : Int) then 3 else 0 by rw [csC, hf, ← hk, hmm]; rfl)
      have KK := Lib.hid hk
      have hwm : IntKind.i64.wrap (m : Int) = (m : Int) := by rw [IntKind.wrap_i64]; omega
      have hn0 : 0 ≤ n := by omega
      have hn1 : n ≤ 8 := by omega
      clear hf hn hk hm
      by_cases h16 : 16 < (m : Int)
      all_goals
        have C := Lib.hid (show csC n xs true vs.length = _ from CS.out.trans (by first | exact if_pos h16 | exact if_neg h16))
        go_enter Tryd.func27, Tryd.ntmps27
        go_wp2_with fail
        rw [← HW.out]
        refine IS.out.mono ?_
        rw [F.out]
        rintro e w1 ⟨rfl, hb⟩
        have T := Lib.hid (HB.out.trans (hb.mono HB.out.size))
        have TW := Lib.hid hb
        clear hb x0 x1
        go_wp2_with fail
        refine (AFF.out _ T.out).mono ?_
        rintro e w2 ⟨rfl, hb⟩
        have T2 := Lib.hid (T.out.trans (hb.mono T.out.size))
        have TW2 := Lib.hid (TW.out.trans (hb.mono TW.out.size))
        clear hb
        obtain ⟨lt0, x0, x1⟩ := (show Bx W w.heap.size n a xs.length cap from by rw [HW.out]; exact Bx.new _ _ _ _ _ _).keep TW2.out
        go_wp2
        go_region_with (go_at_call 42; refine (VII.out _ (by first | exact T2.out | exact T2.out.drew)).mono ?_; rintro e w3 ⟨v3, rfl, ho, hb3⟩; obtain ⟨a3, k3, e3, -⟩ := ho.at; rw [← KK.out] at e3; subst e3; have T3 := Lib.hid (T2.out.trans ((below_of_drew hb3).mono T2.out.size)); have T33 := Lib.hid (TW2.out.trans ((below_of_drew hb3).mono TW2.out.size)); clear ho hb3; obtain ⟨lz, z0, z1⟩ := (show Bx W w.heap.size n a xs.length cap from by rw [HW.out]; exact Bx.new _ _ _ _ _ _).keep T33.out)
        all_goals
          go_wp2
          go_ret
          exact ⟨ret_int C.out.symm, T3.out⟩

end Go.Proofs.YtnoaaklkbfbdbaaDoor
