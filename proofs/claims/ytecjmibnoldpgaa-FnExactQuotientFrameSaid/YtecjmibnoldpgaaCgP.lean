/- Contracts of the program's functions over congruences, and of IsCongruence of both. Conditions: those in the theorems. -/
import Derived.Test.YtecjmibnoldpgaaCgS
import Derived.Test.YtecjmibnoldpgaaMrP
import Derived.Test.YtecjmibnoldpgaaQuF
import Derived.Test.YtecjmibnoldpgaaNuN
import Derived.Test.YtecjmibnoldpgaaEqP
namespace Go.Proofs.Ytecjmibnoldpgaa
open Go.RowKit

def WfL (ls : List Int) : Prop := ∀ j, (Lit.int .i64 (nth ls j)).wf = true
theorem wf_of_row {w : World} {a : Option Addr} {len cap : Nat} {zs : List Int} (h : IsRow .i64 w a len cap zs) : WfL (zs.take len) := fun j => by
  by_cases hj : j < (zs.take len).length
  · have e : nth (zs.take len) j = (zs.take len)[j] := by show ((zs.take len)[j]?).getD 0 = _; rw [List.getElem?_eq_getElem hj]; rfl
    rw [e]
    rcases h with ⟨-, -, -, rfl⟩ | ⟨-, -, -, -, -, -, hw⟩
    · simp at hj
    · exact hw _ (List.mem_of_mem_take (List.getElem_mem hj))
  · rw [nth_high (by omega)]; rfl

set_option maxHeartbeats 1000000 in
theorem isNumbered_any (ls : List Int) (al : Option Addr) (cl : Nat) (w : World) (hll : ls.length ≤ 4096) (hw : WfL ls) (hL : At w al ls.length ls) :
    Calls Try.prog 86 #[.slice al ls.length cl] w fun e w' => e = .returned (.bool (nmB ls)) ∧ Below w.heap.size w w' := by
  have NU := Lib.hid (numN_any ls al cl w hll (fun j _ => hw j) hL)
  have H := Lib.hid hL
  clear hL hw
  go_enter Try.func86, Try.ntmps86
  go_wp2_with fail
  refine NU.out.mono ?_
  rintro e w1 ⟨v, rfl, ho, hb⟩
  obtain ⟨a1, k1, e1, hat1, -⟩ := ho.at
  rw [tab_len] at e1 hat1
  subst e1
  have A1 := Lib.hid hat1
  have T1 := Lib.hid hb
  clear ho hb hat1
  go_wp2_with fail
  refine (slEqualP_any _ ls _ _ _ _ _ _ _ (by omega) (by omega) A1.out (H.out.keep T1.out (Nat.le_refl _))).mono ?_
  rintro e w2 ⟨rfl, hb⟩
  have T2 := Lib.hid (T1.out.trans (hb.mono T1.out.size))
  clear hb
  go_wp2
  go_ret
  exact ⟨rfl, T2.out⟩

/-- The quotient, where the list's length is told by another number. -/
theorem fquo_l {cs xs : List Int} {n m k : Nat} (e : k = n) (a : Option Addr) (cap : Nat) (ac : Option Addr) (cc : Nat) (w : World) (hq : Cq cs k m) (hn : n ≤ 8) (hx : ∀ i, InMk n (nth xs i)) (h : At w a n xs) (h' : At w ac k cs) :
    Calls Try.prog 63 #[.agg #[.int .i64 n, .slice a n cap], .slice ac k cc] w fun e w' => ∃ v, e = .returned v ∧ OwnF w' w.heap.size v m (tab m (qaF cs xs k k)) ∧ Below w.heap.size w w' := by
  subst e
  exact fquo_any cs xs k m a cap ac cc w hq hn hx h h'

set_option maxHeartbeats 4000000 in
set_option maxRecDepth 100000 in
theorem isCongruence_any (n : Int) (xs ls : List Int) (a : Option Addr) (cap : Nat) (al : Option Addr) (cl : Nat) (w : World) (hf : frB n xs = true) (hll : ls.length ≤ 1048576) (hw : WfL ls) (h : At w a xs.length xs) (hL : At w al ls.length ls) :
    Calls Try.prog 61 #[.agg #[.int .i64 n, .slice a xs.length cap], .slice al ls.length cl] w fun e w' => e = .returned (.bool (cgK n xs ls)) ∧ Below w.heap.size w w' := by
  obtain ⟨W, hW, HB, X, hWs⟩ : ∃ W : World, W = w.alloc (.cells #[.int .i64 n, .slice a xs.length cap] 28) ∧ Hid (Below w.heap.size w W) ∧ Hid (Bx W w.heap.size n a xs.length cap) ∧ Hid (W.heap.size = w.heap.size + 1) := ⟨_, rfl, Lib.hid (alloc_keep _ _).1, Lib.hid (Bx.new _ _ _ _ _ _), Lib.hid (by simp)⟩
  have H := Lib.hid (h.keep HB.out (Nat.le_refl _))
  have HL := Lib.hid (hL.keep HB.out (Nat.le_refl _))
  have HW := Lib.hid hW
  obtain ⟨hn, x8, -, hr⟩ := frB_ok hf
  have WF := Lib.hid hw
  clear h hL hW hf hw
  subst hn
  obtain ⟨lt, x0, x1⟩ := X.out
  by_cases hx : (ls.length : Int) = (xs.length : Int)
  · have q1 : ((ls.length : Int) == (xs.length : Int)) = true := by simpa using hx
    have q2 : ((ls.length : Int) != (xs.length : Int)) = false := by simpa using hx
    have HX := Lib.hid (show ls.length = xs.length by omega)
    have l8 : ls.length ≤ 8 := by omega
    have NM := Lib.hid (isNumbered_any ls al cl W (by omega) WF.out HL.out)
    clear hx
    cases hnm : nmB ls
    · have F := Lib.hid hnm
      have C := Lib.hid (show cgK xs.length xs ls = false by rw [cgK, odB, hnm, Bool.and_false]; rfl)
      clear hnm
      go_enter Try.func61, Try.ntmps61
      go_wp2_with fail
      rw [← HW.out]
      refine NM.out.mono ?_
      rw [F.out]
      rintro e w1 ⟨rfl, hb⟩
      have T1 := Lib.hid hb
      clear hb lt x0 x1
      go_wp2
      go_ret
      exact ⟨ret_bool C.out.symm, HB.out.trans (T1.out.mono HB.out.size)⟩
    · have F := Lib.hid hnm
      have hq := nm_cq hnm
      obtain ⟨m, hm⟩ : ∃ m, m = (stF (lbI ls) ls.length).1 := ⟨_, rfl⟩
      rw [← hm] at hq
      have Q := Lib.hid hq
      have C := Lib.hid (show cgK xs.length xs ls = mrB xs (tab m (qaF ls xs ls.length ls.length)) ls ls.length by
        rw [cgK, odB, hnm, decide_eq_true (by have := HX.out; omega), hq.mr_cg (by omega) (fun i => by rw [HX.out]; exact hr i)]; rfl)
      have QF := Lib.hid (fun w' (hw : Below W.heap.size W w') => fquo_l (cs := ls) (xs := xs) (n := xs.length) (m := m) HX.out a cap al cl w' hq x8 hr (H.out.keep hw (Nat.le_refl _)) (HL.out.keep hw (Nat.le_refl _)))
      have MO := Lib.hid (fun w' a1 c1 (h0 : At w' a xs.length xs) (h1 : At w' a1 m (tab m (qaF ls xs ls.length ls.length))) (h2 : At w' al ls.length ls) => isMorphism_any xs.length m xs (tab m (qaF ls xs ls.length ls.length)) ls a cap a1 c1 al cl w' HX.out (by omega) (fun i hi => ⟨(nth ls i).toNat, by have := hq.bd i hi; rw [tab_len]; omega, by have := hq.bd i hi; omega⟩) (fun i => ⟨(hq.b30 i).1, by have := (hq.b30 i).2; have := hq.mn; omega⟩) h0 (by rw [tab_len]; exact h1) h2)
      have TL := Lib.hid (show (tab m (qaF ls xs ls.length ls.length)).length = m from tab_len _ _)
      clear hnm hq hm hr
      rw [TL.out] at MO
      go_enter Try.func61, Try.ntmps61
      go_wp2_with fail
      rw [← HW.out]
      refine NM.out.mono ?_
      rw [F.out]
      rintro e w1 ⟨rfl, hb⟩
      have T1 := Lib.hid hb
      clear hb lt x0 x1 q1 q2
      obtain ⟨lt, x0, x1⟩ := X.out.keep T1.out
      go_wp2
      go_region_with (first | (go_at_call 63; refine (QF.out _ (by first | exact T1.out | exact T1.out.drew)).mono ?_; rintro e w3 ⟨v3, rfl, ho, hb3⟩; obtain ⟨a3, k3, rfl⟩ := ho.form; rw [TL.out] at ho ⊢; have A3 := Lib.hid (show At w3 a3 m (tab m (qaF ls xs ls.length ls.length)) from by obtain ⟨a4, k4, e4, hat4, -⟩ := ho.2.at; rw [TL.out] at e4 hat4; cases e4; exact hat4); have T3 := Lib.hid (T1.out.trans ((below_of_drew hb3).mono T1.out.size)); clear ho hb3; obtain ⟨lz, z0, z1⟩ := X.out.keep T3.out) | (go_at_call 46; refine (MO.out _ _ _ (H.out.keep T3.out (Nat.le_refl _)) A3.out (HL.out.keep T3.out (Nat.le_refl _))).mono ?_; rintro e w4 ⟨rfl, hb4⟩))
      all_goals
        have T4 := Lib.hid (T3.out.trans (hb4.mono T3.out.size))
        clear hb4
        go_wp2
        go_ret
        exact ⟨ret_bool C.out.symm, HB.out.trans (T4.out.mono HB.out.size)⟩
  · have q1 : ((ls.length : Int) == (xs.length : Int)) = false := by simpa using hx
    have q2 : ((ls.length : Int) != (xs.length : Int)) = true := by simpa using hx
    have C := Lib.hid (show cgK xs.length xs ls = false by rw [cgK, odB_no hx]; rfl)
    clear hx
    go_enter Try.func61, Try.ntmps61
    go_wp2
    rw [← HW.out]
    go_ret
    exact ⟨ret_bool C.out.symm, HB.out⟩

/-! IsCongruence -/
def fcC (n : Int) (xs : List Int) : Int := if frB n xs then 0 else 1
noncomputable def icV (n : Int) (xs ls : List Int) : Bool := frB n xs && cgK n xs ls
theorem ic_bad {n : Int} {xs ls : List Int} (h : frB n xs = false) : Ending.returned (.tuple #[.bool false, .int .i64 1]) = .returned (.tuple #[.bool (icV n xs ls), .int .i64 (fcC n xs)]) := by rw [icV, fcC, h]; rfl
theorem ic_ok {n : Int} {xs ls : List Int} (h : frB n xs = true) : Ending.returned (.tuple #[.bool (cgK n xs ls), .int .i64 0]) = .returned (.tuple #[.bool (icV n xs ls), .int .i64 (fcC n xs)]) := by rw [icV, fcC, h]; rfl

set_option maxHeartbeats 1000000 in
theorem specIsCongruence_v (n : Int) (xs ls : List Int) (v : Value) (lo hi : Nat) (v1 : Value) (lo1 hi1 : Nat) (w : World) (hl : xs.length ≤ 1048576) (hll : ls.length ≤ 1048576) (h : InF w lo hi v n xs) (h1 : OwnIn w lo1 hi1 v1 ls) :
    Calls Try.prog 30 #[v, v1] w fun e w' => e = .returned (.tuple #[.bool (icV n xs ls), .int .i64 (fcC n xs)]) ∧ Below w.heap.size w w' := by
  obtain ⟨a, cap, rfl, hat, -⟩ := h.at
  obtain ⟨al, cl, rfl, hatl⟩ := own_lst h1
  obtain ⟨W, hW, HB, X, hWs⟩ : ∃ W : World, W = w.alloc (.cells #[.int .i64 n, .slice a xs.length cap] 28) ∧ Hid (Below w.heap.size w W) ∧ Hid (Bx W w.heap.size n a xs.length cap) ∧ Hid (W.heap.size = w.heap.size + 1) := ⟨_, rfl, Lib.hid (alloc_keep _ _).1, Lib.hid (Bx.new _ _ _ _ _ _), Lib.hid (by simp)⟩
  have H := Lib.hid (hat.keep HB.out (Nat.le_refl _))
  have HL := Lib.hid (hatl.keep HB.out (Nat.le_refl _))
  have HW := Lib.hid hW
  clear h h1 hat hatl hW
  obtain ⟨lt, x0, x1⟩ := X.out
  cases hf : frB n xs
  · have F := Lib.hid hf
    clear hf
    go_enter Try.func30, Try.ntmps30
    go_wp2_with fail
    rw [← HW.out]
    refine (l05Is_any n xs _ _ _ _ hl H.out).mono ?_
    rw [F.out]
    rintro e w1 ⟨rfl, hb⟩
    have T1 := Lib.hid hb
    clear hb lt x0 x1
    go_wp2
    go_ret2
    exact ⟨ic_bad F.out, HB.out.trans (T1.out.mono HB.out.size)⟩
  · have F := Lib.hid hf
    clear hf
    go_enter Try.func30, Try.ntmps30
    go_wp2_with fail
    rw [← HW.out]
    refine (l05Is_any n xs _ _ _ _ hl H.out).mono ?_
    rw [F.out]
    rintro e w1 ⟨rfl, hb⟩
    have T1 := Lib.hid hb
    clear hb lt x0 x1
    obtain ⟨lt, x0, x1⟩ := X.out.keep T1.out
    go_wp2_with fail
    clear lt x0 x1
    refine (l08Congruence_any n xs ls _ _ _ _ _ F.out hll (H.out.keep T1.out (Nat.le_refl _)) (HL.out.keep T1.out (Nat.le_refl _))).mono ?_
    rintro e w2 ⟨rfl, hb⟩
    have T2 := Lib.hid (T1.out.trans (hb.mono T1.out.size))
    clear hb
    go_wp2
    go_ret2
    exact ⟨ic_ok F.out, HB.out.trans (T2.out.mono HB.out.size)⟩

set_option maxHeartbeats 1000000 in
theorem implIsCongruence_v (n : Int) (xs ls : List Int) (v : Value) (lo hi : Nat) (v1 : Value) (lo1 hi1 : Nat) (w : World) (hl : xs.length ≤ 1048576) (hll : ls.length ≤ 1048576) (h : InF w lo hi v n xs) (h1 : OwnIn w lo1 hi1 v1 ls) (hwf : WfL ls) :
    Calls Try.prog 31 #[v, v1] w fun e w' => e = .returned (.tuple #[.bool (icV n xs ls), .int .i64 (fcC n xs)]) ∧ Below w.heap.size w w' := by
  obtain ⟨a, cap, rfl, hat, -⟩ := h.at
  obtain ⟨al, cl, rfl, hatl⟩ := own_lst h1
  obtain ⟨W, hW, HB, X, hWs⟩ : ∃ W : World, W = w.alloc (.cells #[.int .i64 n, .slice a xs.length cap] 28) ∧ Hid (Below w.heap.size w W) ∧ Hid (Bx W w.heap.size n a xs.length cap) ∧ Hid (W.heap.size = w.heap.size + 1) := ⟨_, rfl, Lib.hid (alloc_keep _ _).1, Lib.hid (Bx.new _ _ _ _ _ _), Lib.hid (by simp)⟩
  have H := Lib.hid (hat.keep HB.out (Nat.le_refl _))
  have HL := Lib.hid (hatl.keep HB.out (Nat.le_refl _))
  have HW := Lib.hid hW
  have WF := Lib.hid hwf
  clear h h1 hat hatl hW hwf
  obtain ⟨lt, x0, x1⟩ := X.out
  cases hf : frB n xs
  · have F := Lib.hid hf
    clear hf
    go_enter Try.func31, Try.ntmps31
    go_wp2_with fail
    rw [← HW.out]
    refine (implIsFrame_any n xs _ _ _ _ hl H.out).mono ?_
    rw [F.out]
    rintro e w1 ⟨rfl, hb⟩
    have T1 := Lib.hid hb
    clear hb lt x0 x1
    go_wp2
    go_ret2
    exact ⟨ic_bad F.out, HB.out.trans (T1.out.mono HB.out.size)⟩
  · have F := Lib.hid hf
    clear hf
    go_enter Try.func31, Try.ntmps31
    go_wp2_with fail
    rw [← HW.out]
    refine (implIsFrame_any n xs _ _ _ _ hl H.out).mono ?_
    rw [F.out]
    rintro e w1 ⟨rfl, hb⟩
    have T1 := Lib.hid hb
    clear hb lt x0 x1
    obtain ⟨lt, x0, x1⟩ := X.out.keep T1.out
    go_wp2_with fail
    clear lt x0 x1
    refine (isCongruence_any n xs ls _ _ _ _ _ F.out hll WF.out (H.out.keep T1.out (Nat.le_refl _)) (HL.out.keep T1.out (Nat.le_refl _))).mono ?_
    rintro e w2 ⟨rfl, hb⟩
    have T2 := Lib.hid (T1.out.trans (hb.mono T1.out.size))
    clear hb
    go_wp2
    go_ret2
    exact ⟨ic_ok F.out, HB.out.trans (T2.out.mono HB.out.size)⟩

end Go.Proofs.Ytecjmibnoldpgaa
