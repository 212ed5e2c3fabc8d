/- Contracts of ThenMorphisms of the model and of the program, told by values. Conditions: those in the theorems. -/
import Derived.Test.YtomldealpmohhaaMrP
import Derived.Test.YtomldealpmohhaaUp
namespace Go.Proofs.Ytomldealpmohhaa
open Go.RowKit

theorem boxT3 (w : World) (n0 : Int) (a0 : Option Addr) (l0 c0 : Nat) (n1 : Int) (a1 : Option Addr) (l1 c1 : Nat) (n2 : Int) (a2 : Option Addr) (l2 c2 : Nat) : ∃ W : World, W = ((w.alloc (.cells #[.int .i64 n0, .slice a0 l0 c0] 32)).alloc (.cells #[.int .i64 n1, .slice a1 l1 c1] 32)).alloc (.cells #[.int .i64 n2, .slice a2 l2 c2] 32) ∧
    Hid (Below w.heap.size w W) ∧ Hid (Bx W w.heap.size n0 a0 l0 c0) ∧ Hid (Bx W (w.heap.size + 1) n1 a1 l1 c1) ∧ Hid (Bx W (w.heap.size + 1 + 1) n2 a2 l2 c2) ∧ Hid (W.heap.size = w.heap.size + 1 + 1 + 1) := by
  obtain ⟨V, hV, HB, X0, X1, hs⟩ := boxTf w n0 a0 l0 c0 n1 a1 l1 c1
  refine ⟨V.alloc (.cells #[.int .i64 n2, .slice a2 l2 c2] 32), by rw [hV], Lib.hid (HB.out.trans ((alloc_keep _ _).1.mono HB.out.size)), Lib.hid (X0.out.keep (alloc_keep _ _).1), Lib.hid (X1.out.keep (alloc_keep _ _).1), ?_, Lib.hid (by simp [hs])⟩
  rw [← hs]
  exact Lib.hid (Bx.new V n2 a2 l2 c2 32)

def thK (n0 : Int) (xs : List Int) (n1 : Int) (ps : List Int) (n2 : Int) (qs fs ss : List Int) : Bool := imK n0 xs n1 ps fs && imK n1 ps n2 qs ss
def thC (n0 : Int) (xs : List Int) (n1 : Int) (ps : List Int) (n2 : Int) (qs fs ss : List Int) : Int := if thK n0 xs n1 ps n2 qs fs ss then (if mrB xs ps fs fs.length && mrB ps qs ss ss.length then 0 else 5) else 1
def thF (fs ss : List Int) (x : Nat) : Int := nth ss (nth fs x).toNat
def thL (n0 : Int) (xs : List Int) (n1 : Int) (ps : List Int) (n2 : Int) (qs fs ss : List Int) : List Int := if thC n0 xs n1 ps n2 qs fs ss = 0 then tab fs.length (thF fs ss) else []
theorem thC_1 {n0 n1 n2 : Int} {xs ps qs fs ss : List Int} (h : thK n0 xs n1 ps n2 qs fs ss = false) : thC n0 xs n1 ps n2 qs fs ss = 1 := by rw [thC, h]; rfl
theorem thC_5 {n0 n1 n2 : Int} {xs ps qs fs ss : List Int} (h : thK n0 xs n1 ps n2 qs fs ss = true) (h2 : (mrB xs ps fs fs.length && mrB ps qs ss ss.length) = false) : thC n0 xs n1 ps n2 qs fs ss = 5 := by rw [thC, h, h2]; rfl
theorem thC_0 {n0 n1 n2 : Int} {xs ps qs fs ss : List Int} (h : thK n0 xs n1 ps n2 qs fs ss = true) (h2 : (mrB xs ps fs fs.length && mrB ps qs ss ss.length) = true) : thC n0 xs n1 ps n2 qs fs ss = 0 := by rw [thC, h, h2]; rfl
/-- What is answered: a list of the call's own and an error. -/
def RL (w : World) (B : Nat) (c : Int) (xs : List Int) (e : Ending) : Prop := ∃ v, e = .returned (.tuple #[v, .int .i64 c]) ∧ Own w B v xs
theorem RL.bad {w : World} {B : Nat} {c c' : Int} {xs : List Int} (h : c' = c) (hx : xs = []) : RL w B c xs (.returned (.tuple #[.slice none 0 0, .int .i64 c'])) := ⟨_, by rw [h], by rw [hx]; exact World.ownsRow_nil w B 2 1⟩
theorem RL.good {w : World} {B B' : Nat} {c : Int} {v : Value} {xs xs' : List Int} (h : c = 0) (hx : xs = xs') (ho : Own w B' v xs') (hB : B ≤ B') : RL w B c xs (.returned (.tuple #[v, .int .i64 0])) := ⟨v, by rw [h], by rw [hx]; exact ho.mono hB⟩
theorem thL_bad {n0 n1 n2 : Int} {xs ps qs fs ss : List Int} {z : Int} (h : thC n0 xs n1 ps n2 qs fs ss = z) (hz : ¬ z = 0) : thL n0 xs n1 ps n2 qs fs ss = [] := by rw [thL, h, if_neg hz]
theorem tab_next (F : Nat → Int) (k : Nat) : tab (k + 1) F = tab k F ++ [F k] := by unfold tab; rw [List.range_succ, List.map_append]; rfl
theorem ThenMorphisms_len (n0 : Int) (xs : List Int) (n1 : Int) (ps : List Int) (n2 : Int) (qs fs ss : List Int) : (thL n0 xs n1 ps n2 qs fs ss).length ≤ 1048576 := by
  cases h : thK n0 xs n1 ps n2 qs fs ss
  · rw [thL_bad (thC_1 h) (by decide)]; simp
  · unfold thL
    split
    · rw [tab_len]
      unfold thK at h
      rw [Bool.and_eq_true] at h
      obtain ⟨-, -, m⟩ := imK_of h.1
      have := m.ll
      have := m.x8
      omega
    · simp

set_option maxHeartbeats 4000000 in
set_option maxRecDepth 100000 in
theorem specThenMorphisms_v (n0 : Int) (xs : List Int) (n1 : Int) (ps : List Int) (n2 : Int) (qs fs ss : List Int) (v0 : Value) (lo0 hi0 : Nat) (v1 : Value) (lo1 hi1 : Nat) (v2 : Value) (lo2 hi2 : Nat) (v3 : Value) (lo3 hi3 : Nat) (v4 : Value) (lo4 hi4 : Nat) (w : World) (hl0 : xs.length ≤ 1048576) (hl1 : ps.length ≤ 1048576) (hl2 : qs.length ≤ 1048576) (hl3 : fs.length ≤ 1048576) (hl4 : ss.length ≤ 1048576) (h0 : InF w lo0 hi0 v0 n0 xs) (h1 : InF w lo1 hi1 v1 n1 ps) (h2 : InF w lo2 hi2 v2 n2 qs) (h3 : OwnIn w lo3 hi3 v3 fs) (h4 : OwnIn w lo4 hi4 v4 ss) :
    Calls Try.prog 30 #[v0, v1, v2, v3, v4] w fun e w' => ∃ v, e = .returned (.tuple #[v, .int .i64 (thC n0 xs n1 ps n2 qs fs ss)]) ∧ Own w' w.heap.size v (thL n0 xs n1 ps n2 qs fs ss) ∧ Below w.heap.size w w' := by
  suffices q : Calls Try.prog 30 #[v0, v1, v2, v3, v4] w (fun e w' => RL w' w.heap.size (thC n0 xs n1 ps n2 qs fs ss) (thL n0 xs n1 ps n2 qs fs ss) e ∧ Below w.heap.size w w') from q.mono fun e w' ⟨⟨v, e1, o⟩, b⟩ => ⟨v, e1, o, b⟩
  obtain ⟨a0, c0, rfl, hat0, -⟩ := h0.at
  obtain ⟨a1, c1, rfl, hat1, -⟩ := h1.at
  obtain ⟨a2, c2, rfl, hat2, -⟩ := h2.at
  obtain ⟨a3, c3, rfl, hat3⟩ := own_lst h3
  obtain ⟨a4, c4, rfl, hat4⟩ := own_lst h4
  obtain ⟨W, hW, HB, X0, X1, X2, hWs⟩ := boxT3 w n0 a0 xs.length c0 n1 a1 ps.length c1 n2 a2 qs.length c2
  have H0 := Lib.hid (hat0.keep HB.out (Nat.le_refl _))
  have H1 := Lib.hid (hat1.keep HB.out (Nat.le_refl _))
  have H2 := Lib.hid (hat2.keep HB.out (Nat.le_refl _))
  have H3 := Lib.hid (hat3.keep HB.out (Nat.le_refl _))
  have H4 := Lib.hid (hat4.keep HB.out (Nat.le_refl _))
  have HW := Lib.hid hW
  clear h0 h1 h2 h3 h4 hat0 hat1 hat2 hat3 hat4 hW
  obtain ⟨lt0, x0, y0⟩ := X0.out
  obtain ⟨lt1, x1, y1⟩ := X1.out
  cases k1 : imK n0 xs n1 ps fs
  · have F1 := Lib.hid (show imC n0 xs n1 ps fs = 1 by rw [imC, k1]; rfl)
    have C := Lib.hid (thC_1 (show thK n0 xs n1 ps n2 qs fs ss = false by rw [thK, k1]; rfl))
    clear k1
    go_enter Try.func30, Try.ntmps30
    go_wp2_with fail
    rw [← HW.out]
    refine (l08Code_any n0 n1 xs ps fs _ _ _ _ _ _ _ hl0 hl1 hl3 H0.out H1.out H3.out).mono ?_
    rw [F1.out]
    rintro e w1 ⟨rfl, hb⟩
    have T1 := Lib.hid (hb)
    clear hb
    clear lt0 x0 y0 lt1 x1 y1
    go_wp2
    go_ret2
    exact ⟨RL.bad C.out.symm (thL_bad C.out (by decide)), HB.out.trans (T1.out.mono HB.out.size)⟩
  · cases k2 : imK n1 ps n2 qs ss
    · have F1 := Lib.hid (show imC n0 xs n1 ps fs = 0 by rw [imC, k1]; rfl)
      have F2 := Lib.hid (show imC n1 ps n2 qs ss = 1 by rw [imC, k2]; rfl)
      have C := Lib.hid (thC_1 (show thK n0 xs n1 ps n2 qs fs ss = false by rw [thK, k1, k2]; rfl))
      clear k1 k2
      go_enter Try.func30, Try.ntmps30
      go_wp2_with fail
      rw [← HW.out]
      refine (l08Code_any n0 n1 xs ps fs _ _ _ _ _ _ _ hl0 hl1 hl3 H0.out H1.out H3.out).mono ?_
      rw [F1.out]
      rintro e w1 ⟨rfl, hb⟩
      have T1 := Lib.hid (hb)
      clear hb
      clear lt0 x0 y0 lt1 x1 y1
      obtain ⟨lt1, x1, y1⟩ := X1.out.keep T1.out
      obtain ⟨lt2, x2, y2⟩ := X2.out.keep T1.out
      go_wp2_with fail
      refine (l08Code_any n1 n2 ps qs ss _ _ _ _ _ _ _ hl1 hl2 hl4 (H1.out.keep T1.out (Nat.le_refl _)) (H2.out.keep T1.out (Nat.le_refl _)) (H4.out.keep T1.out (Nat.le_refl _))).mono ?_
      rw [F2.out]
      rintro e w2 ⟨rfl, hb⟩
      have T2 := Lib.hid (T1.out.trans (hb.mono T1.out.size))
      clear hb
      clear lt1 x1 y1 lt2 x2 y2
      go_wp2
      go_ret2
      exact ⟨RL.bad C.out.symm (thL_bad C.out (by decide)), HB.out.trans (T2.out.mono HB.out.size)⟩
    · have F1 := Lib.hid (show imC n0 xs n1 ps fs = 0 by rw [imC, k1]; rfl)
      have F2 := Lib.hid (show imC n1 ps n2 qs ss = 0 by rw [imC, k2]; rfl)
      have KK := Lib.hid (show thK n0 xs n1 ps n2 qs fs ss = true by rw [thK, k1, k2]; rfl)
      have M1 := Lib.hid (imK_of k1).2.2
      have M2 := Lib.hid (imK_of k2).2.2
      clear k1 k2
      cases g1 : mrB xs ps fs fs.length
      · have G1 := Lib.hid g1
        have C := Lib.hid (thC_5 KK.out (by rw [g1]; rfl))
        clear g1
        go_enter Try.func30, Try.ntmps30
        go_wp2_with fail
        rw [← HW.out]
        refine (l08Code_any n0 n1 xs ps fs _ _ _ _ _ _ _ hl0 hl1 hl3 H0.out H1.out H3.out).mono ?_
        rw [F1.out]
        rintro e w1 ⟨rfl, hb⟩
        have T1 := Lib.hid (hb)
        clear hb
        clear lt0 x0 y0 lt1 x1 y1
        obtain ⟨lt1, x1, y1⟩ := X1.out.keep T1.out
        obtain ⟨lt2, x2, y2⟩ := X2.out.keep T1.out
        go_wp2_with fail
        refine (l08Code_any n1 n2 ps qs ss _ _ _ _ _ _ _ hl1 hl2 hl4 (H1.out.keep T1.out (Nat.le_refl _)) (H2.out.keep T1.out (Nat.le_refl _)) (H4.out.keep T1.out (Nat.le_refl _))).mono ?_
        rw [F2.out]
        rintro e w2 ⟨rfl, hb⟩
        have T2 := Lib.hid (T1.out.trans (hb.mono T1.out.size))
        clear hb
        clear lt1 x1 y1 lt2 x2 y2
        obtain ⟨lt0, x0, y0⟩ := X0.out.keep T2.out
        obtain ⟨lt1, x1, y1⟩ := X1.out.keep T2.out
        go_wp2_with fail
        refine (l08Is_any n0 n1 xs ps fs _ _ _ _ _ _ _ M1.out (H0.out.keep T2.out (Nat.le_refl _)) (H1.out.keep T2.out (Nat.le_refl _)) (H3.out.keep T2.out (Nat.le_refl _))).mono ?_
        rw [G1.out]
        rintro e w3 ⟨rfl, hb⟩
        have T3 := Lib.hid (T2.out.trans (hb.mono T2.out.size))
        clear hb
        clear lt0 x0 y0 lt1 x1 y1
        go_wp2
        go_ret2
        exact ⟨RL.bad C.out.symm (thL_bad C.out (by decide)), HB.out.trans (T3.out.mono HB.out.size)⟩
      · cases g2 : mrB ps qs ss ss.length
        · have G1 := Lib.hid g1
          have G2 := Lib.hid g2
          have C := Lib.hid (thC_5 KK.out (by rw [g1, g2]; rfl))
          clear g1 g2
          go_enter Try.func30, Try.ntmps30
          go_wp2_with fail
          rw [← HW.out]
          refine (l08Code_any n0 n1 xs ps fs _ _ _ _ _ _ _ hl0 hl1 hl3 H0.out H1.out H3.out).mono ?_
          rw [F1.out]
          rintro e w1 ⟨rfl, hb⟩
          have T1 := Lib.hid (hb)
          clear hb
          clear lt0 x0 y0 lt1 x1 y1
          obtain ⟨lt1, x1, y1⟩ := X1.out.keep T1.out
          obtain ⟨lt2, x2, y2⟩ := X2.out.keep T1.out
          go_wp2_with fail
          refine (l08Code_any n1 n2 ps qs ss _ _ _ _ _ _ _ hl1 hl2 hl4 (H1.out.keep T1.out (Nat.le_refl _)) (H2.out.keep T1.out (Nat.le_refl _)) (H4.out.keep T1.out (Nat.le_refl _))).mono ?_
          rw [F2.out]
          rintro e w2 ⟨rfl, hb⟩
          have T2 := Lib.hid (T1.out.trans (hb.mono T1.out.size))
          clear hb
          clear lt1 x1 y1 lt2 x2 y2
          obtain ⟨lt0, x0, y0⟩ := X0.out.keep T2.out
          obtain ⟨lt1, x1, y1⟩ := X1.out.keep T2.out
          go_wp2_with fail
          refine (l08Is_any n0 n1 xs ps fs _ _ _ _ _ _ _ M1.out (H0.out.keep T2.out (Nat.le_refl _)) (H1.out.keep T2.out (Nat.le_refl _)) (H3.out.keep T2.out (Nat.le_refl _))).mono ?_
          rw [G1.out]
          rintro e w3 ⟨rfl, hb⟩
          have T3 := Lib.hid (T2.out.trans (hb.mono T2.out.size))
          clear hb
          clear lt0 x0 y0 lt1 x1 y1
          obtain ⟨lt1, x1, y1⟩ := X1.out.keep T3.out
          obtain ⟨lt2, x2, y2⟩ := X2.out.keep T3.out
          go_wp2_with fail
          refine (l08Is_any n1 n2 ps qs ss _ _ _ _ _ _ _ M2.out (H1.out.keep T3.out (Nat.le_refl _)) (H2.out.keep T3.out (Nat.le_refl _)) (H4.out.keep T3.out (Nat.le_refl _))).mono ?_
          rw [G2.out]
          rintro e w4 ⟨rfl, hb⟩
          have T4 := Lib.hid (T3.out.trans (hb.mono T3.out.size))
          clear hb
          clear lt1 x1 y1 lt2 x2 y2
          go_wp2
          go_ret2
          exact ⟨RL.bad C.out.symm (thL_bad C.out (by decide)), HB.out.trans (T4.out.mono HB.out.size)⟩
        · have G1 := Lib.hid g1
          have G2 := Lib.hid g2
          have C := Lib.hid (thC_0 KK.out (by rw [g1, g2]; rfl))
          have L := Lib.hid (show thL n0 xs n1 ps n2 qs fs ss = tab fs.length (thF fs ss) by rw [thL, C.out, if_pos rfl])
          clear g1 g2
          have f8 : fs.length ≤ 8 := by have := M1.out.ll; have := M1.out.x8; omega
          have s8 : ss.length ≤ 8 := by have := M2.out.ll; have := M2.out.x8; omega
          go_enter Try.func30, Try.ntmps30
          go_wp2_with fail
          rw [← HW.out]
          refine (l08Code_any n0 n1 xs ps fs _ _ _ _ _ _ _ hl0 hl1 hl3 H0.out H1.out H3.out).mono ?_
          rw [F1.out]
          rintro e w1 ⟨rfl, hb⟩
          have T1 := Lib.hid (hb)
          clear hb
          clear lt0 x0 y0 lt1 x1 y1
          obtain ⟨lt1, x1, y1⟩ := X1.out.keep T1.out
          obtain ⟨lt2, x2, y2⟩ := X2.out.keep T1.out
          go_wp2_with fail
          refine (l08Code_any n1 n2 ps qs ss _ _ _ _ _ _ _ hl1 hl2 hl4 (H1.out.keep T1.out (Nat.le_refl _)) (H2.out.keep T1.out (Nat.le_refl _)) (H4.out.keep T1.out (Nat.le_refl _))).mono ?_
          rw [F2.out]
          rintro e w2 ⟨rfl, hb⟩
          have T2 := Lib.hid (T1.out.trans (hb.mono T1.out.size))
          clear hb
          clear lt1 x1 y1 lt2 x2 y2
          obtain ⟨lt0, x0, y0⟩ := X0.out.keep T2.out
          obtain ⟨lt1, x1, y1⟩ := X1.out.keep T2.out
          go_wp2_with fail
          refine (l08Is_any n0 n1 xs ps fs _ _ _ _ _ _ _ M1.out (H0.out.keep T2.out (Nat.le_refl _)) (H1.out.keep T2.out (Nat.le_refl _)) (H3.out.keep T2.out (Nat.le_refl _))).mono ?_
          rw [G1.out]
          rintro e w3 ⟨rfl, hb⟩
          have T3 := Lib.hid (T2.out.trans (hb.mono T2.out.size))
          clear hb
          clear lt0 x0 y0 lt1 x1 y1
          obtain ⟨lt1, x1, y1⟩ := X1.out.keep T3.out
          obtain ⟨lt2, x2, y2⟩ := X2.out.keep T3.out
          go_wp2_with fail
          refine (l08Is_any n1 n2 ps qs ss _ _ _ _ _ _ _ M2.out (H1.out.keep T3.out (Nat.le_refl _)) (H2.out.keep T3.out (Nat.le_refl _)) (H4.out.keep T3.out (Nat.le_refl _))).mono ?_
          rw [G2.out]
          rintro e w4 ⟨rfl, hb⟩
          have T4 := Lib.hid (T3.out.trans (hb.mono T3.out.size))
          clear hb
          clear lt1 x1 y1 lt2 x2 y2
          go_wp2
          have sz4 := T4.out.size
          go_loopw [12, 13] (fun v i wr => ∃ k : Nat, k ≤ fs.length ∧ i = .int .i64 k ∧ Hid (wr.ownsRow w4.heap.size 2 1 v k ((tab k (thF fs ss)).map (Value.int .i64))) ∧ Hid (Below w4.heap.size w4 wr)) (fun _ i _ => fs.length - (intOf i).toNat)
          case atStart => exact ⟨0, Nat.zero_le _, rfl, Lib.hid (World.ownsRow_lit w4 #[] 0 (Nat.le_refl _) (by unfold maxLen; omega) rfl), Lib.hid ((Below.refl _ _).alloc (Nat.le_refl _) _)⟩
          case round =>
            obtain ⟨k, hk, rfl, O, B⟩ := hrel
            have TB := Lib.hid (T4.out.trans (B.out.mono T4.out.size))
            have hsz := B.out.size
            by_cases hlt : k < fs.length
            · obtain ⟨b, off, rfl, hb, hc⟩ := (H3.out.keep TB.out (Nat.le_refl _)).2.resolve_left (by omega)
              obtain ⟨q, hq, hqe⟩ := M1.out.lb k hlt
              have hqs : q < ss.length := by have := M2.out.ll; omega
              obtain ⟨b2, o2, rfl, hb2, hc2⟩ := (H4.out.keep TB.out (Nat.le_refl _)).2.resolve_left (by omega)
              have g := hc k hlt
              rw [hqe] at g
              have g2 := hc2 q hqs
              have hqi : (q : Int) < (ss.length : Int) := by omega
              have TF := Lib.hid (show thF fs ss k = nth ss q by rw [thF, hqe, Int.toNat_natCast])
              clear hc hc2 hqe hqs
              go_wp2_with (at_builtin; refine list_app1 rfl _ _ rfl w4.heap.size _ k _ rfl (O.out.alloc _) ⟨wr.heap.size, 0, none⟩ 1 _ rfl (World.cell?_alloc_at _ _ _ _ rfl) (by omega) (by simp; omega) ?_; intro v' w1' hown1 hgr1)
              have hbel := Lib.hid (below_app B.out ((Below.refl _ _).alloc hsz _) hsz O.out hgr1)
              clear hgr1
              go_roundw
              case rel => exact ⟨k + 1, hlt, by go_num, Lib.hid (by rw [tab_next, List.map_append, TF.out]; exact hown1), hbel⟩
              case measure => simp [intOf]; omega
            · obtain rfl : k = fs.length := by omega
              have O5 := Lib.hid (show Own wr w4.heap.size _ (tab fs.length (thF fs ss)) from by have := O.out; unfold Own; rw [tab_len]; exact this)
              go_wp2
              go_ret2
              exact ⟨RL.good C.out L.out O5.out (by have := HB.out.size; omega), HB.out.trans (TB.out.mono HB.out.size)⟩

set_option maxHeartbeats 4000000 in
set_option maxRecDepth 100000 in
theorem implThenMorphisms_v (n0 : Int) (xs : List Int) (n1 : Int) (ps : List Int) (n2 : Int) (qs fs ss : List Int) (v0 : Value) (lo0 hi0 : Nat) (v1 : Value) (lo1 hi1 : Nat) (v2 : Value) (lo2 hi2 : Nat) (v3 : Value) (lo3 hi3 : Nat) (v4 : Value) (lo4 hi4 : Nat) (w : World) (hl0 : xs.length ≤ 1048576) (hl1 : ps.length ≤ 1048576) (hl2 : qs.length ≤ 1048576) (hl3 : fs.length ≤ 1048576) (hl4 : ss.length ≤ 1048576) (h0 : InF w lo0 hi0 v0 n0 xs) (h1 : InF w lo1 hi1 v1 n1 ps) (h2 : InF w lo2 hi2 v2 n2 qs) (h3 : OwnIn w lo3 hi3 v3 fs) (h4 : OwnIn w lo4 hi4 v4 ss) :
    Calls Try.prog 33 #[v0, v1, v2, v3, v4] w fun e w' => ∃ v, e = .returned (.tuple #[v, .int .i64 (thC n0 xs n1 ps n2 qs fs ss)]) ∧ Own w' w.heap.size v (thL n0 xs n1 ps n2 qs fs ss) ∧ Below w.heap.size w w' := by
  suffices q : Calls Try.prog 33 #[v0, v1, v2, v3, v4] w (fun e w' => RL w' w.heap.size (thC n0 xs n1 ps n2 qs fs ss) (thL n0 xs n1 ps n2 qs fs ss) e ∧ Below w.heap.size w w') from q.mono fun e w' ⟨⟨v, e1, o⟩, b⟩ => ⟨v, e1, o, b⟩
  obtain ⟨a0, c0, rfl, hat0, -⟩ := h0.at
  obtain ⟨a1, c1, rfl, hat1, -⟩ := h1.at
  obtain ⟨a2, c2, rfl, hat2, -⟩ := h2.at
  obtain ⟨a3, c3, rfl, hat3⟩ := own_lst h3
  obtain ⟨a4, c4, rfl, hat4⟩ := own_lst h4
  obtain ⟨W, hW, HB, X0, X1, X2, hWs⟩ := boxT3 w n0 a0 xs.length c0 n1 a1 ps.length c1 n2 a2 qs.length c2
  have H0 := Lib.hid (hat0.keep HB.out (Nat.le_refl _))
  have H1 := Lib.hid (hat1.keep HB.out (Nat.le_refl _))
  have H2 := Lib.hid (hat2.keep HB.out (Nat.le_refl _))
  have H3 := Lib.hid (hat3.keep HB.out (Nat.le_refl _))
  have H4 := Lib.hid (hat4.keep HB.out (Nat.le_refl _))
  have HW := Lib.hid hW
  clear h0 h1 h2 h3 h4 hat0 hat1 hat2 hat3 hat4 hW
  obtain ⟨lt0, x0, y0⟩ := X0.out
  obtain ⟨lt1, x1, y1⟩ := X1.out
  cases k1 : imK n0 xs n1 ps fs
  · have F1 := Lib.hid (k1)
    have C := Lib.hid (thC_1 (show thK n0 xs n1 ps n2 qs fs ss = false by rw [thK, k1]; rfl))
    clear k1
    go_enter Try.func33, Try.ntmps33
    go_wp2_with fail
    rw [← HW.out]
    refine (isMap_any n0 n1 xs ps fs _ _ _ _ _ _ _ hl0 hl1 hl3 H0.out H1.out H3.out).mono ?_
    rw [F1.out]
    rintro e w1 ⟨rfl, hb⟩
    have T1 := Lib.hid (hb)
    clear hb
    clear lt0 x0 y0 lt1 x1 y1
    go_wp2
    go_ret2
    exact ⟨RL.bad C.out.symm (thL_bad C.out (by decide)), HB.out.trans (T1.out.mono HB.out.size)⟩
  · cases k2 : imK n1 ps n2 qs ss
    · have F1 := Lib.hid (k1)
      have F2 := Lib.hid (k2)
      have C := Lib.hid (thC_1 (show thK n0 xs n1 ps n2 qs fs ss = false by rw [thK, k1, k2]; rfl))
      clear k1 k2
      go_enter Try.func33, Try.ntmps33
      go_wp2_with fail
      rw [← HW.out]
      refine (isMap_any n0 n1 xs ps fs _ _ _ _ _ _ _ hl0 hl1 hl3 H0.out H1.out H3.out).mono ?_
      rw [F1.out]
      rintro e w1 ⟨rfl, hb⟩
      have T1 := Lib.hid (hb)
      clear hb
      clear lt0 x0 y0 lt1 x1 y1
      obtain ⟨lt1, x1, y1⟩ := X1.out.keep T1.out
      obtain ⟨lt2, x2, y2⟩ := X2.out.keep T1.out
      go_wp2_with fail
      refine (isMap_any n1 n2 ps qs ss _ _ _ _ _ _ _ hl1 hl2 hl4 (H1.out.keep T1.out (Nat.le_refl _)) (H2.out.keep T1.out (Nat.le_refl _)) (H4.out.keep T1.out (Nat.le_refl _))).mono ?_
      rw [F2.out]
      rintro e w2 ⟨rfl, hb⟩
      have T2 := Lib.hid (T1.out.trans (hb.mono T1.out.size))
      clear hb
      clear lt1 x1 y1 lt2 x2 y2
      go_wp2
      go_ret2
      exact ⟨RL.bad C.out.symm (thL_bad C.out (by decide)), HB.out.trans (T2.out.mono HB.out.size)⟩
    · have F1 := Lib.hid (k1)
      have F2 := Lib.hid (k2)
      have KK := Lib.hid (show thK n0 xs n1 ps n2 qs fs ss = true by rw [thK, k1, k2]; rfl)
      have M1 := Lib.hid (imK_of k1).2.2
      have M2 := Lib.hid (imK_of k2).2.2
      clear k1 k2
      cases g1 : mrB xs ps fs fs.length
      · have G1 := Lib.hid g1
        have C := Lib.hid (thC_5 KK.out (by rw [g1]; rfl))
        clear g1
        go_enter Try.func33, Try.ntmps33
        go_wp2_with fail
        rw [← HW.out]
        refine (isMap_any n0 n1 xs ps fs _ _ _ _ _ _ _ hl0 hl1 hl3 H0.out H1.out H3.out).mono ?_
        rw [F1.out]
        rintro e w1 ⟨rfl, hb⟩
        have T1 := Lib.hid (hb)
        clear hb
        clear lt0 x0 y0 lt1 x1 y1
        obtain ⟨lt1, x1, y1⟩ := X1.out.keep T1.out
        obtain ⟨lt2, x2, y2⟩ := X2.out.keep T1.out
        go_wp2_with fail
        refine (isMap_any n1 n2 ps qs ss _ _ _ _ _ _ _ hl1 hl2 hl4 (H1.out.keep T1.out (Nat.le_refl _)) (H2.out.keep T1.out (Nat.le_refl _)) (H4.out.keep T1.out (Nat.le_refl _))).mono ?_
        rw [F2.out]
        rintro e w2 ⟨rfl, hb⟩
        have T2 := Lib.hid (T1.out.trans (hb.mono T1.out.size))
        clear hb
        clear lt1 x1 y1 lt2 x2 y2
        obtain ⟨lt0, x0, y0⟩ := X0.out.keep T2.out
        obtain ⟨lt1, x1, y1⟩ := X1.out.keep T2.out
        go_wp2_with fail
        refine (isMorphism_any n0 n1 xs ps fs _ _ _ _ _ _ _ M1.out.ll (by have := M1.out.x8; omega) M1.out.lb M1.out.b30 (H0.out.keep T2.out (Nat.le_refl _)) (H1.out.keep T2.out (Nat.le_refl _)) (H3.out.keep T2.out (Nat.le_refl _))).mono ?_
        rw [G1.out]
        rintro e w3 ⟨rfl, hb⟩
        have T3 := Lib.hid (T2.out.trans (hb.mono T2.out.size))
        clear hb
        clear lt0 x0 y0 lt1 x1 y1
        go_wp2
        go_ret2
        exact ⟨RL.bad C.out.symm (thL_bad C.out (by decide)), HB.out.trans (T3.out.mono HB.out.size)⟩
      · cases g2 : mrB ps qs ss ss.length
        · have G1 := Lib.hid g1
          have G2 := Lib.hid g2
          have C := Lib.hid (thC_5 KK.out (by rw [g1, g2]; rfl))
          clear g1 g2
          go_enter Try.func33, Try.ntmps33
          go_wp2_with fail
          rw [← HW.out]
          refine (isMap_any n0 n1 xs ps fs _ _ _ _ _ _ _ hl0 hl1 hl3 H0.out H1.out H3.out).mono ?_
          rw [F1.out]
          rintro e w1 ⟨rfl, hb⟩
          have T1 := Lib.hid (hb)
          clear hb
          clear lt0 x0 y0 lt1 x1 y1
          obtain ⟨lt1, x1, y1⟩ := X1.out.keep T1.out
          obtain ⟨lt2, x2, y2⟩ := X2.out.keep T1.out
          go_wp2_with fail
          refine (isMap_any n1 n2 ps qs ss _ _ _ _ _ _ _ hl1 hl2 hl4 (H1.out.keep T1.out (Nat.le_refl _)) (H2.out.keep T1.out (Nat.le_refl _)) (H4.out.keep T1.out (Nat.le_refl _))).mono ?_
          rw [F2.out]
          rintro e w2 ⟨rfl, hb⟩
          have T2 := Lib.hid (T1.out.trans (hb.mono T1.out.size))
          clear hb
          clear lt1 x1 y1 lt2 x2 y2
          obtain ⟨lt0, x0, y0⟩ := X0.out.keep T2.out
          obtain ⟨lt1, x1, y1⟩ := X1.out.keep T2.out
          go_wp2_with fail
          refine (isMorphism_any n0 n1 xs ps fs _ _ _ _ _ _ _ M1.out.ll (by have := M1.out.x8; omega) M1.out.lb M1.out.b30 (H0.out.keep T2.out (Nat.le_refl _)) (H1.out.keep T2.out (Nat.le_refl _)) (H3.out.keep T2.out (Nat.le_refl _))).mono ?_
          rw [G1.out]
          rintro e w3 ⟨rfl, hb⟩
          have T3 := Lib.hid (T2.out.trans (hb.mono T2.out.size))
          clear hb
          clear lt0 x0 y0 lt1 x1 y1
          obtain ⟨lt1, x1, y1⟩ := X1.out.keep T3.out
          obtain ⟨lt2, x2, y2⟩ := X2.out.keep T3.out
          go_wp2_with fail
          refine (isMorphism_any n1 n2 ps qs ss _ _ _ _ _ _ _ M2.out.ll (by have := M2.out.x8; omega) M2.out.lb M2.out.b30 (H1.out.keep T3.out (Nat.le_refl _)) (H2.out.keep T3.out (Nat.le_refl _)) (H4.out.keep T3.out (Nat.le_refl _))).mono ?_
          rw [G2.out]
          rintro e w4 ⟨rfl, hb⟩
          have T4 := Lib.hid (T3.out.trans (hb.mono T3.out.size))
          clear hb
          clear lt1 x1 y1 lt2 x2 y2
          go_wp2
          go_ret2
          exact ⟨RL.bad C.out.symm (thL_bad C.out (by decide)), HB.out.trans (T4.out.mono HB.out.size)⟩
        · have G1 := Lib.hid g1
          have G2 := Lib.hid g2
          have C := Lib.hid (thC_0 KK.out (by rw [g1, g2]; rfl))
          have L := Lib.hid (show thL n0 xs n1 ps n2 qs fs ss = tab fs.length (thF fs ss) by rw [thL, C.out, if_pos rfl])
          clear g1 g2
          have f8 : fs.length ≤ 8 := by have := M1.out.ll; have := M1.out.x8; omega
          have s8 : ss.length ≤ 8 := by have := M2.out.ll; have := M2.out.x8; omega
          have hmk := fun (W : World) => run_make_row' (P := Try.prog) 22 2 (.int .i64 0) 8 Try.underlying22 info64 rfl .i64 .i64 fs.length (by omega) (by omega) W
          go_enter Try.func33, Try.ntmps33
          go_wp2_with fail
          rw [← HW.out]
          refine (isMap_any n0 n1 xs ps fs _ _ _ _ _ _ _ hl0 hl1 hl3 H0.out H1.out H3.out).mono ?_
          rw [F1.out]
          rintro e w1 ⟨rfl, hb⟩
          have T1 := Lib.hid (hb)
          clear hb
          clear lt0 x0 y0 lt1 x1 y1
          obtain ⟨lt1, x1, y1⟩ := X1.out.keep T1.out
          obtain ⟨lt2, x2, y2⟩ := X2.out.keep T1.out
          go_wp2_with fail
          refine (isMap_any n1 n2 ps qs ss _ _ _ _ _ _ _ hl1 hl2 hl4 (H1.out.keep T1.out (Nat.le_refl _)) (H2.out.keep T1.out (Nat.le_refl _)) (H4.out.keep T1.out (Nat.le_refl _))).mono ?_
          rw [F2.out]
          rintro e w2 ⟨rfl, hb⟩
          have T2 := Lib.hid (T1.out.trans (hb.mono T1.out.size))
          clear hb
          clear lt1 x1 y1 lt2 x2 y2
          obtain ⟨lt0, x0, y0⟩ := X0.out.keep T2.out
          obtain ⟨lt1, x1, y1⟩ := X1.out.keep T2.out
          go_wp2_with fail
          refine (isMorphism_any n0 n1 xs ps fs _ _ _ _ _ _ _ M1.out.ll (by have := M1.out.x8; omega) M1.out.lb M1.out.b30 (H0.out.keep T2.out (Nat.le_refl _)) (H1.out.keep T2.out (Nat.le_refl _)) (H3.out.keep T2.out (Nat.le_refl _))).mono ?_
          rw [G1.out]
          rintro e w3 ⟨rfl, hb⟩
          have T3 := Lib.hid (T2.out.trans (hb.mono T2.out.size))
          clear hb
          clear lt0 x0 y0 lt1 x1 y1
          obtain ⟨lt1, x1, y1⟩ := X1.out.keep T3.out
          obtain ⟨lt2, x2, y2⟩ := X2.out.keep T3.out
          go_wp2_with fail
          refine (isMorphism_any n1 n2 ps qs ss _ _ _ _ _ _ _ M2.out.ll (by have := M2.out.x8; omega) M2.out.lb M2.out.b30 (H1.out.keep T3.out (Nat.le_refl _)) (H2.out.keep T3.out (Nat.le_refl _)) (H4.out.keep T3.out (Nat.le_refl _))).mono ?_
          rw [G2.out]
          rintro e w4 ⟨rfl, hb⟩
          have T4 := Lib.hid (T3.out.trans (hb.mono T3.out.size))
          clear hb
          clear lt1 x1 y1 lt2 x2 y2
          have R0 := Lib.hid (World.rowIs_made w4 (.int .i64 0) fs.length 2)
          have sz4 := T4.out.size
          go_wp2
          clear hmk
          go_loopw [44] (fun i wr => ∃ k : Nat, k ≤ fs.length ∧ i = .int .i64 k ∧ Hid (wr.rowIs w4.heap.size 2 fs.length (fun t => .int .i64 (upS (thF fs ss) k t))) ∧ Hid (Below w4.heap.size w4 wr)) (fun i _ => fs.length - (intOf i).toNat)
          case atStart => exact ⟨0, Nat.zero_le _, rfl, Lib.hid (R0.out.congr fun t _ => by rw [upS_start]), Lib.hid (alloc_keep _ _).1⟩
          case round =>
            obtain ⟨k, hk, rfl, R, B⟩ := hrel
            have TB := Lib.hid (T4.out.trans (B.out.mono T4.out.size))
            by_cases hlt : k < fs.length
            · obtain ⟨b, off, rfl, hb, hc⟩ := (H3.out.keep TB.out (Nat.le_refl _)).2.resolve_left (by omega)
              obtain ⟨q, hq, hqe⟩ := M1.out.lb k hlt
              have hqs : q < ss.length := by have := M2.out.ll; omega
              obtain ⟨b2, o2, rfl, hb2, hc2⟩ := (H4.out.keep TB.out (Nat.le_refl _)).2.resolve_left (by omega)
              have g := hc k hlt
              rw [hqe] at g
              have g2 := hc2 q hqs
              have hqi : (q : Int) < (ss.length : Int) := by omega
              have TF := Lib.hid (show thF fs ss k = nth ss q by rw [thF, hqe, Int.toNat_natCast])
              clear hc hc2 hqe hqs
              have hcg : wr.cell? ⟨w4.heap.size, k, none⟩ = some (.int .i64 (upS (thF fs ss) k k)) := R.out.cell hlt
              have hfg : wr.frozen? ⟨w4.heap.size, k, none⟩ = false := R.out.frozen k
              go_wp2
              go_roundw
              case rel => exact ⟨k + 1, hlt, by go_num, Lib.hid (row_setI R.out (fun t => upS_set TF.out.symm t)), Lib.hid (B.out.setCell (p := ⟨w4.heap.size, k, none⟩) (Nat.le_refl _) _)⟩
              case measure => simp [intOf]; omega
            · obtain rfl : k = fs.length := by omega
              have O5 := Lib.hid (own_of_row (F := thF fs ss) (B := w4.heap.size) (Nat.le_refl _) (by omega) (R.out.congr fun t ht => by rw [upS_all ht]))
              go_wp2
              go_ret2
              exact ⟨RL.good C.out L.out O5.out (by have := HB.out.size; omega), HB.out.trans (TB.out.mono HB.out.size)⟩

end Go.Proofs.Ytomldealpmohhaa
