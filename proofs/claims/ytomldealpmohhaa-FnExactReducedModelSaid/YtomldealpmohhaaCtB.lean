/- The contract of contestIn: the rounds of a contest. Conditions: those in the theorems. -/
import Derived.Test.YtomldealpmohhaaCtA
namespace Go.Proofs.Ytomldealpmohhaa
open Go.RowKit

set_option maxHeartbeats 2000000 in
set_option maxRecDepth 100000 in
theorem lab2_any (i : Nat) (R R' : Nat) (n n0 : Int) (xs cs : List Int) (a : Option Addr) (l c : Nat) (b : Option Addr) (m d : Nat) (a0 : Option Addr) (c0 : Nat) (b0 : Option Addr) (m0 d0 : Nat) (g k cap : Nat) (au : Option Addr) (cu : Nat) (w : World) (hk : k ≤ 1048576) (hi : i < xs.length) (h30 : xs.length ≤ 30) (hg : g < w.heap.size) (hC : Cn w R n a l c b m d (.slice (some ⟨g, 0, none⟩) (k + 1) cap)) (hu : w.cell? ⟨g, k, none⟩ = some (.slice au cs.length cu)) (hat : At w au cs.length cs) (hcl : cs.length = xs.length) (hcb : ∀ i, 0 ≤ nth cs i ∧ nth cs i ≤ 30) (hM : Bm w R' n0 a0 xs.length c0 b0 m0 d0) (hx : At w a0 xs.length xs) :
    Calls Try.prog 112 #[.int .i64 i, .pointer (some ⟨R, 0, none⟩), .pointer (some ⟨R', 0, none⟩)] w fun e w' => e = .returned (.int .i64 (coTo cs (nth xs i) xs.length)) ∧ Below w.heap.size w w' := by
  obtain ⟨xb, xo, rfl, hxb, hxc⟩ := hx.2.resolve_left (by omega)
  have hcx := hxc i hi
  obtain ⟨lt, x0, x1, x2⟩ := hM
  obtain ⟨q0, q1, q2, q3, -⟩ := hC.lit
  have LA := Lib.hid (show ∀ w1 : World, Below w.heap.size w w1 → Calls Try.prog 73 #[.agg #[.int .i64 n, .slice a l c, .slice b m d, .slice (some ⟨g, 0, none⟩) (k + 1) cap]] w1 fun e w' => e = .returned (.slice au cs.length cu) ∧ Below w1.heap.size w1 w' from
    fun w1 hw => last_any n a l c b m d g k cap _ w1 hk (Nat.lt_of_lt_of_le hg hw.size) ((hw.cell (p := ⟨g, k, none⟩) hg).trans hu))
  have CO := Lib.hid (show ∀ w1 : World, Below w.heap.size w w1 → Calls Try.prog 113 #[.slice au cs.length cu, .int .i64 (nth xs i)] w1 fun e w' => e = .returned (.int .i64 (coTo cs (nth xs i) xs.length)) ∧ w1 = w' from
    fun w1 hw => by rw [← hcl]; exact classesOf_any cs _ au cu w1 (by omega) hcb (hat.keep hw (Nat.le_refl _)))
  have KX := Lib.hid (show ∀ w1 : World, Below w.heap.size w w1 → w1.cell? ⟨R', 0, none⟩ = some (.int .i64 n0) ∧ w1.cell? ⟨R', 1, none⟩ = some (.slice (some ⟨xb, xo, none⟩) xs.length c0) ∧ w1.cell? ⟨R', 2, none⟩ = some (.slice b0 m0 d0) ∧ w1.cell? ⟨xb, xo + i, none⟩ = some (.int .i64 (nth xs i)) from
    fun w1 hw => ⟨(hw.cell (p := ⟨R', 0, none⟩) lt).trans x0, (hw.cell (p := ⟨R', 1, none⟩) lt).trans x1, (hw.cell (p := ⟨R', 2, none⟩) lt).trans x2, (hw.cell (p := ⟨xb, xo + i, none⟩) hxb).trans hcx⟩)
  have KC := Lib.hid (show ∀ w1 : World, Below w.heap.size w w1 → w1.cell? ⟨R, 0, none⟩ = some (.int .i64 n) ∧ w1.cell? ⟨R, 1, none⟩ = some (.slice a l c) ∧ w1.cell? ⟨R, 2, none⟩ = some (.slice b m d) ∧ w1.cell? ⟨R, 3, none⟩ = some (.slice (some ⟨g, 0, none⟩) (k + 1) cap) from
    fun w1 hw => by
      obtain ⟨u0, u1, u2, u3, -⟩ := Cn.lit (show Cn w1 R n a l c b m d (.slice (some ⟨g, 0, none⟩) (k + 1) cap) from rowIs_below hC hw (rowIs_lt hC))
      exact ⟨u0, u1, u2, u3⟩)
  clear hC hu hat hcl hcb hx hxc hg
  go_enter Try.func112, Try.ntmps112
  go_wp2
  go_region_held3 (fun w' => w'.cell? ⟨R, 0, none⟩ = some (.int .i64 n) ∧ w'.cell? ⟨R, 1, none⟩ = some (.slice a l c) ∧ w'.cell? ⟨R, 2, none⟩ = some (.slice b m d) ∧ w'.cell? ⟨R, 3, none⟩ = some (.slice (some ⟨g, 0, none⟩) (k + 1) cap) ∧ w'.cell? ⟨R', 0, none⟩ = some (.int .i64 n0) ∧ w'.cell? ⟨R', 1, none⟩ = some (.slice (some ⟨xb, xo, none⟩) xs.length c0) ∧ w'.cell? ⟨R', 2, none⟩ = some (.slice b0 m0 d0) ∧ w'.cell? ⟨xb, xo + i, none⟩ = some (.int .i64 (nth xs i))) (first | exact ⟨p0, p1, p2, p3, y0, y1, y2, y3⟩ | exact ⟨q0, q1, q2, q3, x0, x1, x2, hcx⟩ | go_keep) (first | (go_at_call 73; refine (LA.out _ (Below.refl _ _).drew).mono ?_; rintro e w1 ⟨rfl, hb⟩; have T1 := Lib.hid (show Below w.heap.size w w1 from below_of_drew hb); clear hb; obtain ⟨y0, y1, y2, y3⟩ := KX.out w1 T1.out; obtain ⟨p0, p1, p2, p3⟩ := KC.out w1 T1.out) | (go_at_call 113; refine (CO.out _ T1.out).mono ?_; rintro e w' ⟨rfl, rfl⟩))
  all_goals
    go_wp2
    go_ret
    exact ⟨rfl, T1.out⟩

theorem Rn.out4 {w : World} {B k b : Nat} {v : Value} {us : List Value} {cs : Nat → List Int} {f : Nat → Value} (h : Rn w B v us cs k) (hb : w.rowIs b 92 4 f) {z0 z1 z2 z3 : Value} : Rn ((((w.setCell ⟨b, 0, none⟩ z0).setCell ⟨b, 1, none⟩ z1).setCell ⟨b, 2, none⟩ z2).setCell ⟨b, 3, none⟩ z3) B v us cs k :=
  (((h.grown hb (grown_setC _ _ _ _)).grown (hb.set 0 z0) (grown_setC _ _ _ _)).grown ((hb.set 0 z0).set 1 z1) (grown_setC _ _ _ _)).grown (((hb.set 0 z0).set 1 z1).set 2 z2) (grown_setC _ _ _ _)

theorem row_somP {w : World} {B s k : Nat} {t : TypeId} {v : Value} {xs : List Value} (h : w.ownsRow B t s v (k + 1) xs) : ∃ g c, v = .slice (some ⟨g, 0, none⟩) (k + 1) c := by
  obtain ⟨-, ⟨-, e⟩ | ⟨g, c, cur, e, -⟩⟩ := h
  · omega
  · exact ⟨g, c, e⟩
theorem Cn.grownR {w w' : World} {R : Nat} {n : Int} {a : Option Addr} {l c : Nat} {b : Option Addr} {m d : Nat} {v vR : Value} {B k : Nat} {us : List Value} (h : Cn w R n a l c b m d v) (hr : w.ownsRow B 89 1 vR k us) (hg : w.grownBy w' vR.ownBlock) : Cn w' R n a l c b m d v := by
  refine rowIs_grown h hg ?_
  rcases row_ne_is hr h (by decide) with q | q
  · rw [q]; simp
  · exact q.symm
noncomputable def mesC (xs ys : List Int) : Nat → Nat
  | 0 => xs.length + 3
  | k + 1 => xs.length + 2 - dK xs ys k
theorem mesC_drop {xs ys : List Int} (h : Sm1 xs ys) (k : Nat) (hne : ∀ j, k = j + 1 → cLs xs.length xs ys j ≠ cLs xs.length xs ys (j + 1)) : mesC xs ys (k + 1) < mesC xs ys k := by
  cases k with
  | zero => simp only [mesC]; omega
  | succ j =>
    have h1 := dK_lt h j (hne j rfl)
    have h2 := dK_bd xs ys (j + 1)
    simp only [mesC]; omega

set_option maxHeartbeats 8000000 in
set_option maxRecDepth 100000 in
theorem contestIn_any (n : Int) (xs ys : List Int) (a0 : Option Addr) (c0 : Nat) (b0 : Option Addr) (d0 : Nat) (w : World) (hS : Sm1 xs ys) (hn : n = xs.length) (hy : ys.length = 6) (h0 : At w a0 xs.length xs) (h0' : At w b0 ys.length ys) :
    Calls Try.prog 72 #[.agg #[.int .i64 n, .slice a0 xs.length c0, .slice b0 ys.length d0]] w fun e w' => ∃ (K : Nat) (vR : Value) (us : List Value), e = .returned (.agg #[.int .i64 n, .slice a0 xs.length c0, .slice b0 ys.length d0, vR]) ∧ Rn w' w.heap.size vR us (cLs xs.length xs ys) (K + 1) ∧ cLs xs.length xs ys K = cLs xs.length xs ys (K + 1) ∧ (∀ j, j < K → cLs xs.length xs ys j ≠ cLs xs.length xs ys (j + 1)) ∧ Below w.heap.size w w' := by
  subst hn
  obtain ⟨W, hW, hbW, hX, hZ, hWs⟩ : ∃ W, W = (w.alloc (.cells #[.int .i64 xs.length, .slice a0 xs.length c0, .slice b0 ys.length d0] 34)).alloc (.cells #[.int .i64 0, .slice none 0 0, .slice none 0 0, .slice none 0 0] 92) ∧ Below w.heap.size w W ∧ Bm W w.heap.size xs.length a0 xs.length c0 b0 ys.length d0 ∧ Cn W (w.heap.size + 1) 0 none 0 0 none 0 0 (.slice none 0 0) ∧ W.heap.size = w.heap.size + 1 + 1 := by
    refine ⟨_, rfl, ((Below.refl _ _).alloc (Nat.le_refl _) _).alloc (by simp) _, (Bm.new w _ _ _ _ _ _ _ _).keep (alloc_keep _ _).1, ?_, by simp⟩
    have := Cn.new (w.alloc (.cells #[.int .i64 xs.length, .slice a0 xs.length c0, .slice b0 ys.length d0] 34)) 0 none 0 0 none 0 0 (.slice none 0 0)
    simpa using this
  have HB := Lib.hid hbW
  have X := Lib.hid hX
  have Z := Lib.hid hZ
  have H0 := Lib.hid (h0.keep hbW (Nat.le_refl _))
  have H0' := Lib.hid (h0'.keep hbW (Nat.le_refl _))
  have HW := Lib.hid hW
  have WS := Lib.hid hWs
  have hws : w.heap.size ≤ W.heap.size := by omega
  have SS := Lib.hid hS
  have Y6 := Lib.hid hy
  have h30 : xs.length ≤ 30 := hS.n30
  have hyl : ys.length ≤ 6 := by omega
  have hmk := fun (W : World) => run_make_row' (P := Try.prog) 89 2 (.int .i64 0) 8 Try.underlying89 info64 rfl .i64 .i64 xs.length (by omega) (by omega) W
  have hmf : ∀ (fn : Fn) (first cap : Array Value) (w : World), (Instr.makeFunc fn first cap).run Try.prog w = .ok (.func fn first cap) w := fun _ _ _ _ => rfl
  have O0 := Lib.hid (show Own (W.alloc (.cells (madeCells #[.int .i64 0] xs.length) 2)) W.heap.size (.slice (some ⟨W.heap.size, 0, none⟩) xs.length xs.length) (vLs xs.length ys 0) from own_of_row (F := fun _ => 0) (Nat.le_refl _) (by omega) (World.rowIs_made W (.int .i64 0) xs.length 2))
  have B0 := Lib.hid (show Below W.heap.size W (W.alloc (.cells (madeCells #[.int .i64 0] xs.length) 2)) from (alloc_keep _ _).1)
  obtain ⟨lt, x0, x1, x2⟩ := X.out
  clear hbW hX hZ h0 h0' hW hWs hS hy
  go_enter Try.func72, Try.ntmps72
  go_wp2
  clear hmk x0 x1 x2
  rw [← HW.out]
  rw [show w.heap.size + 1 + 1 = W.heap.size from WS.out.symm]
  go_loopw [3, 14] (fun v i wr => ∃ (t : Nat) (a : Option Addr) (c : Nat), t ≤ ys.length ∧ i = .int .i64 t ∧ v = .slice a xs.length c ∧ Hid (Own wr W.heap.size (.slice a xs.length c) (vLs xs.length ys t)) ∧ Hid (Below W.heap.size W wr)) (fun _ i _ => ys.length - (intOf i).toNat)
  case atStart => exact ⟨0, _, _, Nat.zero_le _, rfl, rfl, O0, B0⟩
  case round =>
    clear O0 B0
    obtain ⟨t, a2, k2, ht, rfl, rfl, O, B⟩ := hrel
    have VL := Lib.hid (vLs_len xs.length ys t)
    by_cases hlt : t < ys.length
    · obtain ⟨yb, yo, rfl, hyb, hyc⟩ := (H0'.out.keep B.out (Nat.le_refl _)).2.resolve_left (by omega)
      have hcy := hyc t hlt
      clear hyc
      obtain ⟨V, hV, bV, cV, hVs⟩ : ∃ V, V = wr.alloc (.cells #[.int .i64 (nth ys t)] 2) ∧ Below wr.heap.size wr V ∧ V.cell? ⟨wr.heap.size, 0, none⟩ = some (.int .i64 (nth ys t)) ∧ wr.heap.size < V.heap.size := ⟨_, rfl, (alloc_keep _ _).1, World.cell?_alloc_at _ _ _ _ rfl, by simp⟩
      obtain ⟨a3, k3, e3, hat, -, -, -⟩ := O.out.at
      rw [VL.out] at e3 hat
      cases e3
      have RB := Lib.hid (show Calls Try.prog 108 #[.slice a2 xs.length k2, .func (.func 109) #[] #[.pointer (some ⟨wr.heap.size, 0, none⟩)]] V fun e w' => ∃ v, e = .returned v ∧ Own w' V.heap.size v (vLs xs.length ys (t + 1)) ∧ Below V.heap.size V w' by
        have q := refineB_any (vLs xs.length ys t) (fun j => bitB (nth ys t) j) wr.heap.size a2 k2 V (by rw [VL.out]; omega) (fun j _ => wfL h30 (vLs_bd t j)) (by rw [VL.out]; exact hat.keep bV (Nat.le_refl _)) (fun j hj W' hb => (lab1_any _ _ (nth ys t) W' (by omega) (by rw [VL.out] at hj; omega) ((hb.cell (p := ⟨wr.heap.size, 0, none⟩) hVs).trans cV)).mono fun e w' ⟨e1, e2⟩ => ⟨e1, by rw [e2]; exact Below.refl _ _⟩)
        rw [VL.out] at q
        exact q)
      have BV := Lib.hid (B.out.trans (bV.mono B.out.size))
      have HV := Lib.hid hV
      clear hV bV cV hVs hat
      go_wp2_with fail
      rw [← HV.out]
      refine RB.out.mono ?_
      rintro e w1 ⟨v1, rfl, ho, hb⟩
      obtain ⟨a4, k4, e4, -, -, -, -⟩ := ho.at
      rw [vLs_len] at e4
      subst e4
      have O1 := Lib.hid (ho.mono BV.out.size)
      have B1 := Lib.hid (BV.out.trans (hb.mono BV.out.size))
      clear ho hb hcy
      go_wp2
      go_roundw
      case rel => exact ⟨t + 1, _, _, hlt, by go_num, rfl, O1, B1⟩
      case measure => simp [intOf]; omega
    · have ht6 : t = 6 := by have := Y6.out; omega
      subst ht6
      obtain ⟨R, hR⟩ : ∃ R, R = wr.heap.size := ⟨_, rfl⟩
      obtain ⟨V, hV, bV, cV, hVs⟩ : ∃ V, V = wr.alloc (.cells #[.int .i64 xs.length, .slice a0 xs.length c0, .slice b0 ys.length d0, .slice none 0 0] 92) ∧ Below wr.heap.size wr V ∧ Cn V R xs.length a0 xs.length c0 b0 ys.length d0 (.slice none 0 0) ∧ R < V.heap.size := ⟨_, rfl, (alloc_keep _ _).1, by rw [hR]; exact Cn.new _ _ _ _ _ _ _ _ _, by rw [hR]; simp⟩
      have OV := Lib.hid (show Own V W.heap.size (.slice a2 xs.length k2) (cLs xs.length xs ys 0) from O.out.keep bV (Nat.le_refl _))
      have BV := Lib.hid (B.out.trans (bV.mono B.out.size))
      have CV := Lib.hid cV
      have RV := Lib.hid (show Rn V W.heap.size (.slice none 0 0) [] (cLs xs.length xs ys) 0 from ⟨World.ownsRow_nil _ _ _ _, fun j hj => absurd hj (by omega)⟩)
      have hRW : W.heap.size ≤ R := by rw [hR]; exact B.out.size
      have HV := Lib.hid hV
      have HR := Lib.hid hR
      obtain ⟨lt, x0, x1, x2⟩ := X.out.keep B.out
      clear hV bV cV hVs hR
      go_wp2
      clear x0 x1 x2
      rw [← HV.out, ← HR.out]
      have N0 := Lib.hid (show mesC xs ys 0 < xs.length + 4 ∧ 0 + (xs.length + 4) ≤ xs.length + 4 from ⟨by simp only [mesC]; omega, by omega⟩)
      go_loopg [3] (xs.length + 4) (fun g v wr => ∃ (k : Nat) (a : Option Addr) (c : Nat) (vR : Value) (us : List Value), v = .slice a xs.length c ∧ Hid (Own wr W.heap.size (.slice a xs.length c) (cLs xs.length xs ys k)) ∧ Hid (Cn wr R xs.length a0 xs.length c0 b0 ys.length d0 vR) ∧ Hid (Rn wr W.heap.size vR us (cLs xs.length xs ys) k) ∧ Hid (mesC xs ys k < g ∧ k + g ≤ xs.length + 4) ∧ Hid (∀ j, j + 1 < k → cLs xs.length xs ys j ≠ cLs xs.length xs ys (j + 1)) ∧ Hid (k = 0 → vR = .slice none 0 0) ∧ Hid (Below W.heap.size W wr))
      case atStart => exact ⟨0, a2, k2, _, [], rfl, OV, CV, RV, N0, Lib.hid (fun j hj => absurd hj (by omega)), Lib.hid (fun _ => rfl), BV⟩
      case round =>
        rename World => wo
        clear OV CV RV N0 BV HV HR O B
        obtain ⟨k, a, c, vR, us, rfl, O, C, RR, hm, NE, V0, B⟩ := hrel
        obtain ⟨m, hmm⟩ : ∃ m, gk = m + 1 := ⟨gk - 1, by have := hm.out.1; omega⟩
        have GK := Lib.hid hmm
        have TT := Lib.hid (show mesC xs ys k < m + 1 ∧ k + (m + 1) ≤ xs.length + 4 by rw [← hmm]; exact hm.out)
        have hk9 : k ≤ 34 := by have := hm.out.2; omega
        have CL := Lib.hid (cLs_len xs.length xs ys k)
        have UL := Lib.hid (show us.length = k by have := RR.out.1.1; omega)
        clear hmm hm
        cases k with
        | zero =>
          obtain rfl := V0.out rfl
          obtain ⟨q0, q1, q2, q3, qf⟩ := C.out.lit
          have NK := Lib.hid (show ∀ j, 0 = j + 1 → cLs xs.length xs ys j ≠ cLs xs.length xs ys (j + 1) from fun j e => absurd e (by omega))
          have NX := Lib.hid (show ∀ j, j + 1 < 0 + 1 → cLs xs.length xs ys j ≠ cLs xs.length xs ys (j + 1) from fun j e => absurd e (by omega))
          have RA := Lib.hid (RR.out.keep (alloc_keep wo (.cells #[.slice a xs.length c] 89)).1 (Nat.le_refl _))
          have CA := Lib.hid (show Cn (wo.alloc (.cells #[.slice a xs.length c] 89)) R xs.length a0 xs.length c0 b0 ys.length d0 (.slice none 0 0) from rowIs_below C.out (alloc_keep wo _).1 (rowIs_lt C.out))
          have OA := Lib.hid (O.out.keep (alloc_keep wo (.cells #[.slice a xs.length c] 89)).1 (Nat.le_refl _))
          have BA := Lib.hid (B.out.trans ((alloc_keep wo (.cells #[.slice a xs.length c] 89)).1.mono B.out.size))
          have hbs := B.out.size
          go_wp2_with (at_builtin; refine list_appP rfl _ _ rfl W.heap.size (.slice none (0) 0) (0) us rfl (RA.out.1) ⟨wo.heap.size, 0, none⟩ 1 (.slice a xs.length c) rfl rfl (World.cell?_alloc_at _ _ _ _ rfl) (by omega) (by simp; omega) ?_; intro v' w1' hown1 hgr1; obtain ⟨gV, cV, rfl⟩ := row_somP hown1; have CW := Lib.hid (show Cn w1' R xs.length a0 xs.length c0 b0 ys.length d0 (.slice none (0) 0) from CA.out.grownR RA.out.1 hgr1); obtain ⟨k0, k1, k2, k3, kf⟩ := CW.out.lit)
          have RW := Lib.hid (show Rn w1' W.heap.size (.slice (some ⟨gV, 0, none⟩) (0 + 1) cV) (us ++ [.slice a (cLs xs.length xs ys (0)).length c]) (cLs xs.length xs ys) (0 + 1) from RA.out.app (by rw [CL.out]; exact OA.out) (by rw [CL.out]; exact hown1) hgr1)
          have OW := Lib.hid (show Own w1' W.heap.size (.slice a xs.length c) (cLs xs.length xs ys (0)) from World.ownsRow.kept OA.out hgr1 (row_ne_row OA.out RA.out.1 (by decide)))
          have BW := Lib.hid (show Below W.heap.size W w1' from BA.out.grown hgr1 (by have := BA.out.size; omega) (fun j hj => (World.ownsRow.lt RA.out.1 j hj).1))
          clear hown1 hgr1 k0 k1 k2 k3 kf
          obtain ⟨V2, hV2⟩ : ∃ V2, V2 = w1'.setCell ⟨R, 3, none⟩ (.slice (some ⟨gV, 0, none⟩) (0 + 1) cV) := ⟨_, rfl⟩
          rw [← hV2]
          have C2 := Lib.hid (show Cn V2 R xs.length a0 xs.length c0 b0 ys.length d0 (.slice (some ⟨gV, 0, none⟩) (0 + 1) cV) by rw [hV2]; exact CW.out.set (.slice (some ⟨gV, 0, none⟩) (0 + 1) cV))
          have R2 := Lib.hid (show Rn V2 W.heap.size (.slice (some ⟨gV, 0, none⟩) (0 + 1) cV) (us ++ [.slice a (cLs xs.length xs ys (0)).length c]) (cLs xs.length xs ys) (0 + 1) by rw [hV2]; exact RW.out.grown CW.out (grown_setC _ _ _ _))
          have O2 := Lib.hid (show Own V2 W.heap.size (.slice a xs.length c) (cLs xs.length xs ys (0)) by rw [hV2]; exact World.ownsRow.kept OW.out (grown_setC _ _ _ _) (row_ne_is OW.out CW.out (by decide)))
          have B2 := Lib.hid (show Below W.heap.size W V2 by rw [hV2]; exact BW.out.setCell (p := ⟨R, 3, none⟩) hRW _)
          clear hV2 CW RW OW BW CA RA OA BA
          obtain ⟨a5, k5, e5, hat5, -, -, -⟩ := O2.out.at
          rw [CL.out] at e5 hat5
          cases e5
          have A2 := Lib.hid (show At V2 a (cLs xs.length xs ys (0)).length (cLs xs.length xs ys (0)) by rw [CL.out]; exact hat5)
          clear hat5
          obtain ⟨aR2, cR2, ev, hrf⟩ := R2.out.form
          cases ev
          obtain ⟨g2, eg, hg2, hg2', hgc⟩ := hrf.resolve_left (by omega)
          cases eg
          have US := Lib.hid (show V2.cell? ⟨gV, 0, none⟩ = some (.slice a (cLs xs.length xs ys (0)).length c) by
            rw [hgc (0) (by omega)]
            have hl : us.length = 0 := UL.out
            rw [List.getElem?_append_right (by omega), hl, Nat.sub_self]; rfl)
          clear hrf hgc
          have RI := Lib.hid (show Calls Try.prog 111 #[.slice a xs.length c, .func (.func 112) #[] #[.pointer (some ⟨R, 0, none⟩), .pointer (some ⟨w.heap.size, 0, none⟩)]] V2 fun e w' => ∃ v, e = .returned v ∧ Own w' V2.heap.size v (cLs xs.length xs ys (0 + 1)) ∧ Below V2.heap.size V2 w' by
            have q := refineI_any (cLs xs.length xs ys (0)) (fun j => coTo (cLs xs.length xs ys (0)) (nth xs j) xs.length) R w.heap.size a c V2 (by rw [CL.out]; omega) (fun j _ => wfL h30 (cLs_bd _ j)) (fun j _ => mk_wf h30 (co_in SS.out _ j).1) A2.out (fun j hj W' hb => lab2_any j R w.heap.size xs.length xs.length xs (cLs xs.length xs ys (0)) a0 xs.length c0 b0 ys.length d0 a0 c0 b0 ys.length d0 _ (0) _ a c W' (by omega) (by rw [CL.out] at hj; exact hj) h30 (Nat.lt_of_lt_of_le hg2' hb.size) (rowIs_below C2.out hb (rowIs_lt C2.out)) ((hb.cell (p := ⟨gV, 0, none⟩) hg2').trans US.out) (A2.out.keep hb (Nat.le_refl _)) CL.out (fun i => ⟨(cLs_bd _ i).1, by have := (cLs_bd (n := xs.length) (xs := xs) (ys := ys) (0) i).2; omega⟩) (X.out.keep (B2.out.trans (hb.mono B2.out.size))) (H0.out.keep (B2.out.trans (hb.mono B2.out.size)) (Nat.le_refl _)))
            rw [CL.out] at q
            exact q)
          refine RI.out.mono ?_
          rintro e w6 ⟨v6, rfl, ho, hb⟩
          obtain ⟨a6, k6, e6, -, -, -, -⟩ := ho.at
          rw [cLs_len] at e6
          subst e6
          have O6 := Lib.hid (ho.mono B2.out.size)
          have C6 := Lib.hid (show Cn w6 R _ _ _ _ _ _ _ _ from rowIs_below C2.out hb (rowIs_lt C2.out))
          have R6 := Lib.hid (R2.out.keep hb (Nat.le_refl _))
          have B6 := Lib.hid (B2.out.trans (hb.mono B2.out.size))
          clear ho hb
          go_wp2
          go_roundg m
          case measure => rw [GK.out]; omega
          case rel => exact ⟨0 + 1, _, _, _, _, rfl, O6, C6, R6, Lib.hid ⟨Nat.lt_of_lt_of_le (mesC_drop SS.out (0) NK.out) (Nat.le_of_lt_succ TT.out.1), by have := TT.out.2; omega⟩, Lib.hid NX.out, Lib.hid (fun e => absurd e (by omega)), B6⟩
        | succ k =>
          obtain ⟨aR, cR, er, hrr⟩ := RR.out.form
          subst er
          obtain ⟨q0, q1, q2, q3, qf⟩ := C.out.lit
          obtain ⟨g, rfl, hgB, hgl, hgc⟩ := hrr.resolve_left (by omega)
          obtain ⟨aj, cj, euj, hoj⟩ := RR.out.2 k (by omega)
          rw [cLs_len] at euj
          have UJ := (hgc k (by omega)).trans euj
          have OJ := Lib.hid hoj
          rw [cLs_len] at OJ
          clear hrr hgc euj hoj
          go_wp2_with fail
          clear q0 q1 q2 q3 qf
          refine (last_any xs.length a0 xs.length c0 b0 ys.length d0 g k cR _ wo (by omega) hgl UJ).mono ?_
          rintro e w2 ⟨rfl, hb⟩
          obtain ⟨a7, k7, e7, hat7, -, -, -⟩ := (OJ.out.keep hb (Nat.le_refl _)).at
          rw [cLs_len] at e7 hat7
          cases e7
          obtain ⟨a8, k8, e8, hat8, -, -, -⟩ := (O.out.keep hb (Nat.le_refl _)).at
          rw [CL.out] at e8 hat8
          cases e8
          have A7 := Lib.hid hat7
          have A8 := Lib.hid hat8
          have T2 := Lib.hid hb
          clear hb hat7 hat8 UJ
          obtain ⟨q0, q1, q2, q3, qf⟩ := Cn.lit (show Cn w2 R _ _ _ _ _ _ _ _ from rowIs_below C.out T2.out (rowIs_lt C.out))
          go_wp2_with fail
          clear q0 q1 q2 q3 qf
          refine (slEqualP_any (cLs xs.length xs ys k) (cLs xs.length xs ys (k + 1)) _ _ _ _ _ _ _ (by omega) (by omega) A7.out A8.out).mono ?_
          obtain ⟨st, hst⟩ : ∃ s, s = decide (cLs xs.length xs ys k = cLs xs.length xs ys (k + 1)) := ⟨_, rfl⟩
          rw [← hst]
          have ST := Lib.hid hst
          clear hst
          rintro e wq ⟨rfl, hb⟩
          have T3 := Lib.hid (T2.out.trans (hb.mono T2.out.size))
          clear hb
          have Cq := Lib.hid (show Cn wq R xs.length a0 xs.length c0 b0 ys.length d0 (.slice (some ⟨g, 0, none⟩) (k + 1) cR) from rowIs_below C.out T3.out (rowIs_lt C.out))
          have Oq := Lib.hid (O.out.keep T3.out (Nat.le_refl _))
          have Rq := Lib.hid (RR.out.keep T3.out (Nat.le_refl _))
          have Bq := Lib.hid (B.out.trans (T3.out.mono B.out.size))
          obtain ⟨q0, q1, q2, q3, qf⟩ := Cq.out.lit
          cases st
          · have HNE := Lib.hid (decide_eq_false_iff_not.1 ST.out.symm)
            have NK := Lib.hid (show ∀ j, k + 1 = j + 1 → cLs xs.length xs ys j ≠ cLs xs.length xs ys (j + 1) from fun j e => by
              obtain rfl : j = k := by omega
              exact HNE.out)
            have NX := Lib.hid (show ∀ j, j + 1 < k + 1 + 1 → cLs xs.length xs ys j ≠ cLs xs.length xs ys (j + 1) from fun j e => by
              by_cases q : j = k
              · subst q; exact HNE.out
              · exact NE.out j (by omega))
            have RA := Lib.hid (Rq.out.keep (alloc_keep wq (.cells #[.slice a xs.length c] 89)).1 (Nat.le_refl _))
            have CA := Lib.hid (show Cn (wq.alloc (.cells #[.slice a xs.length c] 89)) R xs.length a0 xs.length c0 b0 ys.length d0 (.slice (some ⟨g, 0, none⟩) (k + 1) cR) from rowIs_below Cq.out (alloc_keep wq _).1 (rowIs_lt Cq.out))
            have OA := Lib.hid (Oq.out.keep (alloc_keep wq (.cells #[.slice a xs.length c] 89)).1 (Nat.le_refl _))
            have BA := Lib.hid (Bq.out.trans ((alloc_keep wq (.cells #[.slice a xs.length c] 89)).1.mono Bq.out.size))
            have hbs := Bq.out.size
            clear Oq Rq Bq Cq T3 T2
            go_wp2_with (at_builtin; refine list_appP rfl _ _ rfl W.heap.size (.slice (some ⟨g, 0, none⟩) (k + 1) cR) (k + 1) us rfl (RA.out.1) ⟨wq.heap.size, 0, none⟩ 1 (.slice a xs.length c) rfl rfl (World.cell?_alloc_at _ _ _ _ rfl) (by omega) (by simp; omega) ?_; intro v' w1' hown1 hgr1; obtain ⟨gV, cV, rfl⟩ := row_somP hown1; have CW := Lib.hid (show Cn w1' R xs.length a0 xs.length c0 b0 ys.length d0 (.slice (some ⟨g, 0, none⟩) (k + 1) cR) from CA.out.grownR RA.out.1 hgr1); obtain ⟨k0, k1, k2, k3, kf⟩ := CW.out.lit)
            have RW := Lib.hid (show Rn w1' W.heap.size (.slice (some ⟨gV, 0, none⟩) (k + 1 + 1) cV) (us ++ [.slice a (cLs xs.length xs ys (k + 1)).length c]) (cLs xs.length xs ys) (k + 1 + 1) from RA.out.app (by rw [CL.out]; exact OA.out) (by rw [CL.out]; exact hown1) hgr1)
            have OW := Lib.hid (show Own w1' W.heap.size (.slice a xs.length c) (cLs xs.length xs ys (k + 1)) from World.ownsRow.kept OA.out hgr1 (row_ne_row OA.out RA.out.1 (by decide)))
            have BW := Lib.hid (show Below W.heap.size W w1' from BA.out.grown hgr1 (by have := BA.out.size; omega) (fun j hj => (World.ownsRow.lt RA.out.1 j hj).1))
            clear hown1 hgr1 k0 k1 k2 k3 kf
            obtain ⟨V2, hV2⟩ : ∃ V2, V2 = w1'.setCell ⟨R, 3, none⟩ (.slice (some ⟨gV, 0, none⟩) (k + 1 + 1) cV) := ⟨_, rfl⟩
            rw [← hV2]
            have C2 := Lib.hid (show Cn V2 R xs.length a0 xs.length c0 b0 ys.length d0 (.slice (some ⟨gV, 0, none⟩) (k + 1 + 1) cV) by rw [hV2]; exact CW.out.set (.slice (some ⟨gV, 0, none⟩) (k + 1 + 1) cV))
            have R2 := Lib.hid (show Rn V2 W.heap.size (.slice (some ⟨gV, 0, none⟩) (k + 1 + 1) cV) (us ++ [.slice a (cLs xs.length xs ys (k + 1)).length c]) (cLs xs.length xs ys) (k + 1 + 1) by rw [hV2]; exact RW.out.grown CW.out (grown_setC _ _ _ _))
            have O2 := Lib.hid (show Own V2 W.heap.size (.slice a xs.length c) (cLs xs.length xs ys (k + 1)) by rw [hV2]; exact World.ownsRow.kept OW.out (grown_setC _ _ _ _) (row_ne_is OW.out CW.out (by decide)))
            have B2 := Lib.hid (show Below W.heap.size W V2 by rw [hV2]; exact BW.out.setCell (p := ⟨R, 3, none⟩) hRW _)
            clear hV2 CW RW OW BW CA RA OA BA
            obtain ⟨a5, k5, e5, hat5, -, -, -⟩ := O2.out.at
            rw [CL.out] at e5 hat5
            cases e5
            have A2 := Lib.hid (show At V2 a (cLs xs.length xs ys (k + 1)).length (cLs xs.length xs ys (k + 1)) by rw [CL.out]; exact hat5)
            clear hat5
            obtain ⟨aR2, cR2, ev, hrf⟩ := R2.out.form
            cases ev
            obtain ⟨g2, eg, hg2, hg2', hgc⟩ := hrf.resolve_left (by omega)
            cases eg
            have US := Lib.hid (show V2.cell? ⟨gV, k + 1, none⟩ = some (.slice a (cLs xs.length xs ys (k + 1)).length c) by
              rw [hgc (k + 1) (by omega)]
              have hl : us.length = k + 1 := UL.out
              rw [List.getElem?_append_right (by omega), hl, Nat.sub_self]; rfl)
            clear hrf hgc
            have RI := Lib.hid (show Calls Try.prog 111 #[.slice a xs.length c, .func (.func 112) #[] #[.pointer (some ⟨R, 0, none⟩), .pointer (some ⟨w.heap.size, 0, none⟩)]] V2 fun e w' => ∃ v, e = .returned v ∧ Own w' V2.heap.size v (cLs xs.length xs ys (k + 1 + 1)) ∧ Below V2.heap.size V2 w' by
              have q := refineI_any (cLs xs.length xs ys (k + 1)) (fun j => coTo (cLs xs.length xs ys (k + 1)) (nth xs j) xs.length) R w.heap.size a c V2 (by rw [CL.out]; omega) (fun j _ => wfL h30 (cLs_bd _ j)) (fun j _ => mk_wf h30 (co_in SS.out _ j).1) A2.out (fun j hj W' hb => lab2_any j R w.heap.size xs.length xs.length xs (cLs xs.length xs ys (k + 1)) a0 xs.length c0 b0 ys.length d0 a0 c0 b0 ys.length d0 _ (k + 1) _ a c W' (by omega) (by rw [CL.out] at hj; exact hj) h30 (Nat.lt_of_lt_of_le hg2' hb.size) (rowIs_below C2.out hb (rowIs_lt C2.out)) ((hb.cell (p := ⟨gV, k + 1, none⟩) hg2').trans US.out) (A2.out.keep hb (Nat.le_refl _)) CL.out (fun i => ⟨(cLs_bd _ i).1, by have := (cLs_bd (n := xs.length) (xs := xs) (ys := ys) (k + 1) i).2; omega⟩) (X.out.keep (B2.out.trans (hb.mono B2.out.size))) (H0.out.keep (B2.out.trans (hb.mono B2.out.size)) (Nat.le_refl _)))
              rw [CL.out] at q
              exact q)
            refine RI.out.mono ?_
            rintro e w6 ⟨v6, rfl, ho, hb⟩
            obtain ⟨a6, k6, e6, -, -, -, -⟩ := ho.at
            rw [cLs_len] at e6
            subst e6
            have O6 := Lib.hid (ho.mono B2.out.size)
            have C6 := Lib.hid (show Cn w6 R _ _ _ _ _ _ _ _ from rowIs_below C2.out hb (rowIs_lt C2.out))
            have R6 := Lib.hid (R2.out.keep hb (Nat.le_refl _))
            have B6 := Lib.hid (B2.out.trans (hb.mono B2.out.size))
            clear ho hb
            go_wp2
            go_roundg m
            case measure => rw [GK.out]; omega
            case rel => exact ⟨k + 1 + 1, _, _, _, _, rfl, O6, C6, R6, Lib.hid ⟨Nat.lt_of_lt_of_le (mesC_drop SS.out (k + 1) NK.out) (Nat.le_of_lt_succ TT.out.1), by have := TT.out.2; omega⟩, Lib.hid NX.out, Lib.hid (fun e => absurd e (by omega)), B6⟩
          · have EQ := Lib.hid (decide_eq_true_iff.1 ST.out.symm)
            have Zq := Lib.hid (show Cn wq (w.heap.size + 1) 0 none 0 0 none 0 0 (.slice none 0 0) from rowIs_below Z.out Bq.out (rowIs_lt Z.out))
            obtain ⟨z0, z1, z2, z3, zf⟩ := Zq.out.lit
            have zg : ∀ o, wq.frozen? ⟨w.heap.size + 1, o, none⟩ = false := fun o => World.rowIs.frozen Zq.out o
            have zf0 := zg 0
            have zf1 := zg 1
            have zf2 := zg 2
            have hlz : w.heap.size + 1 < R := by have := WS.out; omega
            clear zg
            go_wp2
            exact bodyPost_ret (v := .agg #[.int .i64 xs.length, .slice a0 xs.length c0, .slice b0 ys.length d0, .slice (some ⟨g, 0, none⟩) (k + 1) cR]) (by simp [results, Try.results72, go_sem, z0, z1, z2, z3]) rfl ⟨k, _, us, rfl, (Rn.out4 Rq.out Zq.out).mono hws, EQ.out, fun j hj => NE.out j (by omega), (((((HB.out.trans (Bq.out.mono HB.out.size)).setCell (by show w.heap.size ≤ _; simp) _).setCell (by show w.heap.size ≤ _; simp) _).setCell (by show w.heap.size ≤ _; simp) _).setCell (by show w.heap.size ≤ _; simp) _)⟩

end Go.Proofs.Ytomldealpmohhaa
