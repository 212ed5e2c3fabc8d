/- What the program answers for the first model that refutes a formula: the walk. Conditions: the table of math/bits, and those in the theorems. -/
import Derived.Test.YtnoaaklkbfbdbaaDoorFiP
namespace Go.Proofs.YtnoaaklkbfbdbaaDoor
open Go.RowKit Go.Shelf

/-- The blocks of the result's cells. -/
def DD (C : Nat) (b : Nat) : Prop := C + 1 + 1 ≤ b ∧ b ≤ C + 1 + 1 + 1 + 1
theorem db_but {D : Nat → Prop} {w w' : World} (h : Db w) (hb : But D w w') (hd : ¬ D 0) : Db w' := fun j hj => hb.cell (p := ⟨0, j, none⟩) (h j hj) hd
theorem Db.drw {w : World} (h : Db w) : Db w.drew := h
theorem zF_in {xs : List Int} {zs : List Nd} (h8 : xs.length ≤ 8) (hr : Rel xs.length (nth xs)) (k : Nat) : InMk xs.length (zF xs zs k) :=
  InMk.not (by omega) (InMk.full (by omega)) (tr_in (by omega) hr (fun i => vlL_in _ _ _ i) _)

theorem Rs.drw {W : World} {b : Nat} {v : Value} {i j : Int} (h : Rs W b v i j) : Rs W.drew b v i j := ⟨h.c0, h.c1, h.c2, h.f0, h.f1, h.f2⟩
theorem sets_but (W : World) (C : Nat) (u x z : Value) : But (DD C) W (((W.setCell ⟨C + 1 + 1, 0, none⟩ u).setCell ⟨C + 1 + 1 + 1, 0, none⟩ x).setCell ⟨C + 1 + 1 + 1 + 1, 0, none⟩ z) :=
  ((But.set (show DD C (C + 1 + 1) from ⟨Nat.le_refl _, by omega⟩)).trans (But.set (show DD C (C + 1 + 1 + 1) from ⟨by omega, by omega⟩))).trans (But.set (show DD C (C + 1 + 1 + 1 + 1) from ⟨by omega, by omega⟩))
theorem sets_own {W : World} {C B : Nat} {v u x z : Value} {xs : List Int} (h : Own W B v xs) (hB : C + 1 + 1 + 1 + 1 < B) : Own (((W.setCell ⟨C + 1 + 1, 0, none⟩ u).setCell ⟨C + 1 + 1 + 1, 0, none⟩ x).setCell ⟨C + 1 + 1 + 1 + 1, 0, none⟩ z) B v xs :=
  (((h.inn.setOut (.inl (show C + 1 + 1 < B by omega))).setOut (.inl (show C + 1 + 1 + 1 < B by omega))).setOut (.inl hB)).1

attribute [local go_sem] Oper.semAt_some

set_option maxHeartbeats 4000000 in
set_option maxRecDepth 100000 in
theorem implFirstRefutation_v (n0 : Int) (xs : List Int) (zs : List Nd) (v0 : Value) (lo0 hi0 : Nat) (v1 : Value) (lo1 hi1 : Nat) (w : World) (hl0 : xs.length ≤ 1048576) (hl1 : zs.length ≤ 1048576) (h0 : InF w lo0 hi0 v0 n0 xs) (h1 : InN w lo1 hi1 v1 zs) (hT : Db w) :
    Calls Tryd.prog 10 #[v0, v1] w fun e w' => ∃ v, e = .returned (.tuple #[v, .int .i64 (fiW n0 xs zs), .int .i64 (fiC n0 xs zs)]) ∧ Own w' w.heap.size v (fiL n0 xs zs) ∧ Below w.heap.size w w' := by
  obtain ⟨a0, c0, rfl, hat0, -⟩ := h0.at
  obtain ⟨a1, c1, rfl, hn, hc1, hc2⟩ := h1.at'
  obtain ⟨W, hW, HB, X, Y, R, HS⟩ := boxFR w n0 a0 xs.length c0 a1 zs.length c1
  have H0 := Lib.hid (hat0.keep HB.out (Nat.le_refl _))
  have H1 := Lib.hid (hn.keep HB.out (Nat.le_refl _))
  have H0z := Lib.hid hat0
  have H1z := Lib.hid hn
  have HTz := Lib.hid hT
  have HT := Lib.hid (hT.keep HB.out (Nat.le_refl _))
  have HW := Lib.hid hW
  have x2 := Y.out
  obtain ⟨lt0, x0, x1⟩ := X.out
  have CSX := Lib.hid (fun (C : Nat) (hC : C = W.heap.size) => checkSearch_any n0 xs a0 c0 (some ⟨C, 0, none⟩) 1 1 (isB zs zs.length) (vrL zs) (W.alloc (.cells #[.slice a1 zs.length c1] 32)) hl0 (fun h => (vr_vs h).l6) (H0.out.keep (alloc_keep _ _).1 (Nat.le_refl _)) (af1 zs a1 c1 W hl1 H1.out C _ hC) (fun hb => vi1 zs a1 c1 W hl1 hb H1.out C _ hC))
  have HWS := HS.out
  have hres : Tryd.f10.results = #[.cell 4 22, .cell 5 2, .cell 6 2] := by kernel_rfl
  clear h0 h1 hat0 hn hW hT
  by_cases hz : rwC n0 xs zs = 0
  · refine (callsIn_wide (n := 6)).1 ?_
    refine callsIn_of_wp_marks Tryd.func10 rfl trivial ?_ rfl
    simp only [Tryd.ntmps10, List.size_toArray, List.length_cons, List.length_nil, Nat.reduceAdd, Nat.reduceSub, Array.replicate_succ, Array.replicate_zero, List.push_toArray, List.append_toArray, List.nil_append, List.cons_append]
    gi_wp2
    refine ⟨trivial, ?_⟩
    rw [← HW.out]
    refine (callsIn_wide.2 (CSX.out _ HWS.symm)).mono ?_
    rintro e w2 ⟨rfl, hb⟩
    have Z := Lib.hid (show csC n0 xs (isB zs zs.length) (vrL zs).length = 0 from hz)
    have RZ := Lib.hid hz
    rw [Z.out]
    have T2 := Lib.hid ((alloc_keep W _).1.trans (hb.mono (alloc_keep W _).1.size))
    obtain ⟨hf, hb', h16⟩ := csC_ok hz
    have ISB := Lib.hid hb'
    have VV := Lib.hid (vr_vs hb')
    obtain ⟨hn0, h8, -, hr⟩ := frB_ok hf
    have REL := Lib.hid hr
    clear hb hf hb' hr x0 x1 x2 lt0 hz
    obtain ⟨lt0, x0, x1⟩ := X.out.keep T2.out
    subst hn0
    have x2 := (T2.out.cell (p := ⟨w.heap.size + 1, 0, none⟩) (by have := HS.out; show w.heap.size + 1 < _; omega)).trans Y.out
    gi_wp2
    refine ⟨trivial, ?_⟩
    have VI1 := vi1 zs a1 c1 w2 hl1 ISB.out (H1.out.keep T2.out (Nat.le_refl _)) w2.heap.size 32 rfl
    refine (callsIn_wide.2 (modelsOn_any xs.length a0 xs.length c0 _ 1 1 (vrL zs) _ VV.out.l6 VI1)).mono ?_
    rintro e w3 ⟨bc, bf, bv, av, cv, rfl, hit, k1, k2, k3, k4, hb⟩
    have hk : w2.heap.size + 1 ≤ (w2.alloc (.cells #[.slice a1 zs.length c1] 32)).heap.size := by simp
    have b3 : Below w2.heap.size w2 w3 := (alloc_keep w2 _).1.trans (hb.mono (alloc_keep w2 _).1.size)
    have T3 := Lib.hid (T2.out.trans (b3.mono T2.out.size))
    have hs2 := T2.out.size
    have hs3 := b3.size
    have IT := Lib.hid hit
    have K1 := Lib.hid (show w.heap.size + 1 + 1 + 1 + 1 < bc by omega)
    have K2 := Lib.hid (show w.heap.size + 1 + 1 + 1 + 1 < bf by omega)
    have K3 := Lib.hid (show w.heap.size + 1 + 1 + 1 + 1 < bv by omega)
    have K4 := Lib.hid (show 0 < (vrL zs).length → ∀ q, av = some q → ¬ (w.heap.size + 1 + 1 ≤ q.block ∧ q.block ≤ w.heap.size + 1 + 1 + 1 + 1) from fun h q hq e => by have := k4 h q hq; omega)
    have lt3 : w.heap.size + 1 + 1 + 1 + 1 < w3.heap.size := by omega
    have R3 := Lib.hid (R.out.keep T3.out)
    clear hit k1 k2 k3 k4 hb hk b3 VI1 x0 x1 x2 lt0 hs2 hs3
    gi_wp2
    have h8' : xs.length ≤ 8 := h8
    have h16' : xs.length * (vrL zs).length ≤ 16 := by exact_mod_cast h16
    obtain ⟨f1, -, -⟩ := toFm_of ISB.out
    obtain ⟨b1, o1, ea1, hf1⟩ := (show ∃ b off, a1 = some ⟨b, off, none⟩ ∧ AtF w b off zs.length c1 (toFm zs) from AtN.fm' H1z.out hc1 hc2 ISB.out)
    subst ea1
    have HF := Lib.hid (fun W' (hb : But (DD w.heap.size) w3 W') => atF_but ((hf1.keep HB.out (Nat.le_refl _)).keep T3.out (Nat.le_refl _)) hb (by have := hf1.head.1; show ¬ (_ ∧ _); omega))
    have HA := Lib.hid (fun W' (hb : But (DD w.heap.size) w3 W') => hb.at (H0.out.keep T3.out (Nat.le_refl _)) (fun h0 q hq e => by
      subst hq
      obtain ⟨cb, co, e1, hlt, -⟩ := H0z.out.2.resolve_left (by omega)
      cases e1
      have e' : w.heap.size + 1 + 1 ≤ cb ∧ _ := e
      omega))
    have HY := Lib.hid (fun W' (hb : But (DD w.heap.size) w3 W') => hb.cell (p := ⟨w.heap.size + 1, 0, none⟩) ((T3.out.cell (p := ⟨w.heap.size + 1, 0, none⟩) (by have := HS.out; show w.heap.size + 1 < W.heap.size; omega)).trans Y.out) (by show ¬ (w.heap.size + 1 + 1 ≤ w.heap.size + 1 ∧ _); omega))
    have HD := Lib.hid (fun W' (hb : But (DD w.heap.size) w3 W') => db_but (HT.out.keep T3.out (Nat.le_refl _)) hb (fun q => by have := HTz.out.lt; have := q.1; omega))
    have FT := Lib.hid (fun ys a' c' w' (hm : Mo w' xs.length a0 a' xs ys) h => falsity_any (toFm zs) f1 xs.length xs ys a0 c0 a' c' b1 o1 zs.length c1 w' hl1 hm h)
    have ZI := Lib.hid (fun k => zF_in (zs := zs) h8' REL.out k)
    refine wpIn_rangeFunc_X (F := Fence.wide) (n := 6) rfl (by decide) (gf := 43) (lb := #[.pointer (some ⟨bc, 0, none⟩), .pointer (some ⟨bf, 0, none⟩), .pointer (some ⟨bv, 0, none⟩)]) rfl trivial (enters_of Tryd.func43 (by kernel_rfl) rfl)
      (D := DD w.heap.size) (Fx := FxM w3.heap.size xs.length a0 xs.length c0 (vrL zs)) (N := 2 ^ (xs.length * (vrL zs).length))
      (modelsOn_seq _ bc bf bv xs.length a0 xs.length c0 av cv (vrL zs) w3 (6 - 1) (by decide) VV.out h8' h16' IT.out (by have := K1.out; show ¬ (_ ∧ _); omega) (by have := K2.out; show ¬ (_ ∧ _); omega) (by have := K3.out; show ¬ (_ ∧ _); omega) K4.out) rfl (fun b hb => by have := hb.2; omega)
      (fun k W' => Rs W' (w.heap.size + 1 + 1) (.slice none 0 0) 0 0 ∧ (∀ j, j < k → zF xs zs j = 0) ∧ But (DD w.heap.size) w3 W')
      (fun c k W' => c = .ret ∧ (∃ b, Rs W' (w.heap.size + 1 + 1) (.slice (some ⟨b, 0, none⟩) 6 6) (nth (memTo (zF xs zs k).toNat 30) 0) 0 ∧ Own W' w3.heap.size (.slice (some ⟨b, 0, none⟩) 6 6) (vlL xs.length (vrL zs) k)) ∧ (∀ j, j < k → zF xs zs j = 0) ∧ ¬ zF xs zs k = 0 ∧ But (DD w.heap.size) w3 W')
      (fun k A B hi hb => ⟨hi.1.below hb lt3, hi.2.1, hi.2.2.then hb (Nat.le_refl _)⟩)
      (fun c k A B h hb => ⟨h.1, h.2.1.elim fun b q => ⟨b, q.1.keep hb, q.2.keep hb (Nat.le_refl _)⟩, h.2.2.1, h.2.2.2.1, h.2.2.2.2.then hb h.2.2.2.2.size⟩)
      (fun c k A l r o h hl hle => ⟨h.1, h.2.1.elim fun b q => ⟨b, q.1.putO hl rfl, own_putO q.2 hl rfl⟩, h.2.2.1, h.2.2.2.1, h.2.2.2.2.then (below_putObj A o hle) (Nat.le_refl _)⟩)
      ⟨R3.out, fun j hj => absurd hj (Nat.not_lt_zero _), But.refl _ _⟩
      (fun k x a' W' => ∃ B b, Bm W' B xs.length a0 xs.length c0 (some ⟨b, 0, none⟩) 6 6 ∧ At W' (some ⟨b, 0, none⟩) 6 (vlL xs.length (vrL zs) k) ∧ Own W' w3.heap.size (.slice (some ⟨b, 0, none⟩) 6 6) (vlL xs.length (vrL zs) k) ∧ a' = { tmps := #[.agg #[.int .i64 xs.length, .slice a0 xs.length c0], .slice (some ⟨b1, o1, none⟩) zs.length c1, .pointer (some ⟨w.heap.size, 0, none⟩), .pointer (some ⟨w.heap.size + 1, 0, none⟩), .pointer (some ⟨w.heap.size + 1 + 1, 0, none⟩), .pointer (some ⟨w.heap.size + 1 + 1 + 1, 0, none⟩), .pointer (some ⟨w.heap.size + 1 + 1 + 1 + 1, 0, none⟩), .int .i64 0, .pointer (some ⟨B, 0, none⟩), undef, .agg #[.int .i64 xs.length, .slice a0 xs.length c0], .slice (some ⟨b1, o1, none⟩) zs.length c1, .slice (some ⟨w.heap.size + 1 + 1 + 1 + 1 + 1, 0, none⟩) 1 1, .int .i64 0, .int .i64 0, .bool false, undef, .agg #[.int .i64 xs.length, .slice a0 xs.length c0], .slice (some ⟨b1, o1, none⟩) zs.length c1, .slice (some ⟨w2.heap.size, 0, none⟩) 1 1, .func (.func 43) #[] #[.pointer (some ⟨bc, 0, none⟩), .pointer (some ⟨bf, 0, none⟩), .pointer (some ⟨bv, 0, none⟩)], .agg #[.int .i64 xs.length, .slice a0 xs.length c0, .slice (some ⟨b, 0, none⟩) 6 6], undef, undef, undef, undef, undef, undef, undef, undef, undef], defers := [] })
      ?hax ?assign ?body ?done ?stop
    case hax =>
      rintro k x a' A l r o ⟨B, b, hbm, hat, hown, rfl⟩ hl _
      exact ⟨B, b, bm_putO hbm hl, at_putO hat hl, own_putO hown hl rfl, rfl⟩
    case assign =>
      rintro l k x W' K hi hs ⟨b, rfl, hat, -, hown⟩ hK
      gi_wp2
      exact hK _ _ (alloc_keep _ _).1 ⟨W'.heap.size, b, Bm.new _ _ _ _ _ _ _ _ _, hat.keep (alloc_keep _ _).1 (Nat.le_refl _), hown.keep (alloc_keep _ _).1 (Nat.le_refl _), rfl⟩
    case body =>
      rintro l k x a' W' hl hs ⟨hr0, hz0, hB⟩ ⟨B, b, hbm, hat, hown, rfl⟩ hk
      have MO := Lib.hid (show Mo W' xs.length a0 (some ⟨b, 0, none⟩) xs (vlL xs.length (vrL zs) k) from ⟨rfl, h8', ⟨(mksTo_iff (by omega) _ _).2 fun i _ => REL.out i, vlL_mks _ (by omega) _ _⟩, vlL_len _ _ _, HA.out _ hB, by rw [vlL_len]; exact hat⟩)
      obtain ⟨q, hq⟩ := Int.eq_ofNat_of_zero_le (ZI.out k).1
      have hq30 : q < 1073741824 := by
        have g := ((ZI.out k).bd (Nat.le_trans h8' (by decide))).2
        rw [hq] at g
        exact Int.ofNat_lt.1 (show ((q : Nat) : Int) < ((1073741824 : Nat) : Int) from g)
      have QQ := Lib.hid hq
      have FA := Lib.hid (fun w' (hw : Below W'.heap.size W' w') => show Calls Tryd.prog 29 #[.agg #[.int .i64 xs.length, .slice a0 xs.length c0, .slice (some ⟨b, 0, none⟩) 6 6], .slice (some ⟨b1, o1, none⟩) zs.length c1] w' fun e w'' => e = .returned (.int .i64 (q : Int)) ∧ Below w'.heap.size w' w'' by
        have g := FT.out _ _ 6 w' (MO.out.keep hw) ((HF.out _ hB).keep hw (Nat.le_refl _))
        rw [vlL_len, show bits .andNot .i64 (full xs.length) ((toFm zs).tr xs (vlL xs.length (vrL zs) k)) = (q : Int) from hq] at g
        exact g)
      have hy := HY.out _ hB
      obtain ⟨lb, m0, m1, m2⟩ := hbm
      have hmx : Tryd.prog.follows .mixedOrders = true := by kernel_rfl
      have BB := Lib.hid hB
      have ZZ := Lib.hid hz0
      have OW := Lib.hid hown
      have RR := Lib.hid hr0
      have DB := Lib.hid (HD.out _ hB)
      have BM := Lib.hid (show Bm W' B xs.length a0 xs.length c0 (some ⟨b, 0, none⟩) 6 6 from ⟨lb, m0, m1, m2⟩)
      clear hat hB hz0 hown hr0 hq
      by_cases h0 : q = 0
      · subst h0
        gi_wp2_with (refine ⟨trivial, ?_⟩; gi_at_call 29; refine (CallsIn.inRound l (callsIn_wide.2 (FA.out _ (Below.refl _ _)))).mono ?_; rintro e w4 ⟨rfl, hb4⟩; have B4 := Lib.hid hb4; clear hb4)
        have bt : But (DD w.heap.size) W' w4 := But.below B4.out
        exact ⟨bt, RR.out.keep B4.out, fun j hj => by rcases Nat.lt_succ_iff_lt_or_eq.1 hj with e | e; exact ZZ.out j e; subst e; exact QQ.out, BB.out.trans bt⟩
      · have hq1 : ((q : Int) == 0) = false := by simpa using h0
        have hq2 : ((q : Int) != 0) = true := by simpa using h0
        have LM := Lib.hid (fun w' (h : Db w') => leastMember_any q h0 hq30 w' h)
        gi_wp2_with (refine ⟨trivial, ?_⟩; gi_at_call 29; refine (CallsIn.inRound l (callsIn_wide.2 (FA.out _ (Below.refl _ _)))).mono ?_; rintro e w4 ⟨rfl, hb4⟩; have B4 := Lib.hid hb4; clear hb4 hy m0 m1 m2; obtain ⟨lb4, m0, m1, m2⟩ := BM.out.keep B4.out)
        have R4 := Lib.hid (RR.out.keep B4.out)
        obtain ⟨r0, r1, r2, s0, s1, s2⟩ := R4.out
        have D4 := Lib.hid (DB.out.keep B4.out (Nat.le_refl _))
        have CT := Lib.hid (ctz_head h0 hq30).1
        have LT := Lib.hid lt3
        have BT := Lib.hid (show But (DD w.heap.size) W' (((w4.setCell ⟨w.heap.size + 1 + 1, 0, none⟩ (.slice (some ⟨b, 0, none⟩) 6 6)).setCell ⟨w.heap.size + 1 + 1 + 1, 0, none⟩ (.int .i64 ((Lib.ctz 64 q : Nat) : Int))).setCell ⟨w.heap.size + 1 + 1 + 1 + 1, 0, none⟩ (.int .i64 0)) from (But.below B4.out).trans (sets_but _ _ _ _ _))
        have RST := Lib.hid (show Rs (((w4.setCell ⟨w.heap.size + 1 + 1, 0, none⟩ (.slice (some ⟨b, 0, none⟩) 6 6)).setCell ⟨w.heap.size + 1 + 1 + 1, 0, none⟩ (.int .i64 ((Lib.ctz 64 q : Nat) : Int))).setCell ⟨w.heap.size + 1 + 1 + 1 + 1, 0, none⟩ (.int .i64 0)) (w.heap.size + 1 + 1) (.slice (some ⟨b, 0, none⟩) 6 6) (nth (memTo (zF xs zs k).toNat 30) 0) 0 from by
          rw [QQ.out, Int.toNat_natCast, CT.out]
          exact R4.out.set)
        have OT := Lib.hid (sets_own (W := w4) (C := w.heap.size) (v := .slice (some ⟨b, 0, none⟩) 6 6) (u := .slice (some ⟨b, 0, none⟩) 6 6) (x := .int .i64 ((Lib.ctz 64 q : Nat) : Int)) (z := .int .i64 0) (OW.out.keep B4.out (Nat.le_refl _)) LT.out)
        gi_region_with_o (refine ⟨trivial, ?_⟩; gi_at_call 30; refine (CallsIn.inRound l (callsIn_wide.2 (LM.out _ (by first | exact D4.out | exact D4.out.drw)))).mono ?_; rintro e w5 ⟨rfl, rfl⟩)
        all_goals gi_wp2
        all_goals exact ⟨BT.out.drw, rfl, ⟨b, RST.out.drw, OT.out.keep (Below.refl _ _).drew (Nat.le_refl _)⟩, ZZ.out, fun e => h0 (Int.ofNat.inj (QQ.out.symm.trans e)), (BB.out.trans BT.out).drw⟩
    case done =>
      rintro E W' hE ⟨hr0, hz0, hB⟩ hK
      have RW := Lib.hid hr0
      have BB := Lib.hid hB
      have FN := Lib.hid (fi_none RZ.out hz0)
      have hE2 : ¬ DD w.heap.size E := fun q => by have := q.2; omega
      have hK2 : (((W'.setCell ⟨w.heap.size + 1 + 1, 0, none⟩ (.slice none 0 0)).setCell ⟨w.heap.size + 1 + 1 + 1, 0, none⟩ (.int .i64 0)).setCell ⟨w.heap.size + 1 + 1 + 1 + 1, 0, none⟩ (.int .i64 4)).heap[E]? = some (.deferred (some [])) :=
        ((sets_but W' w.heap.size (.slice none 0 0) (.int .i64 0) (.int .i64 4)).block E (Array.getElem?_eq_some_iff.1 hK).1 hE2).trans hK
      obtain ⟨r0, r1, r2, s0, s1, s2⟩ := hr0
      have HK := Lib.hid hK2
      have hCE : w.heap.size ≤ E := by omega
      have hC3 : w.heap.size ≤ w3.heap.size := by omega
      clear hK hK2 hz0 hB
      gi_wp2
      refine ⟨by simp, .inl ⟨_, _, rfl, run_takeDeferred HK.out, ?_⟩⟩
      refine ⟨_, results_rs hres ((RW.out.set (u := .slice none 0 0) (i' := 0) (j' := 4)).putO HK.out rfl) rfl rfl rfl, .slice none 0 0, by rw [FN.out.2.1, FN.out.2.2.1], by rw [FN.out.1]; exact World.ownsRow_nil _ _ _ _, ?_⟩
      exact HB.out.trans ((T3.out.mono HB.out.size).trans (((BB.out.trans (sets_but _ _ _ _ _)).out hC3 (fun k q => by have := q.1; omega)).trans (below_putObj _ _ hCE)))
    case stop =>
      rintro E c k W' hE hk ⟨rfl, ⟨b, hr0, hown⟩, hz0, hzk, hB⟩ hK
      have RW := Lib.hid hr0
      have BB := Lib.hid hB
      have OW := Lib.hid hown
      have FN := Lib.hid (fi_hit RZ.out (show k < fiN xs zs from hk) hz0 hzk)
      have HK := Lib.hid hK
      have hCE : w.heap.size ≤ E := by clear hk; omega
      have hC3 : w.heap.size ≤ w3.heap.size := by clear hk; omega
      clear hK hz0 hB hr0 hown hk hzk
      gi_wp2
      refine ⟨by simp, .inl ⟨_, _, rfl, run_takeDeferred HK.out, ?_⟩⟩
      refine ⟨_, results_rs hres (RW.out.putO HK.out rfl) rfl rfl rfl, .slice (some ⟨b, 0, none⟩) 6 6, by rw [FN.out.2.1, FN.out.2.2.1], by rw [FN.out.1]; exact (own_putO OW.out HK.out rfl).mono hC3, ?_⟩
      exact HB.out.trans ((T3.out.mono HB.out.size).trans ((BB.out.out hC3 (fun k q => by have := q.1; omega)).trans (below_putObj _ _ hCE)))
  · obtain ⟨z, hzz⟩ : ∃ z, z = csC n0 xs (isB zs zs.length) (vrL zs).length := ⟨_, rfl⟩
    have hz1 : (z == 0) = false := by rw [hzz]; simpa [rwC] using hz
    have hz2 : (z != 0) = true := by rw [hzz]; simpa [rwC] using hz
    obtain ⟨b1, b2, b3, -⟩ := fi_bad hz
    have ZZ := Lib.hid hzz
    rw [b1, b2, b3, show rwC n0 xs zs = z from hzz.symm]
    clear hz hzz b1 b2 b3
    refine (callsIn_wide (n := 6)).1 ?_
    refine callsIn_of_wp_marks Tryd.func10 rfl trivial ?_ rfl
    simp only [Tryd.ntmps10, List.size_toArray, List.length_cons, List.length_nil, Nat.reduceAdd, Nat.reduceSub, Array.replicate_succ, Array.replicate_zero, List.push_toArray, List.append_toArray, List.nil_append, List.cons_append]
    gi_wp2
    refine ⟨trivial, ?_⟩
    rw [← HW.out]
    refine (callsIn_wide.2 (CSX.out _ HWS.symm)).mono ?_
    rintro e w2 ⟨rfl, hb⟩
    rw [← ZZ.out]
    have T2 := Lib.hid (((alloc_keep W _).1.trans (hb.mono (alloc_keep W _).1.size)))
    clear hb x0 x1 x2 lt0
    have RR := Lib.hid (R.out.keep T2.out)
    obtain ⟨r0, r1, r2, q0, q1, q2⟩ := RR.out
    have RS := Lib.hid (RR.out.set (u := .slice none 0 0) (i' := 0) (j' := z))
    gi_wp2
    refine ⟨_, results_rs hres RS.out rfl rfl rfl, _, rfl, World.ownsRow_nil _ _ _ _, ?_⟩
    have hD : w.heap.size ≤ w2.heap.size := Nat.le_trans HB.out.size T2.out.size
    exact HB.out.trans ((((T2.out.mono HB.out.size).setCell (by show w.heap.size ≤ w.heap.size + 1 + 1; omega) _).setCell (by show w.heap.size ≤ w.heap.size + 1 + 1 + 1; omega) _).setCell (by show w.heap.size ≤ w.heap.size + 1 + 1 + 1 + 1; omega) _)

end Go.Proofs.YtnoaaklkbfbdbaaDoor
