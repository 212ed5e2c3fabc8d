/- The model's value of a point formula, at links and quantifiers. Conditions: those in the theorems. -/
import Derived.Test.YtbfnagmjnaacoaaHoL
import Derived.Test.YtbfnagmjnaacoaaTrans
namespace Go.Proofs.Ytbfnagmjnaacoaa
open Go.RowKit

theorem undrewH {C : Nat} {w w' : World} (h : Below C w.drew w') : Below C w w' := ⟨h.os, h.tape, h.output, h.size, h.block⟩

set_option maxHeartbeats 8000000 in
set_option maxRecDepth 100000 in
theorem hol_bi (k : Int) (f g : Pt) (hf : (Pt.bi k f g).ok) (ihf : HolC f) (ihg : HolC g) : HolC (.bi k f g) := by
  intro N a c xs a' d ys az cz zs b off len cap w hl hlx hly H hv h
  obtain ⟨hb, c1, c2, c3⟩ := h.head
  have hlen := h.len
  have hs : (Pt.bi k f g).sz = 1 + f.sz + g.sz := rfl
  have h0 : 0 < len := by omega
  replace c1 : w.cell? ⟨b, off, none⟩ = some (.int .i64 k) := c1
  replace c2 : w.cell? ⟨b, off + 1, none⟩ = some (.int .i64 0) := c2
  replace c3 : w.cell? ⟨b, off + 2, none⟩ = some (.int .i64 0) := c3
  obtain ⟨W, hW, HB, hWs, XB⟩ := boxHo w N a xs.length c a' ys.length d k 0 0
  have A0 := Lib.hid (h.keep HB.out (Nat.le_refl _))
  have H0 := Lib.hid (H.keep HB.out)
  have X := Lib.hid A0.out.left
  have Y := Lib.hid A0.out.right
  have LE := Lib.hid (fun W' (hW' : Below W.heap.size W W') => l10Left_any k f g hf b off len cap W' hl (A0.out.keep hW' (Nat.le_refl _)))
  have RI := Lib.hid (fun W' (hW' : Below W.heap.size W W') => l10Right_any k f g hf b off len cap W' hl (A0.out.keep hW' (Nat.le_refl _)))
  have IX := Lib.hid (fun W' (hW' : Below W.heap.size W W') => ihf N a c xs a' d ys az cz zs b (off + 3) f.sz (cap - 1) W' (by omega) hlx hly (H0.out.keep hW') hv.1 (X.out.keep hW' (Nat.le_refl _)))
  have IY := Lib.hid (fun W' (hW' : Below W.heap.size W W') => ihg N a c xs a' d ys az cz zs b (off + (1 + f.sz) * 3) g.sz (cap - (1 + f.sz)) W' (by omega) hlx hly (H0.out.keep hW') hv.2 (Y.out.keep hW' (Nat.le_refl _)))
  obtain ⟨p, hp⟩ : ∃ p, p = hol xs ys N f zs := ⟨_, rfl⟩
  obtain ⟨q, hq⟩ : ∃ q, q = hol xs ys N g zs := ⟨_, rfl⟩
  rw [← hp] at IX
  rw [← hq] at IY
  have HR := Lib.hid (show hol xs ys N (.bi k f g) zs = (if k = 4 then p && q else if k = 5 then p || q else !p || q) by rw [hp, hq]; rfl)
  obtain ⟨⟨m0, m1, m2⟩, k0, k1, k2⟩ := XB.out W (Below.refl _ _)
  have hk := hf.1
  have HW := Lib.hid hW
  rw [HR.out]
  clear h hlen hs H hv hf ihf ihg hW hWs hp hq HR
  rcases hk with rfl | rfl | rfl <;> cases p
  all_goals
    go_enter Try.func50, Try.ntmps50
    go_wp2
    rw [← HW.out]
    clear c1 c2 c3
    go_region_law (first | (go_simp; go_at_call 90; refine (LE.out _ (Below.refl _ _).drew).mono ?_; rintro e w' ⟨rfl, rfl⟩) | (go_simp; go_at_call 50; refine (IX.out _ (Below.refl _ _).drew).mono ?_; rintro e w1 ⟨rfl, hb1⟩; have T1 := Lib.hid (show Below W.heap.size W w1 from undrewH hb1); clear hb1))
    all_goals
      clear m0 m1 m2 k0 k1 k2
      obtain ⟨⟨m0, m1, m2⟩, k0, k1, k2⟩ := XB.out _ T1.out
      go_wp2
      first
      | (go_ret
         exact ⟨rfl, HB.out.trans (T1.out.mono HB.out.size)⟩)
      | (go_region_law (first | (go_simp; go_at_call 91; refine (RI.out _ T1.out.drew).mono ?_; rintro e w' ⟨rfl, rfl⟩) | (go_simp; go_at_call 50; refine (IY.out _ T1.out.drew).mono ?_; rintro e w2 ⟨rfl, hb2⟩; have T2 := Lib.hid (T1.out.trans (show Below W.heap.size _ w2 from (undrewH hb2).mono T1.out.size)); clear hb2))
         all_goals
           go_wp2
           go_ret
           exact ⟨rfl, HB.out.trans (T2.out.mono HB.out.size)⟩)

set_option maxHeartbeats 8000000 in
set_option maxRecDepth 100000 in
theorem hol_un (k x : Int) (f : Pt) (hf : (Pt.un k x f).ok) (ih : HolC f) : HolC (.un k x f) := by
  intro N a c xs a' d ys az cz zs b off len cap w hl hlx hly H hv h
  obtain ⟨hb, c1, c2, c3⟩ := h.head
  have hlen := h.len
  have hs : (Pt.un k x f).sz = 1 + f.sz := rfl
  have hfp := f.sz_pos
  have h0 : 1 < len := by omega
  replace c1 : w.cell? ⟨b, off, none⟩ = some (.int .i64 k) := c1
  replace c2 : w.cell? ⟨b, off + 1, none⟩ = some (.int .i64 x) := c2
  replace c3 : w.cell? ⟨b, off + 2, none⟩ = some (.int .i64 0) := c3
  obtain ⟨xn, rfl⟩ := Int.eq_ofNat_of_zero_le hf.2.1.1
  have hxn : xn < 10 := by have := hf.2.1.2; omega
  obtain ⟨W, hW, HB, hWs, XB⟩ := boxHo w N a xs.length c a' ys.length d k xn 0
  have H0 := Lib.hid (H.keep HB.out)
  have U := Lib.hid ((h.keep HB.out (Nat.le_refl _)).under)
  have i1 : (1 : Int) ≤ (len : Int) := by omega
  have i2 : ¬ cap = 1 := by have := h.2.1; omega
  have i3 : (len : Int) ≤ (cap : Int) := by have := h.2.1; omega
  have i4 : (1 : Int) ≤ (cap : Int) := by omega
  have hc2 := h.2.2
  unfold maxLen at hc2
  have hN := H.n
  have IH := Lib.hid (fun (g cp q : Nat) (W' : World) (hW' : Below W.heap.size W W') (hq : q < N) (hat : At W' (some ⟨g, 0, none⟩) 10 (zs.set xn q)) =>
    ih N a c xs a' d ys (some ⟨g, 0, none⟩) cp (zs.set xn q) b (off + 3) (len - 1) (cap - 1) W' (by omega) hlx hly ⟨hN, H.x, (H0.out.keep hW').atx, (H0.out.keep hW').aty, hat, H.wz.set hxn hq, fun h => by cases h⟩ (hv (by omega)) (U.out.keep hW' (Nat.le_refl _)))
  have OW := Lib.hid (l01Own_any zs az 10 cz W (by omega) H0.out.atz H.cap)
  obtain ⟨pf, hpf⟩ : ∃ pf : Nat → Bool, pf = fun (q : Nat) => hol xs ys N f (zs.set xn (q : Int)) := ⟨_, rfl⟩
  have IH2 := Lib.hid (fun (g cp q : Nat) (W' : World) (hW' : Below W.heap.size W W') (hq : q < N) (hat : At W' (some ⟨g, 0, none⟩) 10 (zs.set xn q)) => (show Calls Try.prog 50 #[.agg #[.int .i64 N, .slice a xs.length c, .slice a' ys.length d], .slice (some ⟨b, off + 3, none⟩) (len - 1) (cap - 1), .slice (some ⟨g, 0, none⟩) 10 cp] W' fun e w' => e = .returned (.bool (pf q)) ∧ Below W'.heap.size W' w' from by rw [hpf]; exact IH.out g cp q W' hW' hq hat))
  have HR7 := Lib.hid (show hol xs ys N (.un 7 xn f) zs = (alT (fun q => pf q == true) N == true) by rw [hpf]; simp only [hol, Int.toNat_natCast]; rfl)
  have HR8 := Lib.hid (show hol xs ys N (.un 8 xn f) zs = (alT (fun q => pf q == false) N == false) by rw [hpf]; simp only [hol, Int.toNat_natCast]; rfl)
  have hz10 := H.wz.1
  obtain ⟨⟨m0, m1, m2⟩, k0, k1, k2⟩ := XB.out W (Below.refl _ _)
  have hk := hf.1
  have HW := Lib.hid hW
  have ZL := Lib.hid hz10
  clear h hlen hs H hv hf ih hW hWs hpf IH hfp hz10
  rcases hk with rfl | rfl
  · rw [HR7.out]
    clear HR7 HR8
    go_enter Try.func50, Try.ntmps50
    go_wp2_with fail
    rw [← HW.out]
    refine OW.out.mono ?_
    rintro e w1 ⟨g, cp, rfl, hg, how, hb1⟩
    have T1 := Lib.hid hb1
    have O1 := Lib.hid how
    clear hb1 how c1 c2 c3 m0 m1 m2 k0 k1 k2
    obtain ⟨⟨m0, m1, m2⟩, k0, k1, k2⟩ := XB.out _ T1.out
    go_wp2
    clear m0 m1 m2 k0 k1 k2
    go_loopw [10] (fun i wr => ∃ j : Nat, j ≤ N ∧ i = .int .i64 j ∧ Hid (Below W.heap.size W wr) ∧ Hid (∃ ls : List Int, ls.length = 10 ∧ (∀ q : Int, ls.set xn q = zs.set xn q) ∧ wr.ownsRow W.heap.size 2 1 (.slice (some ⟨g, 0, none⟩) 10 cp) 10 (ls.map (Value.int .i64))) ∧ Hid (alT (fun q => pf q == true) j = true)) (fun i _ => N - (intOf i).toNat)
    case atStart => exact ⟨0, Nat.zero_le _, rfl, T1, Lib.hid ⟨zs, ZL.out, fun q => rfl, O1.out⟩, Lib.hid rfl⟩
    case round =>
      obtain ⟨j, hj, rfl, B, R, P⟩ := hrel
      obtain ⟨⟨m0, m1, m2⟩, k0, k1, k2⟩ := XB.out _ B.out
      by_cases hlt : j < N
      · obtain ⟨ls, hls, hset, hown⟩ := R.out
        have hc0 : wr.cell? ⟨g, xn, none⟩ = some (.int .i64 (nth ls xn)) := (hown.cellAt xn (by omega)).trans (nth_map (by omega))
        have hfz : wr.frozen? ⟨g, xn, none⟩ = false := hown.frozenAt _
        obtain ⟨ws, hws⟩ : ∃ ws, ws = wr.setCell ⟨g, xn, none⟩ (.int .i64 j) := ⟨_, rfl⟩
        have ho2 : ws.ownsRow W.heap.size 2 1 (.slice (some ⟨g, 0, none⟩) 10 cp) 10 ((zs.set xn j).map (Value.int .i64)) := by
          have := (hown.stored xn (.int .i64 j)).1
          rw [hws, ← hset, List.map_set]
          exact this
        have B2 := Lib.hid (show Below W.heap.size W ws by rw [hws]; exact B.out.setCell (p := ⟨g, xn, none⟩) hg _)
        have hat : At ws (some ⟨g, 0, none⟩) 10 (zs.set xn j) := by
          have hl2 : (zs.set xn (j : Int)).length = 10 := by rw [List.length_set]; exact ZL.out
          have hO : Own ws W.heap.size (.slice (some ⟨g, 0, none⟩) 10 cp) (zs.set xn j) := by unfold Own; rw [hl2]; exact ho2
          obtain ⟨aa, cc, hv1, hat1, -⟩ := hO.at
          simp only [Value.slice.injEq] at hv1
          rw [hl2] at hat1
          rw [← hv1.1] at hat1
          exact hat1
        have HO := Lib.hid ho2
        have CL := Lib.hid (IH2.out g cp j ws.drew B2.out.drew hlt hat)
        have HWS := Lib.hid hws
        have hxl : (xn : Int) < 10 := by omega
        obtain ⟨⟨n0, n1, n2⟩, l0, l1, l2⟩ := XB.out _ B2.out
        obtain ⟨r, hr⟩ : ∃ r, r = pf j := ⟨_, rfl⟩
        have HRr := Lib.hid hr
        rw [← hr] at CL
        clear hown hset hls hws ho2 hat hr R
        go_wp2
        rw [← HWS.out]
        clear m0 m1 m2 k0 k1 k2 hc0 hfz
        cases r
        all_goals
          go_region_law (first | (go_simp; go_at_call 50; refine CL.out.mono ?_; rintro e w2 ⟨rfl, hb2⟩; have T2 := Lib.hid (show Below ws.heap.size ws w2 from undrewH hb2); clear hb2))
          all_goals
            go_wp2
            first
            | (go_ret
               exact ⟨ret_bool (by rw [alT_no hlt (by rw [← HRr.out]; rfl)]; rfl), HB.out.trans ((B2.out.trans (T2.out.mono B2.out.size)).mono HB.out.size)⟩)
            | (go_roundw
               case rel => exact ⟨j + 1, hlt, by go_num, Lib.hid (B2.out.trans (T2.out.mono B2.out.size)), Lib.hid ⟨zs.set xn j, by rw [List.length_set]; exact ZL.out, fun q => List.set_set .., World.ownsRow.kept HO.out (row := none) ⟨T2.out.os, T2.out.tape, T2.out.output, T2.out.size, fun i hi _ => T2.out.block i hi⟩ (by right; intro e; cases e)⟩, Lib.hid (alT_next P.out (by rw [← HRr.out]; rfl))⟩
               case measure => simp [intOf]; omega)
      · obtain rfl : j = N := by omega
        go_wp2
        go_ret
        exact ⟨ret_bool (by rw [P.out]; rfl), HB.out.trans (B.out.mono HB.out.size)⟩
  · rw [HR8.out]
    clear HR7 HR8
    go_enter Try.func50, Try.ntmps50
    go_wp2_with fail
    rw [← HW.out]
    refine OW.out.mono ?_
    rintro e w1 ⟨g, cp, rfl, hg, how, hb1⟩
    have T1 := Lib.hid hb1
    have O1 := Lib.hid how
    clear hb1 how c1 c2 c3 m0 m1 m2 k0 k1 k2
    obtain ⟨⟨m0, m1, m2⟩, k0, k1, k2⟩ := XB.out _ T1.out
    go_wp2
    clear m0 m1 m2 k0 k1 k2
    go_loopw [10] (fun i wr => ∃ j : Nat, j ≤ N ∧ i = .int .i64 j ∧ Hid (Below W.heap.size W wr) ∧ Hid (∃ ls : List Int, ls.length = 10 ∧ (∀ q : Int, ls.set xn q = zs.set xn q) ∧ wr.ownsRow W.heap.size 2 1 (.slice (some ⟨g, 0, none⟩) 10 cp) 10 (ls.map (Value.int .i64))) ∧ Hid (alT (fun q => pf q == false) j = true)) (fun i _ => N - (intOf i).toNat)
    case atStart => exact ⟨0, Nat.zero_le _, rfl, T1, Lib.hid ⟨zs, ZL.out, fun q => rfl, O1.out⟩, Lib.hid rfl⟩
    case round =>
      obtain ⟨j, hj, rfl, B, R, P⟩ := hrel
      obtain ⟨⟨m0, m1, m2⟩, k0, k1, k2⟩ := XB.out _ B.out
      by_cases hlt : j < N
      · obtain ⟨ls, hls, hset, hown⟩ := R.out
        have hc0 : wr.cell? ⟨g, xn, none⟩ = some (.int .i64 (nth ls xn)) := (hown.cellAt xn (by omega)).trans (nth_map (by omega))
        have hfz : wr.frozen? ⟨g, xn, none⟩ = false := hown.frozenAt _
        obtain ⟨ws, hws⟩ : ∃ ws, ws = wr.setCell ⟨g, xn, none⟩ (.int .i64 j) := ⟨_, rfl⟩
        have ho2 : ws.ownsRow W.heap.size 2 1 (.slice (some ⟨g, 0, none⟩) 10 cp) 10 ((zs.set xn j).map (Value.int .i64)) := by
          have := (hown.stored xn (.int .i64 j)).1
          rw [hws, ← hset, List.map_set]
          exact this
        have B2 := Lib.hid (show Below W.heap.size W ws by rw [hws]; exact B.out.setCell (p := ⟨g, xn, none⟩) hg _)
        have hat : At ws (some ⟨g, 0, none⟩) 10 (zs.set xn j) := by
          have hl2 : (zs.set xn (j : Int)).length = 10 := by rw [List.length_set]; exact ZL.out
          have hO : Own ws W.heap.size (.slice (some ⟨g, 0, none⟩) 10 cp) (zs.set xn j) := by unfold Own; rw [hl2]; exact ho2
          obtain ⟨aa, cc, hv1, hat1, -⟩ := hO.at
          simp only [Value.slice.injEq] at hv1
          rw [hl2] at hat1
          rw [← hv1.1] at hat1
          exact hat1
        have HO := Lib.hid ho2
        have CL := Lib.hid (IH2.out g cp j ws.drew B2.out.drew hlt hat)
        have HWS := Lib.hid hws
        have hxl : (xn : Int) < 10 := by omega
        obtain ⟨⟨n0, n1, n2⟩, l0, l1, l2⟩ := XB.out _ B2.out
        obtain ⟨r, hr⟩ : ∃ r, r = pf j := ⟨_, rfl⟩
        have HRr := Lib.hid hr
        rw [← hr] at CL
        clear hown hset hls hws ho2 hat hr R
        go_wp2
        rw [← HWS.out]
        clear m0 m1 m2 k0 k1 k2 hc0 hfz
        cases r
        all_goals
          go_region_law (first | (go_simp; go_at_call 50; refine CL.out.mono ?_; rintro e w2 ⟨rfl, hb2⟩; have T2 := Lib.hid (show Below ws.heap.size ws w2 from undrewH hb2); clear hb2))
          all_goals
            go_wp2
            first
            | (go_ret
               exact ⟨ret_bool (by rw [alT_no hlt (by rw [← HRr.out]; rfl)]; rfl), HB.out.trans ((B2.out.trans (T2.out.mono B2.out.size)).mono HB.out.size)⟩)
            | (go_roundw
               case rel => exact ⟨j + 1, hlt, by go_num, Lib.hid (B2.out.trans (T2.out.mono B2.out.size)), Lib.hid ⟨zs.set xn j, by rw [List.length_set]; exact ZL.out, fun q => List.set_set .., World.ownsRow.kept HO.out (row := none) ⟨T2.out.os, T2.out.tape, T2.out.output, T2.out.size, fun i hi _ => T2.out.block i hi⟩ (by right; intro e; cases e)⟩, Lib.hid (alT_next P.out (by rw [← HRr.out]; rfl))⟩
               case measure => simp [intOf]; omega)
      · obtain rfl : j = N := by omega
        go_wp2
        go_ret
        exact ⟨ret_bool (by rw [P.out]; rfl), HB.out.trans (B.out.mono HB.out.size)⟩

theorem l10Holds_any (f : Pt) (hf : f.ok) : HolC f := by
  induction f with
  | le k x y =>
    rcases hf with ⟨rfl | rfl, h1, h2, h3, h4⟩ | ⟨rfl, h1, h2, h3, h4⟩ | ⟨rfl, rfl, rfl⟩
    · exact hol_s x y h1 h2 h3 h4
    · exact hol_e x y h1 h2 h3 h4
    · exact hol_v x y h1 h2 h3 h4
    · exact hol_f
  | un k x a ih => exact hol_un k x a hf (ih hf.2.2)
  | bi k a b iha ihb => exact hol_bi k a b hf (iha hf.2.1) (ihb hf.2.2)

end Go.Proofs.Ytbfnagmjnaacoaa
