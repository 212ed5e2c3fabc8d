/- The draws of the law about texts of point formulas. Conditions: those in the theorems. -/
import Derived.Test.YtfkdefmafhlmnaaDsP
import Derived.Test.YtfkdefmafhlmnaaPrR
import Derived.Test.YtfkdefmafhlmnaaPpV
import Derived.Test.YtfkdefmafhlmnaaJn16
namespace Go.Proofs.Ytfkdefmafhlmnaa
open Go.RowKit

/-- The list with another number at its first node. -/
def fdS (ls : List Pd) (x : Int) : List Pd := ls.set 0 (kp ls 0, x, tp ls 0)
theorem cellsP_setF (xs : List Pd) (h : 0 < xs.length) (x : Int) : (cellsP xs).set 1 (.int .i64 x) = cellsP (fdS xs x) := by
  cases xs with
  | nil => cases h
  | cons u xs => rfl

theorem grown_two {w w1 w2 w3 : World} {b : Nat} {r : Option Nat} (h : w.grownBy w1 (some b)) (h1 : Below w1.heap.size w1 w2) (h2 : w2.grownBy w3 r) (hr : ∀ k, r = some k → w.heap.size ≤ k) : w.grownBy w3 (some b) := by
  refine ⟨h2.os.trans (h1.os.trans h.os), h2.tape.trans (h1.tape.trans h.tape), h2.output.trans (h1.output.trans h.output), Nat.le_trans h.size (Nat.le_trans h1.size h2.size), fun i hi hne => ?_⟩
  have a1 := h.block i hi hne
  have a2 := h1.block i (Nat.lt_of_lt_of_le hi h.size)
  have a3 := h2.block i (Nat.lt_of_lt_of_le hi (Nat.le_trans h.size h1.size)) (fun e => by have := hr i e.symm; omega)
  exact a3.trans (a2.trans a1)

set_option maxHeartbeats 4000000 in
set_option maxRecDepth 100000 in
theorem l10Drawn_any (b : Nat) (a : Option Addr) (len cap B : Nat) (hBb : B ≤ b) (w : World) (hBw : B ≤ w.heap.size) (hsrc : Src w b a len cap) (hc : Code B w a len) :
    Calls Try.prog 33 #[.pointer (some ⟨b, 0, none⟩)] w fun e w' => (∃ v zs, e = .returned v ∧ OwnP w' w.heap.size v zs ∧ zs.length ≤ 100) ∧ w.grownBy w' (some b) := by
  have HS := Lib.hid hsrc
  have HC := Lib.hid hc
  have hlt := hsrc.lt
  clear hsrc hc
  go_enter Try.func33, Try.ntmps33
  go_wp2_with fail
  refine (l01Next_any b a len cap 8 _ B hBb HS.out HC.out).mono ?_
  rintro e w1 ⟨x, rfl, hx, hs, hg⟩
  have hx8 : (x : Int) < 8 := by omega
  have G1 := Lib.hid hg
  have S1 := Lib.hid hs
  have z1 : w.heap.size ≤ w1.heap.size := hg.size
  clear hx hs hg
  go_wp2_with fail
  refine (l10Some_any 3 (by omega) (by omega) b a len cap B hBb 8 (1 + (x : Int)) _ (by omega) (by omega) (by omega) S1.out (HC.out.grown G1.out hBb hBw)).mono ?_
  rintro e w2 ⟨⟨v2, ls, rfl, ho, p0, q0, -⟩, hs, hg⟩
  have ql : ls.length ≤ 15 := by omega
  have O2 := Lib.hid (ho.mono (B' := w.heap.size) z1)
  have G2 := Lib.hid (grown_trans G1.out hg)
  have S2 := Lib.hid hs
  have z2 : w.heap.size ≤ w2.heap.size := G2.out.size
  obtain ⟨g, cp, rfl⟩ : ∃ g cp, v2 = .slice (some ⟨g, 0, none⟩) ls.length cp := by
    rcases ho.2 with ⟨-, hn0⟩ | ⟨g, cap, cur, hv, -⟩
    · omega
    · exact ⟨g, cap, hv⟩
  have hgb : ¬ g = b := fun e => by have := (World.ownsRow.lt ho g rfl).1; omega
  clear ho hs hg q0
  go_wp2_with fail
  refine (l01Next_any b a len cap 24 _ B hBb S2.out (HC.out.grown G2.out hBb hBw)).mono ?_
  rintro e w3 ⟨y, rfl, hy, hs, hg⟩
  have O3 := Lib.hid (O2.out.keptM hg (by omega))
  have G3 := Lib.hid (grown_trans G2.out hg)
  have S3 := Lib.hid hs
  have z3 : w.heap.size ≤ w3.heap.size := G3.out.size
  clear hs hg hy
  by_cases y0 : y = 0
  · subst y0
    have BW := Lib.hid (show Below w3.heap.size w3 (w3.alloc (.cells #[.int .i64 0, .int .i64 0, .int .i64 0] 61)) from (Below.refl _ _).alloc (Nat.le_refl _) _)
    have OW := Lib.hid ((O3.out.inn.below BW.out (Nat.le_refl _)).1)
    have AW := Lib.hid (show AtP (w3.alloc (.cells #[.int .i64 0, .int .i64 0, .int .i64 0] 61)) (some ⟨w3.heap.size, 0, none⟩) 1 [(0, 0, 0)] by
      obtain ⟨a, cap, e, hat, -⟩ := (litP w3 w3.heap.size 0 0 0 (Nat.le_refl _)).at
      injection e with e1 e2 e3
      subst e1; exact hat)
    go_wp2_with (at_builtin; refine list_appPt rfl _ _ rfl w.heap.size _ ls rfl OW.out [(0, 0, 0)] (some ⟨w3.heap.size, 0, none⟩) 1 1 rfl AW.out (by decide) (by omega) (by have := BW.out.size; omega) ?_; intro v' w4 ho hg; have O4 := Lib.hid ho; have G4 := Lib.hid (show w.grownBy w4 (some b) from grown_two G3.out BW.out hg (fun k hk => (World.ownsRow.lt OW.out k hk).1)); clear ho hg)
    go_ret
    exact ⟨⟨_, _, rfl, O4.out, by simp; omega⟩, G4.out⟩
  have y01 : ((y : Int) == 0) = false := by simpa using y0
  by_cases y1 : y = 1
  · subst y1
    obtain ⟨W, hW⟩ : ∃ W, W = w3.alloc (.cells #[.int .i64 (-1), .int .i64 9, .int .i64 10, .int .i64 6] 2) := ⟨_, rfl⟩
    have BW := Lib.hid (show Below w3.heap.size w3 W by rw [hW]; exact (Below.refl _ _).alloc (Nat.le_refl _) _)
    have LW := Lib.hid (show W.ownsRow B 2 1 (.slice (some ⟨w3.heap.size, 0, none⟩) 4 4) 4 (([(-1), 9, 10, 6] : List Int).map (Value.int .i64)) by rw [hW]; exact World.ownsRow_lit w3 _ 4 (by omega) (by decide) rfl)
    have OW := Lib.hid ((O3.out.inn.below BW.out (Nat.le_refl _)).1)
    have SW := Lib.hid (S3.out.below BW.out (Nat.le_refl _))
    have GW := Lib.hid (grown_trans G3.out (grown_of_below BW.out (some b)))
    have HW := Lib.hid hW
    clear hW
    go_wp2_with fail
    rw [← HW.out]
    refine (l01Pick_any b a len cap w3.heap.size 4 4 [(-1), 9, 10, 6] W B hBb SW.out (HC.out.grown GW.out hBb hBw) rfl (by decide) (by decide) (by omega) LW.out).mono ?_
    rintro e w4 ⟨⟨x4, -, rfl⟩, -, hg⟩
    have O4 := Lib.hid (OW.out.keptM hg (by omega))
    have G4 := Lib.hid (grown_trans GW.out hg)
    clear hg
    have c4 : w4.cell? ⟨g, 1, none⟩ = some (.int .i64 (fp ls 0)) := (O4.out.cellAt 1 (by omega)).trans (cellsP_at ls 0 p0).2.1
    have f4 : w4.frozen? ⟨g, 1, none⟩ = false := O4.out.frozenAt 1
    have hs := O4.out.stored 1 (.int .i64 x4)
    rw [cellsP_setF ls p0 x4] at hs
    have O5 := Lib.hid (show OwnP (w4.setCell ⟨g, 1, none⟩ (.int .i64 x4)) w.heap.size (.slice (some ⟨g, 0, none⟩) ls.length cp) (fdS ls x4) from by
      unfold OwnP
      rw [show (fdS ls x4).length = ls.length by simp [fdS]]
      exact hs.1)
    have hgw : w.heap.size ≤ g := (World.ownsRow.lt O4.out g rfl).1
    have G5 := Lib.hid (grown_two G4.out (Below.refl _ _) hs.2 (fun k hk => by injection hk with hk; omega))
    clear hs
    go_wp2
    go_ret
    exact ⟨⟨_, _, rfl, O5.out, by simp [fdS]; omega⟩, G5.out⟩
  have y11 : ((y : Int) == 1) = false := by simpa using (show ¬ (y : Int) = 1 by omega)
  by_cases y2 : y = 2
  · subst y2
    obtain ⟨W, hW⟩ : ∃ W, W = w3.alloc (.cells #[.int .i64 (-1), .int .i64 9, .int .i64 3] 2) := ⟨_, rfl⟩
    have BW := Lib.hid (show Below w3.heap.size w3 W by rw [hW]; exact (Below.refl _ _).alloc (Nat.le_refl _) _)
    have LW := Lib.hid (show W.ownsRow B 2 1 (.slice (some ⟨w3.heap.size, 0, none⟩) 3 3) 3 (([(-1), 9, 3] : List Int).map (Value.int .i64)) by rw [hW]; exact World.ownsRow_lit w3 _ 3 (by omega) (by decide) rfl)
    have OW := Lib.hid ((O3.out.inn.below BW.out (Nat.le_refl _)).1)
    have SW := Lib.hid (S3.out.below BW.out (Nat.le_refl _))
    have GW := Lib.hid (grown_trans G3.out (grown_of_below BW.out (some b)))
    have HW := Lib.hid hW
    clear hW
    go_wp2_with fail
    rw [← HW.out]
    refine (l01Pick_any b a len cap w3.heap.size 3 3 [(-1), 9, 3] W B hBb SW.out (HC.out.grown GW.out hBb hBw) rfl (by decide) (by decide) (by omega) LW.out).mono ?_
    rintro e w4 ⟨⟨x4, -, rfl⟩, -, hg⟩
    have O4 := Lib.hid (OW.out.keptM hg (by omega))
    have G4 := Lib.hid (grown_trans GW.out hg)
    clear hg
    have c4 : w4.cell? ⟨g, 0, none⟩ = some (.int .i64 (kp ls 0)) := (O4.out.cellAt 0 (by omega)).trans (cellsP_at ls 0 p0).1
    have f4 : w4.frozen? ⟨g, 0, none⟩ = false := O4.out.frozenAt 0
    have hs := O4.out.stored 0 (.int .i64 x4)
    rw [show (cellsP ls).set 0 (.int .i64 x4) = cellsP (kdS ls 0 x4) from cellsP_set1 ls 0 p0 x4] at hs
    have O5 := Lib.hid (show OwnP (w4.setCell ⟨g, 0, none⟩ (.int .i64 x4)) w.heap.size (.slice (some ⟨g, 0, none⟩) ls.length cp) (kdS ls 0 x4) from by
      unfold OwnP
      rw [show (kdS ls 0 x4).length = ls.length by simp [kdS]]
      exact hs.1)
    have hgw : w.heap.size ≤ g := (World.ownsRow.lt O4.out g rfl).1
    have G5 := Lib.hid (grown_two G4.out (Below.refl _ _) hs.2 (fun k hk => by injection hk with hk; omega))
    clear hs
    go_wp2
    go_ret
    exact ⟨⟨_, _, rfl, O5.out, by simp [kdS]; omega⟩, G5.out⟩
  have y21 : ((y : Int) == 2) = false := by simpa using (show ¬ (y : Int) = 2 by omega)
  go_wp2
  go_ret
  exact ⟨⟨_, _, rfl, O3.out, by omega⟩, G3.out⟩

set_option maxHeartbeats 2000000 in
theorem DrawPointText_any (a : Option Addr) (len cap : Nat) (w : World) (hc : Code w.heap.size w a len) :
    Calls Try.prog 8 #[.slice a len cap] w fun e w' => (∃ v zs, e = .returned v ∧ OwnP w' w.heap.size v zs ∧ zs.length ≤ 100) ∧ Below w.heap.size w w' := by
  have HC0 := Lib.hid hc
  clear hc
  go_enter Try.func8, Try.ntmps8
  go_wp2_with fail
  refine (l01From_any a len cap w HC0.out).mono ?_
  rintro e w1 ⟨rfl, hs1, hb1⟩
  have S1 := Lib.hid hs1
  have HC := Lib.hid (HC0.out.below hb1)
  have hB1 : w.heap.size ≤ w1.heap.size := hb1.size
  have HB := Lib.hid hb1
  clear hs1 hb1 HC0
  go_wp2_with fail
  refine (l10Drawn_any w.heap.size a len cap w.heap.size (Nat.le_refl _) _ hB1 S1.out HC.out).mono ?_
  rintro e w2 ⟨⟨v, zs, rfl, ho, hl⟩, hg⟩
  have O2 := Lib.hid (ho.mono hB1)
  have B2 := Lib.hid (grown_below hg (Nat.le_refl _) HB.out hB1)
  clear ho hg
  go_wp2
  go_ret
  exact ⟨⟨_, _, rfl, O2.out, hl⟩, B2.out⟩

set_option maxHeartbeats 4000000 in
theorem DrawParsePoint_any (a : Option Addr) (len cap : Nat) (w : World) (hc : Code w.heap.size w a len) :
    Calls Try.prog 13 #[.slice a len cap] w fun e w' => (∃ t : ByteArray, e = .returned (.string t) ∧ t.size ≤ 1000) ∧ Below w.heap.size w w' := by
  have HC0 := Lib.hid hc
  clear hc
  go_enter Try.func13, Try.ntmps13
  go_wp2_with fail
  refine (l01From_any a len cap w HC0.out).mono ?_
  rintro e w1 ⟨rfl, hs1, hb1⟩
  have S1 := Lib.hid hs1
  have HC := Lib.hid (HC0.out.below hb1)
  have hB1 : w.heap.size ≤ w1.heap.size := hb1.size
  have HB := Lib.hid hb1
  clear hs1 hb1 HC0
  go_wp2_with fail
  refine (l01Next_any w.heap.size a len cap 8 _ w.heap.size (Nat.le_refl _) S1.out HC.out).mono ?_
  rintro e w2 ⟨x, rfl, hx, hs, hg⟩
  have hx8 : (x : Int) < 8 := by omega
  have G2 := Lib.hid hg
  have S2 := Lib.hid hs
  have z2 : w1.heap.size ≤ w2.heap.size := hg.size
  clear hx hs hg
  go_wp2_with fail
  refine (l10Some_any 4 (by omega) (by omega) w.heap.size a len cap w.heap.size (Nat.le_refl _) 8 (1 + (x : Int)) _ (by omega) (by omega) (by omega) S2.out (HC.out.grown G2.out (Nat.le_refl _) hB1)).mono ?_
  rintro e w3 ⟨⟨v3, ls, rfl, ho, p0, q0, f, hf, rfl⟩, hs, hg⟩
  have hz : f.sz ≤ 15 := by rw [Pt.enc_len] at q0; omega
  have G3 := Lib.hid (grown_trans G2.out hg)
  have S3 := Lib.hid hs
  have HF := Lib.hid hf
  obtain ⟨ad, cd, rfl, hat, hc1, hc2⟩ := ho.inn.at'
  obtain ⟨fb, fo, rfl, haf⟩ := hat.pformula (pt_is f hf (by omega)) hc1 hc2
  rw [toPt_enc f hf (by omega)] at haf
  have AF := Lib.hid haf
  obtain ⟨fl, hfl⟩ : ∃ fl, fl = f.enc.length := ⟨_, rfl⟩
  have hel : fl ≤ 15 := by rw [hfl, Pt.enc_len]; exact hz
  rw [← hfl] at AF ⊢
  clear ho hs hg hat hc1 hc2 haf hf hfl q0 p0
  go_wp2_with fail
  refine (l10Text_any f HF.out (by omega) fb fo fl cd _ (by omega) AF.out).mono ?_
  rintro e w4 ⟨rfl, hb⟩
  obtain ⟨t, ht⟩ : ∃ t, t = str f.wr := ⟨_, rfl⟩
  have hts : t.size ≤ 64 := by
    rw [ht]
    have := f.wr_len
    show f.wr.toArray.size ≤ 64
    simp
    omega
  rw [← ht]
  have G4 := Lib.hid (grown_trans G3.out (grown_of_below hb (some w.heap.size)))
  have S4 := Lib.hid (S3.out.below hb (Nat.le_refl _))
  clear hb ht AF
  go_wp2_with fail
  refine (l01Next_any w.heap.size a len cap 3 _ w.heap.size (Nat.le_refl _) S4.out (HC.out.grown G4.out (Nat.le_refl _) hB1)).mono ?_
  rintro e w5 ⟨y, rfl, hy, hs, hg⟩
  have G5 := Lib.hid (grown_trans G4.out hg)
  have S5 := Lib.hid hs
  have hB5 : w.heap.size ≤ w5.heap.size := Nat.le_trans hB1 G5.out.size
  clear hs hg hy
  by_cases y0 : y = 0
  · subst y0
    go_wp2_with fail
    refine (l01Damage_any w.heap.size a len cap t _ w.heap.size (Nat.le_refl _) hB5 (by omega) S5.out (HC.out.grown G5.out (Nat.le_refl _) hB1)).mono ?_
    rintro e w6 ⟨⟨u, rfl, hu⟩, -, hg⟩
    have G6 := Lib.hid (grown_trans G5.out hg)
    clear hg
    go_wp2
    go_ret
    exact ⟨⟨_, rfl, by omega⟩, grown_below G6.out (Nat.le_refl _) HB.out hB1⟩
  have y01 : ((y : Int) == 0) = false := by simpa using y0
  go_wp2
  go_ret
  exact ⟨⟨_, rfl, by omega⟩, grown_below G5.out (Nat.le_refl _) HB.out hB1⟩

end Go.Proofs.Ytfkdefmafhlmnaa
