/- The draw of point formulas: what l10Some draws is one. Conditions: those in the theorems. -/
import Derived.Test.YtfkdefmafhlmnaaJn03
import Derived.Test.YtfkdefmafhlmnaaDrawN
import Derived.Test.YtfkdefmafhlmnaaPmR
namespace Go.Proofs.Ytfkdefmafhlmnaa
open Go.RowKit

/-- A list of point nodes is one formula's. -/
def IsPf (zs : List Pd) : Prop := ∃ f : Pt, f.ok ∧ zs = f.enc
def DrewP (w : World) (b : Nat) (a : Option Addr) (len cap : Nat) (n : Nat) (e : Ending) (w' : World) : Prop :=
  (∃ v zs, e = .returned v ∧ OwnP w' w.heap.size v zs ∧ 0 < zs.length ∧ zs.length ≤ n ∧ IsPf zs) ∧ Src w' b a len cap ∧ w.grownBy w' (some b)

set_option maxHeartbeats 8000000 in
set_option maxRecDepth 100000 in
theorem l10Some_any (p : Int) (hp1 : 1 ≤ p) (hp2 : p ≤ 10) (b : Nat) (a : Option Addr) (len cap B : Nat) (hBb : B ≤ b) : ∀ (N : Nat) (s : Int) (w : World), s ≤ N + 1 → N ≤ 64 → B ≤ w.heap.size → Src w b a len cap → Code B w a len →
    Calls Try.prog 40 #[.pointer (some ⟨b, 0, none⟩), .int .i64 s, .int .i64 p] w (DrewP w b a len cap (max 1 (2 * s.toNat - 1))) := by
  intro N
  induction N with
  | zero =>
    intro s w hs hN hBw hsrc hc
    have hs2 : s < 2 := by omega
    have HS := Lib.hid hsrc
    have HC := Lib.hid hc
    have hlt := hsrc.lt
    clear hsrc hc
    go_enter Try.func40, Try.ntmps40
    go_wp2_with fail
    refine (l01Next_any b a len cap 5 _ B hBb HS.out HC.out).mono ?_
    rintro e w1 ⟨x, rfl, hx, hs, hg⟩
    have hx : (x : Int) < 5 := by omega
    have G1 := Lib.hid hg
    have S1 := Lib.hid hs
    have z1 : w.heap.size ≤ w1.heap.size := G1.out.size
    clear hx hs hg
    by_cases hx0 : x = 0
    · subst hx0
      go_wp2_with fail
      refine (l01Next_any b a len cap p _ B hBb S1.out (HC.out.grown G1.out hBb hBw)).mono ?_
      rintro e w2 ⟨y, rfl, hx, hs, hg⟩
      have hy : (y : Int) < p := by omega
      have G2 := Lib.hid (grown_trans G1.out hg)
      have S2 := Lib.hid hs
      have z2 : w.heap.size ≤ w2.heap.size := G2.out.size
      clear hx hs hg
      go_wp2_with fail
      refine (l01Next_any b a len cap p _ B hBb S2.out (HC.out.grown G2.out hBb hBw)).mono ?_
      rintro e w3 ⟨z, rfl, hx, hs, hg⟩
      have hz : (z : Int) < p := by omega
      have G3 := Lib.hid (grown_trans G2.out hg)
      have S3 := Lib.hid hs
      have z3 : w.heap.size ≤ w3.heap.size := G3.out.size
      clear hx hs hg
      go_wp2_with fail
      refine (l10One_any 1 y z _).mono ?_
      rintro e w4 ⟨v4, rfl, ho, hb⟩
      have OF := Lib.hid (ho.mono (B' := w.heap.size) z3)
      have G4 := Lib.hid (grown_trans G3.out (grown_of_below hb (some b)))
      have S4 := Lib.hid (S3.out.below hb (Nat.le_refl _))
      clear ho hb
      go_wp2
      go_ret
      exact ⟨⟨_, _, rfl, OF.out, by simp, by simp; omega, ⟨.le 1 y z, .inl ⟨by omega, by omega, by omega, by omega, by omega⟩, rfl⟩⟩, S4.out, G4.out⟩
    have hx1 : ((x : Int) == 0) = false := by simpa using hx0
    by_cases hx2 : x = 1
    · subst hx2
      go_wp2_with fail
      refine (l01Next_any b a len cap 2 _ B hBb S1.out (HC.out.grown G1.out hBb hBw)).mono ?_
      rintro e w2 ⟨y, rfl, hx, hs, hg⟩
      have hy : (y : Int) < 2 := by omega
      have G2 := Lib.hid (grown_trans G1.out hg)
      have S2 := Lib.hid hs
      have z2 : w.heap.size ≤ w2.heap.size := G2.out.size
      clear hx hs hg
      go_wp2_with fail
      refine (l01Next_any b a len cap p _ B hBb S2.out (HC.out.grown G2.out hBb hBw)).mono ?_
      rintro e w3 ⟨z, rfl, hx, hs, hg⟩
      have hz : (z : Int) < p := by omega
      have G3 := Lib.hid (grown_trans G2.out hg)
      have S3 := Lib.hid hs
      have z3 : w.heap.size ≤ w3.heap.size := G3.out.size
      clear hx hs hg
      go_wp2_with fail
      refine (l10One_any 2 y z _).mono ?_
      rintro e w4 ⟨v4, rfl, ho, hb⟩
      have OF := Lib.hid (ho.mono (B' := w.heap.size) z3)
      have G4 := Lib.hid (grown_trans G3.out (grown_of_below hb (some b)))
      have S4 := Lib.hid (S3.out.below hb (Nat.le_refl _))
      clear ho hb
      go_wp2
      go_ret
      exact ⟨⟨_, _, rfl, OF.out, by simp, by simp; omega, ⟨.le 2 y z, .inr (.inl ⟨rfl, by omega, by omega, by omega, by omega⟩), rfl⟩⟩, S4.out, G4.out⟩
    have hx3 : ((x : Int) == 1) = false := by simpa using (show ¬ (x : Int) = 1 by omega)
    by_cases hx4 : x = 2
    · subst hx4
      go_wp2_with fail
      refine (l01Next_any b a len cap 3 _ B hBb S1.out (HC.out.grown G1.out hBb hBw)).mono ?_
      rintro e w2 ⟨q, rfl, hx, hs, hg⟩
      have hq : (q : Int) < 3 := by omega
      have G2 := Lib.hid (grown_trans G1.out hg)
      have S2 := Lib.hid hs
      have z2 : w.heap.size ≤ w2.heap.size := G2.out.size
      clear hx hs hg
      by_cases hq0 : q = 0
      · subst hq0
        go_wp2_with fail
        refine (l10False_any _).mono ?_
        rintro e w3 ⟨v3, rfl, ho, hb⟩
        have OF := Lib.hid (ho.mono (B' := w.heap.size) z2)
        have G3 := Lib.hid (grown_trans G2.out (grown_of_below hb (some b)))
        have S3 := Lib.hid (S2.out.below hb (Nat.le_refl _))
        clear ho hb
        go_wp2
        go_ret
        exact ⟨⟨_, _, rfl, OF.out, by simp, by simp; omega, ⟨.le 3 0 0, .inr (.inr ⟨rfl, rfl, rfl⟩), rfl⟩⟩, S3.out, G3.out⟩
      have hq1 : ((q : Int) == 0) = false := by simpa using hq0
      go_wp2_with fail
      refine (l01Next_any b a len cap p _ B hBb S2.out (HC.out.grown G2.out hBb hBw)).mono ?_
      rintro e w3 ⟨y, rfl, hx, hs, hg⟩
      have hy : (y : Int) < p := by omega
      have G3 := Lib.hid (grown_trans G2.out hg)
      have S3 := Lib.hid hs
      have z3 : w.heap.size ≤ w3.heap.size := G3.out.size
      clear hx hs hg
      go_wp2_with fail
      refine (l01Next_any b a len cap p _ B hBb S3.out (HC.out.grown G3.out hBb hBw)).mono ?_
      rintro e w4 ⟨z, rfl, hx, hs, hg⟩
      have hz : (z : Int) < p := by omega
      have G4 := Lib.hid (grown_trans G3.out hg)
      have S4 := Lib.hid hs
      have z4 : w.heap.size ≤ w4.heap.size := G4.out.size
      clear hx hs hg
      go_wp2_with fail
      refine (l10One_any 0 y z _).mono ?_
      rintro e w5 ⟨v5, rfl, ho, hb⟩
      have OF := Lib.hid (ho.mono (B' := w.heap.size) z4)
      have G5 := Lib.hid (grown_trans G4.out (grown_of_below hb (some b)))
      have S5 := Lib.hid (S4.out.below hb (Nat.le_refl _))
      clear ho hb
      go_wp2
      go_ret
      exact ⟨⟨_, _, rfl, OF.out, by simp, by simp; omega, ⟨.le 0 y z, .inl ⟨by omega, by omega, by omega, by omega, by omega⟩, rfl⟩⟩, S5.out, G5.out⟩
    have hx5 : ((x : Int) == 2) = false := by simpa using (show ¬ (x : Int) = 2 by omega)
    go_wp2_with fail
    refine (l01Next_any b a len cap p _ B hBb S1.out (HC.out.grown G1.out hBb hBw)).mono ?_
    rintro e w2 ⟨y, rfl, hx, hs, hg⟩
    have hy : (y : Int) < p := by omega
    have G2 := Lib.hid (grown_trans G1.out hg)
    have S2 := Lib.hid hs
    have z2 : w.heap.size ≤ w2.heap.size := G2.out.size
    clear hx hs hg
    go_wp2_with fail
    refine (l01Next_any b a len cap p _ B hBb S2.out (HC.out.grown G2.out hBb hBw)).mono ?_
    rintro e w3 ⟨z, rfl, hx, hs, hg⟩
    have hz : (z : Int) < p := by omega
    have G3 := Lib.hid (grown_trans G2.out hg)
    have S3 := Lib.hid hs
    have z3 : w.heap.size ≤ w3.heap.size := G3.out.size
    clear hx hs hg
    go_wp2_with fail
    refine (l10One_any 0 y z _).mono ?_
    rintro e w4 ⟨v4, rfl, ho, hb⟩
    have OF := Lib.hid (ho.mono (B' := w.heap.size) z3)
    have G4 := Lib.hid (grown_trans G3.out (grown_of_below hb (some b)))
    have S4 := Lib.hid (S3.out.below hb (Nat.le_refl _))
    clear ho hb
    go_wp2
    go_ret
    exact ⟨⟨_, _, rfl, OF.out, by simp, by simp; omega, ⟨.le 0 y z, .inl ⟨by omega, by omega, by omega, by omega, by omega⟩, rfl⟩⟩, S4.out, G4.out⟩
  | succ N ih =>
    intro s w hs hN hBw hsrc hc
    have HS := Lib.hid hsrc
    have HC := Lib.hid hc
    have hlt := hsrc.lt
    clear hsrc hc
    by_cases hs2 : s < 2
    · go_enter Try.func40, Try.ntmps40
      go_wp2_with fail
      refine (l01Next_any b a len cap 5 _ B hBb HS.out HC.out).mono ?_
      rintro e w1 ⟨x, rfl, hx, hs, hg⟩
      have hx : (x : Int) < 5 := by omega
      have G1 := Lib.hid hg
      have S1 := Lib.hid hs
      have z1 : w.heap.size ≤ w1.heap.size := G1.out.size
      clear hx hs hg
      by_cases hx0 : x = 0
      · subst hx0
        go_wp2_with fail
        refine (l01Next_any b a len cap p _ B hBb S1.out (HC.out.grown G1.out hBb hBw)).mono ?_
        rintro e w2 ⟨y, rfl, hx, hs, hg⟩
        have hy : (y : Int) < p := by omega
        have G2 := Lib.hid (grown_trans G1.out hg)
        have S2 := Lib.hid hs
        have z2 : w.heap.size ≤ w2.heap.size := G2.out.size
        clear hx hs hg
        go_wp2_with fail
        refine (l01Next_any b a len cap p _ B hBb S2.out (HC.out.grown G2.out hBb hBw)).mono ?_
        rintro e w3 ⟨z, rfl, hx, hs, hg⟩
        have hz : (z : Int) < p := by omega
        have G3 := Lib.hid (grown_trans G2.out hg)
        have S3 := Lib.hid hs
        have z3 : w.heap.size ≤ w3.heap.size := G3.out.size
        clear hx hs hg
        go_wp2_with fail
        refine (l10One_any 1 y z _).mono ?_
        rintro e w4 ⟨v4, rfl, ho, hb⟩
        have OF := Lib.hid (ho.mono (B' := w.heap.size) z3)
        have G4 := Lib.hid (grown_trans G3.out (grown_of_below hb (some b)))
        have S4 := Lib.hid (S3.out.below hb (Nat.le_refl _))
        clear ho hb
        go_wp2
        go_ret
        exact ⟨⟨_, _, rfl, OF.out, by simp, by simp; omega, ⟨.le 1 y z, .inl ⟨by omega, by omega, by omega, by omega, by omega⟩, rfl⟩⟩, S4.out, G4.out⟩
      have hx1 : ((x : Int) == 0) = false := by simpa using hx0
      by_cases hx2 : x = 1
      · subst hx2
        go_wp2_with fail
        refine (l01Next_any b a len cap 2 _ B hBb S1.out (HC.out.grown G1.out hBb hBw)).mono ?_
        rintro e w2 ⟨y, rfl, hx, hs, hg⟩
        have hy : (y : Int) < 2 := by omega
        have G2 := Lib.hid (grown_trans G1.out hg)
        have S2 := Lib.hid hs
        have z2 : w.heap.size ≤ w2.heap.size := G2.out.size
        clear hx hs hg
        go_wp2_with fail
        refine (l01Next_any b a len cap p _ B hBb S2.out (HC.out.grown G2.out hBb hBw)).mono ?_
        rintro e w3 ⟨z, rfl, hx, hs, hg⟩
        have hz : (z : Int) < p := by omega
        have G3 := Lib.hid (grown_trans G2.out hg)
        have S3 := Lib.hid hs
        have z3 : w.heap.size ≤ w3.heap.size := G3.out.size
        clear hx hs hg
        go_wp2_with fail
        refine (l10One_any 2 y z _).mono ?_
        rintro e w4 ⟨v4, rfl, ho, hb⟩
        have OF := Lib.hid (ho.mono (B' := w.heap.size) z3)
        have G4 := Lib.hid (grown_trans G3.out (grown_of_below hb (some b)))
        have S4 := Lib.hid (S3.out.below hb (Nat.le_refl _))
        clear ho hb
        go_wp2
        go_ret
        exact ⟨⟨_, _, rfl, OF.out, by simp, by simp; omega, ⟨.le 2 y z, .inr (.inl ⟨rfl, by omega, by omega, by omega, by omega⟩), rfl⟩⟩, S4.out, G4.out⟩
      have hx3 : ((x : Int) == 1) = false := by simpa using (show ¬ (x : Int) = 1 by omega)
      by_cases hx4 : x = 2
      · subst hx4
        go_wp2_with fail
        refine (l01Next_any b a len cap 3 _ B hBb S1.out (HC.out.grown G1.out hBb hBw)).mono ?_
        rintro e w2 ⟨q, rfl, hx, hs, hg⟩
        have hq : (q : Int) < 3 := by omega
        have G2 := Lib.hid (grown_trans G1.out hg)
        have S2 := Lib.hid hs
        have z2 : w.heap.size ≤ w2.heap.size := G2.out.size
        clear hx hs hg
        by_cases hq0 : q = 0
        · subst hq0
          go_wp2_with fail
          refine (l10False_any _).mono ?_
          rintro e w3 ⟨v3, rfl, ho, hb⟩
          have OF := Lib.hid (ho.mono (B' := w.heap.size) z2)
          have G3 := Lib.hid (grown_trans G2.out (grown_of_below hb (some b)))
          have S3 := Lib.hid (S2.out.below hb (Nat.le_refl _))
          clear ho hb
          go_wp2
          go_ret
          exact ⟨⟨_, _, rfl, OF.out, by simp, by simp; omega, ⟨.le 3 0 0, .inr (.inr ⟨rfl, rfl, rfl⟩), rfl⟩⟩, S3.out, G3.out⟩
        have hq1 : ((q : Int) == 0) = false := by simpa using hq0
        go_wp2_with fail
        refine (l01Next_any b a len cap p _ B hBb S2.out (HC.out.grown G2.out hBb hBw)).mono ?_
        rintro e w3 ⟨y, rfl, hx, hs, hg⟩
        have hy : (y : Int) < p := by omega
        have G3 := Lib.hid (grown_trans G2.out hg)
        have S3 := Lib.hid hs
        have z3 : w.heap.size ≤ w3.heap.size := G3.out.size
        clear hx hs hg
        go_wp2_with fail
        refine (l01Next_any b a len cap p _ B hBb S3.out (HC.out.grown G3.out hBb hBw)).mono ?_
        rintro e w4 ⟨z, rfl, hx, hs, hg⟩
        have hz : (z : Int) < p := by omega
        have G4 := Lib.hid (grown_trans G3.out hg)
        have S4 := Lib.hid hs
        have z4 : w.heap.size ≤ w4.heap.size := G4.out.size
        clear hx hs hg
        go_wp2_with fail
        refine (l10One_any 0 y z _).mono ?_
        rintro e w5 ⟨v5, rfl, ho, hb⟩
        have OF := Lib.hid (ho.mono (B' := w.heap.size) z4)
        have G5 := Lib.hid (grown_trans G4.out (grown_of_below hb (some b)))
        have S5 := Lib.hid (S4.out.below hb (Nat.le_refl _))
        clear ho hb
        go_wp2
        go_ret
        exact ⟨⟨_, _, rfl, OF.out, by simp, by simp; omega, ⟨.le 0 y z, .inl ⟨by omega, by omega, by omega, by omega, by omega⟩, rfl⟩⟩, S5.out, G5.out⟩
      have hx5 : ((x : Int) == 2) = false := by simpa using (show ¬ (x : Int) = 2 by omega)
      go_wp2_with fail
      refine (l01Next_any b a len cap p _ B hBb S1.out (HC.out.grown G1.out hBb hBw)).mono ?_
      rintro e w2 ⟨y, rfl, hx, hs, hg⟩
      have hy : (y : Int) < p := by omega
      have G2 := Lib.hid (grown_trans G1.out hg)
      have S2 := Lib.hid hs
      have z2 : w.heap.size ≤ w2.heap.size := G2.out.size
      clear hx hs hg
      go_wp2_with fail
      refine (l01Next_any b a len cap p _ B hBb S2.out (HC.out.grown G2.out hBb hBw)).mono ?_
      rintro e w3 ⟨z, rfl, hx, hs, hg⟩
      have hz : (z : Int) < p := by omega
      have G3 := Lib.hid (grown_trans G2.out hg)
      have S3 := Lib.hid hs
      have z3 : w.heap.size ≤ w3.heap.size := G3.out.size
      clear hx hs hg
      go_wp2_with fail
      refine (l10One_any 0 y z _).mono ?_
      rintro e w4 ⟨v4, rfl, ho, hb⟩
      have OF := Lib.hid (ho.mono (B' := w.heap.size) z3)
      have G4 := Lib.hid (grown_trans G3.out (grown_of_below hb (some b)))
      have S4 := Lib.hid (S3.out.below hb (Nat.le_refl _))
      clear ho hb
      go_wp2
      go_ret
      exact ⟨⟨_, _, rfl, OF.out, by simp, by simp; omega, ⟨.le 0 y z, .inl ⟨by omega, by omega, by omega, by omega, by omega⟩, rfl⟩⟩, S4.out, G4.out⟩
    have hs3 : 2 ≤ s := by omega
    go_enter Try.func40, Try.ntmps40
    go_wp2_with fail
    refine (l01Next_any b a len cap 2 _ B hBb HS.out HC.out).mono ?_
    rintro e w1 ⟨x, rfl, hx, hs, hg⟩
    have hx : (x : Int) < 2 := by omega
    have G1 := Lib.hid hg
    have S1 := Lib.hid hs
    have z1 : w.heap.size ≤ w1.heap.size := G1.out.size
    clear hx hs hg
    by_cases hx0 : x = 0
    · subst hx0
      go_wp2_with fail
      refine (l01Next_any b a len cap 2 _ B hBb S1.out (HC.out.grown G1.out hBb hBw)).mono ?_
      rintro e w2 ⟨y, rfl, hx, hs, hg⟩
      have hy : (y : Int) < 2 := by omega
      have G2 := Lib.hid (grown_trans G1.out hg)
      have S2 := Lib.hid hs
      have z2 : w.heap.size ≤ w2.heap.size := G2.out.size
      clear hx hs hg
      go_wp2_with fail
      refine (l01Next_any b a len cap p _ B hBb S2.out (HC.out.grown G2.out hBb hBw)).mono ?_
      rintro e w3 ⟨z, rfl, hx, hs, hg⟩
      have hz : (z : Int) < p := by omega
      have G3 := Lib.hid (grown_trans G2.out hg)
      have S3 := Lib.hid hs
      have z3 : w.heap.size ≤ w3.heap.size := G3.out.size
      clear hx hs hg
      go_wp2_with fail
      refine (ih (s - 1) _ (by omega) (by omega) (by omega) S3.out (HC.out.grown G3.out hBb hBw)).mono ?_
      rintro e w4 ⟨⟨vm, lm, rfl, ho, pm, qm, fm⟩, hs, hg⟩
      obtain ⟨am, cm, rfl, -⟩ := AtP.own ho
      have Om := Lib.hid ho
      have Fm := Lib.hid fm
      have G4 := Lib.hid (grown_trans G3.out hg)
      have S4 := Lib.hid hs
      have z4 : w.heap.size ≤ w4.heap.size := G4.out.size
      clear ho hs hg fm
      go_wp2_with fail
      refine (l10Bind_any (7 + (y : Int)) z lm _ _ _ _ (by omega) pm Om.out.atP).mono ?_
      rintro e w5 ⟨v5, rfl, ho, hb⟩
      have OF := Lib.hid (ho.mono (B' := w.heap.size) z4)
      have G5 := Lib.hid (grown_trans G4.out (grown_of_below hb (some b)))
      have S5 := Lib.hid (S4.out.below hb (Nat.le_refl _))
      clear ho hb
      go_wp2
      go_ret
      exact ⟨⟨_, _, rfl, OF.out, by simp, by simp; omega, by obtain ⟨f, g1, g2⟩ := Fm.out; exact ⟨.un (7 + (y : Int)) z f, ⟨by omega, ⟨by omega, by omega⟩, g1⟩, by rw [g2]; rfl⟩⟩, S5.out, G5.out⟩
    have hx1 : ((x : Int) == 0) = false := by simpa using hx0
    go_wp2_with fail
    refine (l01Next_any b a len cap (s - 1) _ B hBb S1.out (HC.out.grown G1.out hBb hBw)).mono ?_
    rintro e w2 ⟨y, rfl, hx, hs, hg⟩
    have hy : (y : Int) < s - 1 := by omega
    have G2 := Lib.hid (grown_trans G1.out hg)
    have S2 := Lib.hid hs
    have z2 : w.heap.size ≤ w2.heap.size := G2.out.size
    clear hx hs hg
    go_wp2_with fail
    refine (l01Next_any b a len cap 3 _ B hBb S2.out (HC.out.grown G2.out hBb hBw)).mono ?_
    rintro e w3 ⟨z, rfl, hx, hs, hg⟩
    have hz : (z : Int) < 3 := by omega
    have G3 := Lib.hid (grown_trans G2.out hg)
    have S3 := Lib.hid hs
    have z3 : w.heap.size ≤ w3.heap.size := G3.out.size
    clear hx hs hg
    go_wp2_with fail
    refine (ih (1 + (y : Int)) _ (by omega) (by omega) (by omega) S3.out (HC.out.grown G3.out hBb hBw)).mono ?_
    rintro e w4 ⟨⟨vm, lm, rfl, ho, pm, qm, fm⟩, hs, hg⟩
    obtain ⟨am, cm, rfl, -⟩ := AtP.own ho
    have Om := Lib.hid ho
    have Fm := Lib.hid fm
    have G4 := Lib.hid (grown_trans G3.out hg)
    have S4 := Lib.hid hs
    have z4 : w.heap.size ≤ w4.heap.size := G4.out.size
    clear ho hs hg fm
    go_wp2_with fail
    refine (ih (s - (1 + (y : Int))) _ (by omega) (by omega) (by omega) S4.out (HC.out.grown G4.out hBb hBw)).mono ?_
    rintro e w5 ⟨⟨vr, lr, rfl, ho, pr, qr, fr⟩, hs, hg⟩
    obtain ⟨ar, cr, rfl, -⟩ := AtP.own ho
    have Om := Lib.hid (Om.out.keptM hg (by omega))
    have Or := Lib.hid ho
    have Fr := Lib.hid fr
    have G5 := Lib.hid (grown_trans G4.out hg)
    have S5 := Lib.hid hs
    have z5 : w.heap.size ≤ w5.heap.size := G5.out.size
    clear ho hs hg fr
    go_wp2_with fail
    refine (l10Pair_any (4 + (z : Int)) lm lr _ _ _ _ _ _ _ (by omega) pm pr Om.out.atP Or.out.atP).mono ?_
    rintro e w6 ⟨v6, rfl, ho, hb⟩
    have OF := Lib.hid (ho.mono (B' := w.heap.size) z5)
    have G6 := Lib.hid (grown_trans G5.out (grown_of_below hb (some b)))
    have S6 := Lib.hid (S5.out.below hb (Nat.le_refl _))
    clear ho hb
    go_wp2
    go_ret
    exact ⟨⟨_, _, rfl, OF.out, by simp, by simp; omega, by obtain ⟨f, g1, g2⟩ := Fm.out; obtain ⟨g, g3, g4⟩ := Fr.out; exact ⟨.bi (4 + (z : Int)) f g, ⟨by omega, g1, g3⟩, by rw [g2, g4]; rfl⟩⟩, S6.out, G6.out⟩

end Go.Proofs.Ytfkdefmafhlmnaa
