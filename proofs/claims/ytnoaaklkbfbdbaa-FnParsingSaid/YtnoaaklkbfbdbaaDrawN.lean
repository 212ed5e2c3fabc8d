/- Contracts of the drawing functions of the model's chapter 2: they return some list of nodes that is not long, whatever the code. Conditions: those in the theorems. -/
import Derived.Test.YtnoaaklkbfbdbaaDraw2
import Derived.Test.YtnoaaklkbfbdbaaJn03
namespace Go.Proofs.Ytnoaaklkbfbdbaa
open Go.RowKit

theorem grown_of_below {w w' : World} (h : Below w.heap.size w w') (r : Option Nat) : w.grownBy w' r := ⟨h.os, h.tape, h.output, h.size, fun k hk _ => h.block k hk⟩
theorem OwnN.keepG {w w' : World} {B b : Nat} {v : Value} {xs : List Nd} (h : OwnN w B v xs) (hg : w.grownBy w' (some b)) (hb : b < B) : OwnN w' B v xs := by
  refine World.ownsRow.kept h hg ?_
  cases hv : v.ownBlock with
  | none => exact .inl rfl
  | some k =>
    right
    intro e
    have := (World.ownsRow.lt h k hv).1
    cases e
    omega
theorem l02Var_any (s : Int) (w : World) : Calls Try.prog 90 #[.int .i64 s] w fun e w' => ∃ v, e = .returned v ∧ OwnN w' w.heap.size v [(0, s)] ∧ Below w.heap.size w w' := by
  go_enter Try.func90, Try.ntmps90
  go_wp2
  go_ret
  exact ⟨_, rfl, litN w _ 0 s (Nat.le_refl _), (Below.refl _ _).alloc (Nat.le_refl _) _⟩

/-- What a drawing function leaves: a list of its own, of at most n nodes and of one at least, and the source, which alone was turned. -/
def DrewN (w : World) (b : Nat) (a : Option Addr) (len cap : Nat) (n : Nat) (e : Ending) (w' : World) : Prop :=
  (∃ v zs, e = .returned v ∧ OwnN w' w.heap.size v zs ∧ 0 < zs.length ∧ zs.length ≤ n) ∧ Src w' b a len cap ∧ w.grownBy w' (some b)

set_option maxHeartbeats 4000000 in
theorem l02Draw_any (m : Bool) (vs : Int) (b : Nat) (a : Option Addr) (len cap B : Nat) (hBb : B ≤ b) : ∀ (N : Nat) (s : Int) (w : World), s ≤ N → N ≤ 4096 → B ≤ w.heap.size → Src w b a len cap → Code B w a len → vs ≤ 1000000 →
    Calls Try.prog 56 #[.pointer (some ⟨b, 0, none⟩), .int .i64 s, .int .i64 vs, .bool m] w (DrewN w b a len cap (max 1 s.toNat)) := by
  intro N
  induction N with
  | zero =>
    intro s w hs hN hBw hsrc hc hv
    have hs2 : s ≤ 2 := by omega
    have HS := Lib.hid hsrc
    have HC := Lib.hid hc
    have hlt := hsrc.lt
    clear hsrc hc
    go_enter Try.func56, Try.ntmps56
    go_wp2_with fail
    refine (l01Next_any b a len cap 8 _ B hBb HS.out HC.out).mono ?_
    rintro e w1 ⟨x, rfl, hx, hs, hg⟩
    have G2 := Lib.hid hg
    have S2 := Lib.hid hs
    clear  hg hs
    by_cases hx0 : x = 0
    · subst hx0
      go_wp2_with fail
      refine (l02False_any _).mono ?_
      rintro e wf ⟨vf, rfl, hof, hbf⟩
      have OF := Lib.hid (hof.mono G2.out.size)
      clear hof
      have hg := grown_of_below hbf (some b)
      have hs := S2.out.below hbf (Nat.le_refl _)
      have G4 := Lib.hid (grown_trans G2.out hg)
      have S4 := Lib.hid hs
      clear S2 hg hs
      go_wp2
      go_ret
      exact ⟨⟨_, _, rfl, OF.out, by simp, by simp; omega⟩, S4.out, G4.out⟩
    · have hx1 : ((x : Int) == 0) = false := by simpa using hx0
      clear hx0
      go_wp2_with fail
      refine (l01Next_any b a len cap vs _ B hBb S2.out (HC.out.grown G2.out hBb hBw)).mono ?_
      rintro e w3 ⟨y, rfl, hy, hs, hg⟩
      have G4 := Lib.hid (grown_trans G2.out hg)
      have S4 := Lib.hid hs
      clear S2 hg hs
      go_wp2_with fail
      refine (l02Var_any _ _).mono ?_
      rintro e wf ⟨vf, rfl, hof, hbf⟩
      have OF := Lib.hid (hof.mono G4.out.size)
      clear hof
      have hg := grown_of_below hbf (some b)
      have hs := S4.out.below hbf (Nat.le_refl _)
      have G6 := Lib.hid (grown_trans G4.out hg)
      have S6 := Lib.hid hs
      clear S4 hg hs
      go_wp2
      go_ret
      exact ⟨⟨_, _, rfl, OF.out, by simp, by simp; omega⟩, S6.out, G6.out⟩
  | succ N ih =>
    intro s w hs hN hBw hsrc hc hv
    by_cases hs2 : s ≤ 2
    · skip
      have HS := Lib.hid hsrc
      have HC := Lib.hid hc
      have hlt := hsrc.lt
      clear hsrc hc
      go_enter Try.func56, Try.ntmps56
      go_wp2_with fail
      refine (l01Next_any b a len cap 8 _ B hBb HS.out HC.out).mono ?_
      rintro e w1 ⟨x, rfl, hx, hs, hg⟩
      have G2 := Lib.hid hg
      have S2 := Lib.hid hs
      clear  hg hs
      by_cases hx0 : x = 0
      · subst hx0
        go_wp2_with fail
        refine (l02False_any _).mono ?_
        rintro e wf ⟨vf, rfl, hof, hbf⟩
        have OF := Lib.hid (hof.mono G2.out.size)
        clear hof
        have hg := grown_of_below hbf (some b)
        have hs := S2.out.below hbf (Nat.le_refl _)
        have G4 := Lib.hid (grown_trans G2.out hg)
        have S4 := Lib.hid hs
        clear S2 hg hs
        go_wp2
        go_ret
        exact ⟨⟨_, _, rfl, OF.out, by simp, by simp; omega⟩, S4.out, G4.out⟩
      · have hx1 : ((x : Int) == 0) = false := by simpa using hx0
        clear hx0
        go_wp2_with fail
        refine (l01Next_any b a len cap vs _ B hBb S2.out (HC.out.grown G2.out hBb hBw)).mono ?_
        rintro e w3 ⟨y, rfl, hy, hs, hg⟩
        have G4 := Lib.hid (grown_trans G2.out hg)
        have S4 := Lib.hid hs
        clear S2 hg hs
        go_wp2_with fail
        refine (l02Var_any _ _).mono ?_
        rintro e wf ⟨vf, rfl, hof, hbf⟩
        have OF := Lib.hid (hof.mono G4.out.size)
        clear hof
        have hg := grown_of_below hbf (some b)
        have hs := S4.out.below hbf (Nat.le_refl _)
        have G6 := Lib.hid (grown_trans G4.out hg)
        have S6 := Lib.hid hs
        clear S4 hg hs
        go_wp2
        go_ret
        exact ⟨⟨_, _, rfl, OF.out, by simp, by simp; omega⟩, S6.out, G6.out⟩
    have IH := Lib.hid ih
    have hs3 : 2 < s := by omega
    clear ih hs2
    have HS := Lib.hid hsrc
    have HC := Lib.hid hc
    have hlt := hsrc.lt
    clear hsrc hc
    go_enter Try.func56, Try.ntmps56
    go_wp2_with fail
    refine (l01Next_any b a len cap 9 _ B hBb HS.out HC.out).mono ?_
    rintro e w1 ⟨n9, rfl, hn9, hs, hg⟩
    have G2 := Lib.hid hg
    have S2 := Lib.hid hs
    clear  hg hs
    by_cases h90 : n9 = 0
    · subst h90
      go_wp2_with fail
      refine (l01Next_any b a len cap 8 _ B hBb S2.out (HC.out.grown G2.out hBb hBw)).mono ?_
      rintro e w3 ⟨x, rfl, hx, hs, hg⟩
      have G4 := Lib.hid (grown_trans G2.out hg)
      have S4 := Lib.hid hs
      clear S2 hg hs
      by_cases hx0 : x = 0
      · subst hx0
        go_wp2_with fail
        refine (l02False_any _).mono ?_
        rintro e wf ⟨vf, rfl, hof, hbf⟩
        have OF := Lib.hid (hof.mono G4.out.size)
        clear hof
        have hg := grown_of_below hbf (some b)
        have hs := S4.out.below hbf (Nat.le_refl _)
        have G6 := Lib.hid (grown_trans G4.out hg)
        have S6 := Lib.hid hs
        clear S4 hg hs
        go_wp2
        go_ret
        exact ⟨⟨_, _, rfl, OF.out, by simp, by simp; omega⟩, S6.out, G6.out⟩
      · have hx1 : ((x : Int) == 0) = false := by simpa using hx0
        clear hx0
        go_wp2_with fail
        refine (l01Next_any b a len cap vs _ B hBb S4.out (HC.out.grown G4.out hBb hBw)).mono ?_
        rintro e w5 ⟨y, rfl, hy, hs, hg⟩
        have G6 := Lib.hid (grown_trans G4.out hg)
        have S6 := Lib.hid hs
        clear S4 hg hs
        go_wp2_with fail
        refine (l02Var_any _ _).mono ?_
        rintro e wf ⟨vf, rfl, hof, hbf⟩
        have OF := Lib.hid (hof.mono G6.out.size)
        clear hof
        have hg := grown_of_below hbf (some b)
        have hs := S6.out.below hbf (Nat.le_refl _)
        have G8 := Lib.hid (grown_trans G6.out hg)
        have S8 := Lib.hid hs
        clear S6 hg hs
        go_wp2
        go_ret
        exact ⟨⟨_, _, rfl, OF.out, by simp, by simp; omega⟩, S8.out, G8.out⟩
    have h91 : ((n9 : Int) == 0) = false := by simpa using h90
    clear h90
    cases m
    · skip
      go_wp2_with fail
      refine (l01Next_any b a len cap 6 _ B hBb S2.out (HC.out.grown G2.out hBb hBw)).mono ?_
      rintro e w3 ⟨n6, rfl, hn6, hs, hg⟩
      have G4 := Lib.hid (grown_trans G2.out hg)
      have S4 := Lib.hid hs
      clear S2 hg hs
      by_cases h60 : n6 = 0
      · subst h60
        go_wp2_with fail
        refine (IH.out (s - 2) _ (by omega) (by omega) (Nat.le_trans hBw G4.out.size) S4.out (HC.out.grown G4.out hBb hBw) hv).mono ?_
        rintro e w5 ⟨⟨vd, zd, rfl, hod, hpd, hqd⟩, hs, hg⟩
        have Ld := G4.out.size
        have G6 := Lib.hid (grown_trans G4.out hg)
        have S6 := Lib.hid hs
        clear S4 hg hs
        have Od := Lib.hid (hod.mono Ld)
        clear hod
        obtain ⟨ad, cd, rfl, atd, -, -, -⟩ := Od.out.at
        have Ad := Lib.hid atd
        clear atd
        go_wp2_with fail
        refine (l02Not_any zd ad _ cd _ (by omega) hpd Ad.out).mono ?_
        rintro e wf ⟨vf, rfl, hof, hbf⟩
        have OF := Lib.hid (hof.mono G6.out.size)
        clear hof
        have hg := grown_of_below hbf (some b)
        have hs := S6.out.below hbf (Nat.le_refl _)
        have G8 := Lib.hid (grown_trans G6.out hg)
        have Odx8 := Lib.hid (Od.out.keepG hg hlt)
        clear Od
        have S8 := Lib.hid hs
        clear S6 hg hs
        go_wp2
        go_ret
        exact ⟨⟨_, _, rfl, OF.out, by simp, by simp; omega⟩, S8.out, G8.out⟩
      · have h61 : ((n6 : Int) == 0) = false := by simpa using h60
        clear h60
        go_wp2_with fail
        refine (l01Next_any b a len cap (s - 2) _ B hBb S4.out (HC.out.grown G4.out hBb hBw)).mono ?_
        rintro e w5 ⟨f, rfl, hf, hs, hg⟩
        have G6 := Lib.hid (grown_trans G4.out hg)
        have S6 := Lib.hid hs
        clear S4 hg hs
        have hf1 : (f : Int) < s - 2 := by omega
        go_wp2_with fail
        refine (IH.out (1 + f) _ (by omega) (by omega) (Nat.le_trans hBw G6.out.size) S6.out (HC.out.grown G6.out hBb hBw) hv).mono ?_
        rintro e w7 ⟨⟨vp, zp, rfl, hop, hpp, hqp⟩, hs, hg⟩
        have Lp := G6.out.size
        have G8 := Lib.hid (grown_trans G6.out hg)
        have S8 := Lib.hid hs
        clear S6 hg hs
        have Op := Lib.hid (hop.mono Lp)
        clear hop
        go_wp2_with fail
        refine (l01Next_any b a len cap 3 _ B hBb S8.out (HC.out.grown G8.out hBb hBw)).mono ?_
        rintro e w9 ⟨k3, rfl, hk3, hs, hg⟩
        have G10 := Lib.hid (grown_trans G8.out hg)
        have Opx10 := Lib.hid (Op.out.keepG hg hlt)
        clear Op
        have S10 := Lib.hid hs
        clear S8 hg hs
        go_wp2_with fail
        refine (IH.out (s - 1 - (1 + f)) _ (by omega) (by omega) (Nat.le_trans hBw G10.out.size) S10.out (HC.out.grown G10.out hBb hBw) hv).mono ?_
        rintro e w11 ⟨⟨vq, zq, rfl, hoq, hpq, hqq⟩, hs, hg⟩
        have Lq := G10.out.size
        have G12 := Lib.hid (grown_trans G10.out hg)
        have Opx10x12 := Lib.hid (Opx10.out.keepG hg hlt)
        clear Opx10
        have S12 := Lib.hid hs
        clear S10 hg hs
        have Oq := Lib.hid (hoq.mono Lq)
        clear hoq
        obtain ⟨ap, cp, rfl, atp, -, -, -⟩ := Opx10x12.out.at
        have Ap := Lib.hid atp
        clear atp
        obtain ⟨aq, cq, rfl, atq, -, -, -⟩ := Oq.out.at
        have Aq := Lib.hid atq
        clear atq
        go_wp2_with fail
        refine (l02Pair_any _ zp zq ap aq _ _ cp cq _ (by omega) hpp hpq Ap.out Aq.out).mono ?_
        rintro e wf ⟨vf, rfl, hof, hbf⟩
        have OF := Lib.hid (hof.mono G12.out.size)
        clear hof
        have hg := grown_of_below hbf (some b)
        have hs := S12.out.below hbf (Nat.le_refl _)
        have G14 := Lib.hid (grown_trans G12.out hg)
        have Opx10x12x14 := Lib.hid (Opx10x12.out.keepG hg hlt)
        have Oqx14 := Lib.hid (Oq.out.keepG hg hlt)
        clear Opx10x12 Oq
        have S14 := Lib.hid hs
        clear S12 hg hs
        go_wp2
        go_ret
        exact ⟨⟨_, _, rfl, OF.out, by simp, by simp; omega⟩, S14.out, G14.out⟩
    · skip
      go_wp2_with fail
      refine (l01Next_any b a len cap 3 _ B hBb S2.out (HC.out.grown G2.out hBb hBw)).mono ?_
      rintro e w3 ⟨n3, rfl, hn3, hs, hg⟩
      have G4 := Lib.hid (grown_trans G2.out hg)
      have S4 := Lib.hid hs
      clear S2 hg hs
      by_cases h30 : n3 = 0
      · subst h30
        go_wp2_with fail
        refine (l01Next_any b a len cap 2 _ B hBb S4.out (HC.out.grown G4.out hBb hBw)).mono ?_
        rintro e w5 ⟨k2, rfl, hk2, hs, hg⟩
        have G6 := Lib.hid (grown_trans G4.out hg)
        have S6 := Lib.hid hs
        clear S4 hg hs
        go_wp2_with fail
        refine (IH.out (s - 1) _ (by omega) (by omega) (Nat.le_trans hBw G6.out.size) S6.out (HC.out.grown G6.out hBb hBw) hv).mono ?_
        rintro e w7 ⟨⟨ve, ze, rfl, hoe, hpe, hqe⟩, hs, hg⟩
        have Le := G6.out.size
        have G8 := Lib.hid (grown_trans G6.out hg)
        have S8 := Lib.hid hs
        clear S6 hg hs
        have Oe := Lib.hid (hoe.mono Le)
        clear hoe
        obtain ⟨ae, ce, rfl, ate, -, -, -⟩ := Oe.out.at
        have Ae := Lib.hid ate
        clear ate
        go_wp2_with fail
        refine (l02Pre_any _ ze ae _ ce _ (by omega) hpe Ae.out).mono ?_
        rintro e wf ⟨vf, rfl, hof, hbf⟩
        have OF := Lib.hid (hof.mono G8.out.size)
        clear hof
        have hg := grown_of_below hbf (some b)
        have hs := S8.out.below hbf (Nat.le_refl _)
        have G10 := Lib.hid (grown_trans G8.out hg)
        have Oex10 := Lib.hid (Oe.out.keepG hg hlt)
        clear Oe
        have S10 := Lib.hid hs
        clear S8 hg hs
        go_wp2
        go_ret
        exact ⟨⟨_, _, rfl, OF.out, by simp, by simp; omega⟩, S10.out, G10.out⟩
      · have h31 : ((n3 : Int) == 0) = false := by simpa using h30
        clear h30
        go_wp2_with fail
        refine (l01Next_any b a len cap 6 _ B hBb S4.out (HC.out.grown G4.out hBb hBw)).mono ?_
        rintro e w5 ⟨n6, rfl, hn6, hs, hg⟩
        have G6 := Lib.hid (grown_trans G4.out hg)
        have S6 := Lib.hid hs
        clear S4 hg hs
        by_cases h60 : n6 = 0
        · subst h60
          go_wp2_with fail
          refine (IH.out (s - 2) _ (by omega) (by omega) (Nat.le_trans hBw G6.out.size) S6.out (HC.out.grown G6.out hBb hBw) hv).mono ?_
          rintro e w7 ⟨⟨vd, zd, rfl, hod, hpd, hqd⟩, hs, hg⟩
          have Ld := G6.out.size
          have G8 := Lib.hid (grown_trans G6.out hg)
          have S8 := Lib.hid hs
          clear S6 hg hs
          have Od := Lib.hid (hod.mono Ld)
          clear hod
          obtain ⟨ad, cd, rfl, atd, -, -, -⟩ := Od.out.at
          have Ad := Lib.hid atd
          clear atd
          go_wp2_with fail
          refine (l02Not_any zd ad _ cd _ (by omega) hpd Ad.out).mono ?_
          rintro e wf ⟨vf, rfl, hof, hbf⟩
          have OF := Lib.hid (hof.mono G8.out.size)
          clear hof
          have hg := grown_of_below hbf (some b)
          have hs := S8.out.below hbf (Nat.le_refl _)
          have G10 := Lib.hid (grown_trans G8.out hg)
          have Odx10 := Lib.hid (Od.out.keepG hg hlt)
          clear Od
          have S10 := Lib.hid hs
          clear S8 hg hs
          go_wp2
          go_ret
          exact ⟨⟨_, _, rfl, OF.out, by simp, by simp; omega⟩, S10.out, G10.out⟩
        · have h61 : ((n6 : Int) == 0) = false := by simpa using h60
          clear h60
          go_wp2_with fail
          refine (l01Next_any b a len cap (s - 2) _ B hBb S6.out (HC.out.grown G6.out hBb hBw)).mono ?_
          rintro e w7 ⟨f, rfl, hf, hs, hg⟩
          have G8 := Lib.hid (grown_trans G6.out hg)
          have S8 := Lib.hid hs
          clear S6 hg hs
          have hf1 : (f : Int) < s - 2 := by omega
          go_wp2_with fail
          refine (IH.out (1 + f) _ (by omega) (by omega) (Nat.le_trans hBw G8.out.size) S8.out (HC.out.grown G8.out hBb hBw) hv).mono ?_
          rintro e w9 ⟨⟨vp, zp, rfl, hop, hpp, hqp⟩, hs, hg⟩
          have Lp := G8.out.size
          have G10 := Lib.hid (grown_trans G8.out hg)
          have S10 := Lib.hid hs
          clear S8 hg hs
          have Op := Lib.hid (hop.mono Lp)
          clear hop
          go_wp2_with fail
          refine (l01Next_any b a len cap 3 _ B hBb S10.out (HC.out.grown G10.out hBb hBw)).mono ?_
          rintro e w11 ⟨k3, rfl, hk3, hs, hg⟩
          have G12 := Lib.hid (grown_trans G10.out hg)
          have Opx12 := Lib.hid (Op.out.keepG hg hlt)
          clear Op
          have S12 := Lib.hid hs
          clear S10 hg hs
          go_wp2_with fail
          refine (IH.out (s - 1 - (1 + f)) _ (by omega) (by omega) (Nat.le_trans hBw G12.out.size) S12.out (HC.out.grown G12.out hBb hBw) hv).mono ?_
          rintro e w13 ⟨⟨vq, zq, rfl, hoq, hpq, hqq⟩, hs, hg⟩
          have Lq := G12.out.size
          have G14 := Lib.hid (grown_trans G12.out hg)
          have Opx12x14 := Lib.hid (Opx12.out.keepG hg hlt)
          clear Opx12
          have S14 := Lib.hid hs
          clear S12 hg hs
          have Oq := Lib.hid (hoq.mono Lq)
          clear hoq
          obtain ⟨ap, cp, rfl, atp, -, -, -⟩ := Opx12x14.out.at
          have Ap := Lib.hid atp
          clear atp
          obtain ⟨aq, cq, rfl, atq, -, -, -⟩ := Oq.out.at
          have Aq := Lib.hid atq
          clear atq
          go_wp2_with fail
          refine (l02Pair_any _ zp zq ap aq _ _ cp cq _ (by omega) hpp hpq Ap.out Aq.out).mono ?_
          rintro e wf ⟨vf, rfl, hof, hbf⟩
          have OF := Lib.hid (hof.mono G14.out.size)
          clear hof
          have hg := grown_of_below hbf (some b)
          have hs := S14.out.below hbf (Nat.le_refl _)
          have G16 := Lib.hid (grown_trans G14.out hg)
          have Opx12x14x16 := Lib.hid (Opx12x14.out.keepG hg hlt)
          have Oqx16 := Lib.hid (Oq.out.keepG hg hlt)
          clear Opx12x14 Oq
          have S16 := Lib.hid hs
          clear S14 hg hs
          go_wp2
          go_ret
          exact ⟨⟨_, _, rfl, OF.out, by simp, by simp; omega⟩, S16.out, G16.out⟩

end Go.Proofs.Ytnoaaklkbfbdbaa
