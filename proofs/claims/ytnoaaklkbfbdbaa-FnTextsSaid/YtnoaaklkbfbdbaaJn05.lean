/- 2 texts in one: Any, DrawJ. -/
import Derived.Test.YtnoaaklkbfbdbaaBend
/- The contract of the model's function l02Any: it returns some list of nodes that is not long. Conditions: those in the theorems. -/
namespace Go.Proofs.Ytnoaaklkbfbdbaa
open Go.RowKit

set_option maxHeartbeats 4000000 in
theorem l02Any_any (s vs : Int) (m : Bool) (b : Nat) (a : Option Addr) (len cap B : Nat) (w : World) (hBb : B ≤ b) (hBw : B ≤ w.heap.size) (hs40 : s ≤ 40) (hv : vs ≤ 1000000) (hsrc : Src w b a len cap) (hc : Code B w a len) :
    Calls Try.prog 66 #[.pointer (some ⟨b, 0, none⟩), .int .i64 s, .int .i64 vs, .bool m] w (DrewE w b a len cap 64) := by
  have HS := Lib.hid hsrc
  have HC := Lib.hid hc
  have hlt := hsrc.lt
  clear hsrc hc
  go_enter Try.func66, Try.ntmps66
  go_wp2_with fail
  refine (l02Draw_any m vs b a len cap B hBb 40 s _ (by omega) (by omega) (Nat.le_trans hBw (Nat.le_refl w.heap.size)) HS.out HC.out hv).mono ?_
  rintro e w1 ⟨⟨vd, zd, rfl, hod, hpd, hqd⟩, hs, hg⟩
  have hrd : zd.length ≤ 40 := by omega
  clear hqd
  have Ld := (Nat.le_refl w.heap.size)
  have G2 := Lib.hid hg
  have S2 := Lib.hid hs
  clear  hg hs
  have Od := Lib.hid (hod.mono Ld)
  clear hod Ld
  go_wp2_with fail
  refine (l01Next_any b a len cap 40 _ B hBb S2.out (HC.out.grown G2.out hBb hBw)).mono ?_
  rintro e w3 ⟨c, rfl, hc, hs, hg⟩
  have G4 := Lib.hid (grown_trans G2.out hg)
  have Odx4 := Lib.hid (Od.out.keepG hg hlt)
  clear Od
  have S4 := Lib.hid hs
  clear S2 hg hs
  by_cases h0 : c = 0
  · subst h0
    obtain ⟨ad, cd, rfl, atd, -, -, -⟩ := Odx4.out.at
    have AD := Lib.hid atd
    clear atd
    obtain ⟨n, hn⟩ : ∃ n, n = zd.length := ⟨_, rfl⟩
    have HN := Lib.hid hn
    rw [← hn] at AD hpd hrd ⊢
    clear hn
    go_wp2_with fail
    refine (l02Bend_any zd ad n cd b a len cap B _ hBb (Nat.le_trans hBw G4.out.size) (by omega) hpd AD.out S4.out (HC.out.grown G4.out hBb hBw)).mono ?_
    rintro e wb ⟨⟨vb, zb, rfl, hob, hqb⟩, hs, hg⟩
    have OB := Lib.hid (hob.mono G4.out.size)
    have GB := Lib.hid (grown_trans G4.out hg)
    have SB := Lib.hid hs
    clear hob hs hg
    go_wp2
    go_ret
    exact ⟨⟨_, _, rfl, OB.out, by omega⟩, SB.out, GB.out⟩
  have h01 : ((c : Int) == 0) = false := by simpa using h0
  by_cases h1 : c = 1
  · subst h1
    clear h0 h01
    obtain ⟨c1, hc1⟩ : ∃ c1 : Unit, c1 = () := ⟨_, rfl⟩
    go_wp2
    go_loopw [9] (fun v wr => ∃ zs, OwnN wr w.heap.size v zs ∧ 0 < zs.length ∧ zs.length ≤ 47 ∧ Src wr b a len cap ∧ w.grownBy wr (some b) ∧ ∃ aa cc nn, v = .slice aa nn cc ∧ nn = zs.length) (fun v _ => 48 - (match v with | .slice _ n _ => n | _ => 0))
    case atStart => obtain ⟨ad, cd, hvd, -⟩ := Odx4.out.at; exact ⟨zd, Odx4.out, hpd, by omega, S4.out, G4.out, ad, cd, _, hvd, rfl⟩
    case round =>
      obtain ⟨zs, hown, hp0, hp1, hsr, hgr, aa, cc, nn, rfl, hnn⟩ := hrel
      have OZ := Lib.hid hown
      have SZ := Lib.hid hsr
      have GZ := Lib.hid hgr
      have NN := Lib.hid hnn
      have hn0 : 0 < nn := by omega
      have hn1 : nn ≤ 47 := by omega
      clear hown hsr hgr hnn hp0 hp1 Odx4 S4 G4 hpd hrd
      by_cases h40 : nn ≤ 40
      · have h40' : (nn : Int) ≤ 40 := by omega
        go_wp2_with fail
        refine (l01Next_any b a len cap 60 _ B hBb SZ.out (HC.out.grown GZ.out hBb hBw)).mono ?_
        rintro e w5 ⟨t, rfl, ht, hs, hg⟩
        have G6 := Lib.hid (grown_trans GZ.out hg)
        have OZx6 := Lib.hid (OZ.out.keepG hg hlt)
        clear OZ
        have S6 := Lib.hid hs
        clear SZ hg hs
        by_cases ht0 : t = 0
        · subst ht0
          go_wp2
          go_ret
          exact ⟨⟨_, _, rfl, OZx6.out, by have := NN.out; omega⟩, S6.out, G6.out⟩
        · have ht1 : (0 : Int) < (t : Int) := by omega
          clear ht ht0
          go_wp2_with fail
          refine (l01Next_any b a len cap 3 _ B hBb S6.out (HC.out.grown G6.out hBb hBw)).mono ?_
          rintro e w7 ⟨k3, rfl, hk3, hs, hg⟩
          have G8 := Lib.hid (grown_trans G6.out hg)
          have OZx6x8 := Lib.hid (OZx6.out.keepG hg hlt)
          clear OZx6
          have S8 := Lib.hid hs
          clear S6 hg hs
          clear hk3
          go_wp2_with fail
          refine (l02Draw_any m vs b a len cap B hBb 40 6 _ (by omega) (by omega) (Nat.le_trans hBw G8.out.size) S8.out (HC.out.grown G8.out hBb hBw) hv).mono ?_
          rintro e w9 ⟨⟨vq, zq, rfl, hoq, hpq, hqq⟩, hs, hg⟩
          have hrq : zq.length ≤ 6 := by omega
          clear hqq
          have Lq := G8.out.size
          have G10 := Lib.hid (grown_trans G8.out hg)
          have OZx6x8x10 := Lib.hid (OZx6x8.out.keepG hg hlt)
          clear OZx6x8
          have S10 := Lib.hid hs
          clear S8 hg hs
          have Oq := Lib.hid (hoq.mono Lq)
          clear hoq Lq
          obtain ⟨az, cz, hvz, atz, -⟩ := OZx6x8x10.out.at
          rw [← NN.out] at hvz atz
          have hvz1 : aa = az := by injection hvz
          subst hvz1
          have AZ := Lib.hid atz
          clear atz hvz
          obtain ⟨aq, cq, rfl, atq, -, -, -⟩ := Oq.out.at
          have AQ := Lib.hid atq
          clear atq
          obtain ⟨nq, hnq⟩ : ∃ nq, nq = zq.length := ⟨_, rfl⟩
          have NQ := Lib.hid hnq
          rw [← hnq] at AQ hpq hrq ⊢
          clear hnq
          go_wp2_with fail
          refine (l02Pair_any _ zs zq aa aq _ _ cc cq _ (by omega) hn0 hpq AZ.out AQ.out).mono ?_
          rintro e wf ⟨vf, rfl, hof, hbf⟩
          obtain ⟨zf, hlf, hof2⟩ : ∃ zf : List Nd, zf.length = 1 + nn + nq ∧ OwnN wf w.heap.size vf zf := ⟨_, by rw [List.length_cons, List.length_append, ← NN.out, ← NQ.out]; omega, hof.mono G10.out.size⟩
          have OF := Lib.hid hof2
          clear hof hof2
          have hg := grown_of_below hbf (some b)
          have hs := S10.out.below hbf (Nat.le_refl _)
          have G12 := Lib.hid (grown_trans G10.out hg)
          have S12 := Lib.hid hs
          clear S10 hg hs
          obtain ⟨af, cf, hvf, -⟩ := OF.out.at
          subst hvf
          obtain ⟨nf, hnf⟩ : ∃ nf, nf = zf.length := ⟨_, rfl⟩
          have NF := Lib.hid hnf
          have OG : Hid (OwnN wf w.heap.size (.slice af nf cf) zf) := by show OwnN _ _ _ _; rw [hnf]; exact OF.out
          rw [← hnf] at hlf ⊢
          have hl1 : nf ≤ 47 := by omega
          have hl2 : nn < nf := by omega
          clear OF hnf hlf
          go_wp2
          go_roundw
          case rel => exact ⟨zf, OG.out, by have := NF.out; omega, by have := NF.out; omega, S12.out, G12.out, af, cf, _, rfl, NF.out⟩
          case measure => simp; omega
      · have h40' : ¬ ((nn : Int) ≤ 40) := by omega
        go_wp2
        go_ret
        exact ⟨⟨_, _, rfl, OZ.out, by have := NN.out; omega⟩, SZ.out, GZ.out⟩
  · have h11 : ((c : Int) == 1) = false := by simp; omega
    clear h0 h1
    go_wp2
    go_ret
    exact ⟨⟨_, _, rfl, Odx4.out, by omega⟩, S4.out, G4.out⟩

end Go.Proofs.Ytnoaaklkbfbdbaa

/- Contracts of the model's functions that draw the arguments of the laws of chapter 2. Conditions: those in the theorems. -/
namespace Go.Proofs.Ytnoaaklkbfbdbaa
open Go.RowKit

theorem bigN (a : Option Addr) (len cap : Nat) (w : World) (h : len ≤ 4096) : Calls Try.prog 23 #[.slice a len cap] w fun e w' => e = .returned (.bool false) ∧ w = w' := by
  go_enter Try.func23, Try.ntmps23
  go_wp2
  go_ret
  exact ⟨ret_bool (decide_eq_false (by omega)), rfl⟩
theorem bigY (a : Option Addr) (len cap : Nat) (w : World) (h : 4096 < len) : Calls Try.prog 23 #[.slice a len cap] w fun e w' => e = .returned (.bool true) ∧ w = w' := by
  go_enter Try.func23, Try.ntmps23
  go_wp2
  go_ret
  exact ⟨ret_bool (decide_eq_true (by omega)), rfl⟩

set_option maxHeartbeats 2000000 in
theorem DrawFormulaText_any (a : Option Addr) (len cap : Nat) (w : World) (hc : Code w.heap.size w a len) :
    Calls Try.prog 30 #[.slice a len cap] w fun e w' => (∃ v1 z1, e = .returned v1 ∧ OwnN w' w.heap.size v1 z1 ∧ z1.length ≤ 64) ∧ Below w.heap.size w w' := by
  have HC0 := Lib.hid hc
  clear hc
  go_enter Try.func30, Try.ntmps30
  go_wp2_with fail
  refine (l01From_any a len cap w HC0.out).mono ?_
  rintro e w1 ⟨rfl, hs1, hb1⟩
  have HS := Lib.hid hs1
  have HC := Lib.hid (HC0.out.below hb1)
  have hB1 : w.heap.size ≤ w1.heap.size := hb1.size
  have hB2 : w.heap.size < w1.heap.size := hs1.lt
  have HB := Lib.hid hb1
  clear hs1 hb1 HC0
  go_wp2_with fail
  refine (l02Any_any 20 6 true w.heap.size a len cap w.heap.size _ (Nat.le_refl _) hB1 (by omega) (by omega) HS.out HC.out).mono ?_
  rintro e w2 ⟨⟨va, za, rfl, hoa, hqa⟩, hs, hg⟩
  have La := (Nat.le_refl w1.heap.size)
  have G3 := Lib.hid hg
  have S3 := Lib.hid hs
  clear  hg hs
  have Oa := Lib.hid (hoa.mono La)
  clear hoa La
  go_wp2
  go_ret
  exact ⟨⟨_, _, rfl, Oa.out.mono hB1, hqa⟩, (grown_below G3.out (Nat.le_refl _) HB.out hB1)⟩

end Go.Proofs.Ytnoaaklkbfbdbaa
