/- The model's reader of formulas reads as the grammar does. Conditions: those in the theorems. -/
import Derived.Test.YtpccocmiadpgiaaJn11
import Derived.Test.YtpccocmiadpgiaaJn06
import Derived.Test.YtpccocmiadpgiaaJn02
namespace Go.Proofs.Ytpccocmiadpgiaa
open Go.RowKit

def OutC (K : Kn) (s : List UInt8) (R k : Nat) (w : World) (e : Ending) (w' : World) : Prop :=
  ∃ v zs k' b, e = .returned v ∧ OwnN w' w.heap.size v zs ∧ Rd w' R s k' b ∧ w.grownBy w' (some R) ∧ Sx K s k zs k' b
def ReadsAt (F : FuncId) (K : Kn) (s : List UInt8) (R k : Nat) : Prop := ∀ w : World, Rd w R s k false → Calls Try.prog F #[.pointer (some ⟨R, 0, none⟩)] w (OutC K s R k w)

set_option maxHeartbeats 4000000 in
theorem prefix_ok (s : List UInt8) (R k : Nat) (hk : k ≤ s.length) (hl : s.length ≤ 4096) (IP : ∀ k', k < k' → k' ≤ s.length → ReadsAt 96 .pre s R k') (II : ∀ k', k < k' → k' ≤ s.length → ReadsAt 70 .imp s R k') : ReadsAt 96 .pre s R k := by
  intro w h
  have hR := h.lt
  have H := Lib.hid h
  have IPh := Lib.hid IP
  have IIh := Lib.hid II
  clear h IP II
  go_enter Try.func96, Try.ntmps96
  go_wp2
  go_loopw [4] (fun i wr => ∃ v : Nat, v ≤ 6 ∧ i = .int .i64 v ∧ Rd wr R s k false ∧ w.grownBy wr (some R) ∧ Hid (∀ j (hj : j < letters.size), j < v → s[k]? ≠ some (letters[j]'hj))) (fun i _ => 6 - (intOf i).toNat)
  case atStart => exact ⟨0, Nat.zero_le _, rfl, H.out, World.grownBy.refl _ _, (show ∀ j, _ from fun j hj h => absurd h (by omega))⟩
  case round =>
    obtain ⟨v, hv, rfl, hrd, hgr, hno⟩ := hrel
    by_cases hlt : v < 6
    · have hlt2 : v < letters.size := hlt
      by_cases hy : s[k]? = some (letters[v]'hlt2)
      · have HY := Lib.hid hy
        clear hy hno
        go_wp2_with fail
        refine (take_yes s R k (letters[v]'hlt2) _ hl HY.out hrd).mono ?_
        rintro e w1 ⟨rfl, h1, g1⟩
        have H1 := Lib.hid h1
        have G1 := Lib.hid (grown_trans hgr g1)
        clear hrd h1 g1 hgr
        go_wp2_with fail
        refine (l02Var_any _ _).mono ?_
        rintro e w2 ⟨v2, rfl, ho, hb⟩
        have O2 := Lib.hid (ho.mono G1.out.size)
        have H2 := Lib.hid (H1.out.other hb)
        have G2 := Lib.hid (grown_new G1.out hb)
        clear ho hb H1 G1
        go_wp2
        go_ret
        exact ⟨_, _, _, _, rfl, O2.out, H2.out, G2.out, sx_va HY.out (letters_at v hlt2) hlt⟩
      · have hno2 : Hid (∀ j (hj : j < letters.size), j < v + 1 → s[k]? ≠ some (letters[j]'hj)) := by
          show ∀ j, _
          intro j hj h
          by_cases e : j = v
          · subst e; exact hy
          · exact hno.out j hj (by omega)
        have HY := Lib.hid hy
        clear hy hno
        go_wp2_with fail
        refine (take_fail s R k (letters[v]'hlt2) _ hk HY.out hrd).mono ?_
        rintro e w1 ⟨rfl, h1, g1⟩
        have H1 := Lib.hid h1
        have G1 := Lib.hid (grown_trans hgr g1)
        clear hrd h1 g1 hgr
        go_wp2
        go_roundw
        case rel => exact ⟨v + 1, hlt, by go_num, H1.out, G1.out, hno2⟩
        case measure => simp [intOf]; omega
    · obtain rfl : v = 6 := by omega
      have hv : Hid (∀ c : UInt8, 112 ≤ c → c ≤ 117 → s[k]? ≠ some c) := by
        show ∀ c, _
        intro c h1 h2
        have h3 : 112 ≤ c.toNat := h1
        have h4 : c.toNat ≤ 117 := h2
        have hj : c.toNat - 112 < letters.size := by show c.toNat - 112 < 6; omega
        have e : letters[c.toNat - 112]'hj = c := UInt8.toNat_inj.1 (by rw [letters_at]; omega)
        have := hno.out (c.toNat - 112) hj (by omega)
        rwa [e] at this
      have H0 := Lib.hid hrd
      have G0 := Lib.hid hgr
      clear hrd hgr hno
      by_cases hc : s[k]? = some 70
      · have HY := Lib.hid hc
        clear hc
        have hk1 := lt_at HY.out
        go_wp2_with fail
        refine (take_yes s R k 70 _ hl HY.out H0.out).mono ?_
        rintro e w1 ⟨rfl, h1, g1⟩
        have H1 := Lib.hid h1
        have G1 := Lib.hid (grown_trans G0.out g1)
        clear h1 g1 H0 G0
        go_wp2_with fail
        refine (l02False_any _).mono ?_
        rintro e w2 ⟨v2, rfl, ho, hb⟩
        have O2 := Lib.hid (ho.mono G1.out.size)
        have H2 := Lib.hid (H1.out.other hb)
        have G2 := Lib.hid (grown_new G1.out hb)
        clear ho hb H1 G1
        go_wp2
        go_ret
        exact ⟨_, _, _, _, rfl, O2.out, H2.out, G2.out, sx_fa HY.out⟩
      have n70 := Lib.hid hc
      clear hc
      by_cases hc : s[k]? = some 84
      · have HY := Lib.hid hc
        clear hc
        have hk1 := lt_at HY.out
        go_wp2_with fail
        refine (take_fail s R k 70 _ hk n70.out H0.out).mono ?_
        rintro e w1 ⟨rfl, h1, g1⟩
        have H1 := Lib.hid h1
        have G1 := Lib.hid (grown_trans G0.out g1)
        clear h1 g1 H0 G0
        go_wp2_with fail
        refine (take_yes s R k 84 _ hl HY.out H1.out).mono ?_
        rintro e w2 ⟨rfl, h1, g1⟩
        have H2 := Lib.hid h1
        have G2 := Lib.hid (grown_trans G1.out g1)
        clear h1 g1 H1 G1
        go_wp2_with fail
        refine (l02True_all _).mono ?_
        rintro e w3 ⟨v3, rfl, ho, hb⟩
        have O3 := Lib.hid (ho.mono G2.out.size)
        have H3 := Lib.hid (H2.out.other hb)
        have G3 := Lib.hid (grown_new G2.out hb)
        clear ho hb H2 G2
        go_wp2
        go_ret
        exact ⟨_, _, _, _, rfl, O3.out, H3.out, G3.out, sx_tr HY.out⟩
      have n84 := Lib.hid hc
      clear hc
      by_cases hc : s[k]? = some 126
      · have HY := Lib.hid hc
        clear hc
        have hk1 := lt_at HY.out
        go_wp2_with fail
        refine (take_fail s R k 70 _ hk n70.out H0.out).mono ?_
        rintro e w1 ⟨rfl, h1, g1⟩
        have H1 := Lib.hid h1
        have G1 := Lib.hid (grown_trans G0.out g1)
        clear h1 g1 H0 G0
        go_wp2_with fail
        refine (take_fail s R k 84 _ hk n84.out H1.out).mono ?_
        rintro e w2 ⟨rfl, h1, g1⟩
        have H2 := Lib.hid h1
        have G2 := Lib.hid (grown_trans G1.out g1)
        clear h1 g1 H1 G1
        go_wp2_with fail
        refine (take_yes s R k 126 _ hl HY.out H2.out).mono ?_
        rintro e w3 ⟨rfl, h1, g1⟩
        have H3 := Lib.hid h1
        have G3 := Lib.hid (grown_trans G2.out g1)
        clear h1 g1 H2 G2
        go_wp2_with fail
        refine (IPh.out (k + 1) (by omega) hk1 _ H3.out).mono ?_
        rintro e w4 ⟨v4, zs, k1, b1, rfl, ho, h1, g1, sx⟩
        obtain ⟨a1, c1, rfl, at1, -⟩ := ho.at
        have H4 := Lib.hid h1
        have G4 := Lib.hid (grown_trans G3.out g1)
        have OO := Lib.hid ho
        have A1 := Lib.hid at1
        have SX := Lib.hid sx
        have hz1 : zs.length ≤ 16384 := by have := sx.2.2.1; have := sx.2.1; omega
        have hz2 : 0 < zs.length := sx.2.2.2.1
        clear ho at1 sx h1 g1 H3
        clear G3
        go_wp2_with fail
        refine (l02Not_any zs _ _ _ _ (by omega) hz2 A1.out).mono ?_
        rintro e w5 ⟨v5, rfl, ho, hb⟩
        have O5 := Lib.hid (ho.mono G4.out.size)
        have H5 := Lib.hid (H4.out.other hb)
        have G5 := Lib.hid (grown_new G4.out hb)
        clear ho hb H4 G4
        go_wp2
        go_ret
        exact ⟨_, _, _, _, rfl, O5.out, H5.out, G5.out, sx_no HY.out SX.out⟩
      have n126 := Lib.hid hc
      clear hc
      by_cases hc : s[k]? = some 91
      · have HY := Lib.hid hc
        clear hc
        have hk1 := lt_at HY.out
        go_wp2_with fail
        refine (take_fail s R k 70 _ hk n70.out H0.out).mono ?_
        rintro e w1 ⟨rfl, h1, g1⟩
        have H1 := Lib.hid h1
        have G1 := Lib.hid (grown_trans G0.out g1)
        clear h1 g1 H0 G0
        go_wp2_with fail
        refine (take_fail s R k 84 _ hk n84.out H1.out).mono ?_
        rintro e w2 ⟨rfl, h1, g1⟩
        have H2 := Lib.hid h1
        have G2 := Lib.hid (grown_trans G1.out g1)
        clear h1 g1 H1 G1
        go_wp2_with fail
        refine (take_fail s R k 126 _ hk n126.out H2.out).mono ?_
        rintro e w3 ⟨rfl, h1, g1⟩
        have H3 := Lib.hid h1
        have G3 := Lib.hid (grown_trans G2.out g1)
        clear h1 g1 H2 G2
        go_wp2_with fail
        refine (take_yes s R k 91 _ hl HY.out H3.out).mono ?_
        rintro e w4 ⟨rfl, h1, g1⟩
        have H4 := Lib.hid h1
        have G4 := Lib.hid (grown_trans G3.out g1)
        clear h1 g1 H3 G3
        by_cases hd : s[k + 1]? = some 93
        · have HD := Lib.hid hd
          clear hd
          have hk2 := lt_at HD.out
          go_wp2_with fail
          refine (need_yes s R (k + 1) 93 _ hl HD.out H4.out).mono ?_
          rintro e w5 ⟨⟨vn, rfl⟩, h1, g1⟩
          have H5 := Lib.hid h1
          have G5 := Lib.hid (grown_trans G4.out g1)
          clear h1 g1 H4 G4
          go_wp2_with fail
          refine (IPh.out (k + 2) (by omega) hk2 _ H5.out).mono ?_
          rintro e w6 ⟨v6, zs, k1, b1, rfl, ho, h1, g1, sx⟩
          obtain ⟨a1, c1, rfl, at1, -⟩ := ho.at
          have H6 := Lib.hid h1
          have G6 := Lib.hid (grown_trans G5.out g1)
          have OO := Lib.hid ho
          have A1 := Lib.hid at1
          have SX := Lib.hid sx
          have hz1 : zs.length ≤ 16384 := by have := sx.2.2.1; have := sx.2.1; omega
          have hz2 : 0 < zs.length := sx.2.2.2.1
          clear ho at1 sx h1 g1 H5
          clear G5
          go_wp2_with fail
          refine (l02Pre_any 5 zs _ _ _ _ (by omega) hz2 A1.out).mono ?_
          rintro e w7 ⟨v7, rfl, ho, hb⟩
          have O7 := Lib.hid (ho.mono G6.out.size)
          have H7 := Lib.hid (H6.out.other hb)
          have G7 := Lib.hid (grown_new G6.out hb)
          clear ho hb H6 G6
          go_wp2
          go_ret
          exact ⟨_, _, _, _, rfl, O7.out, H7.out, G7.out, sx_un (.inl ⟨rfl, rfl, rfl⟩) HY.out HD.out SX.out⟩
        · have HD := Lib.hid hd
          clear hd
          go_wp2_with fail
          refine (need_no s R (k + 1) 93 _ hk1 HD.out H4.out).mono ?_
          rintro e w5 ⟨⟨vn, rfl⟩, h1, g1⟩
          have H5 := Lib.hid h1
          have G5 := Lib.hid (grown_trans G4.out g1)
          clear h1 g1 H4 G4
          go_wp2_with fail
          refine (prefix_bad s R (k + 1) _ H5.out).mono ?_
          rintro e w6 ⟨v6, rfl, ho, h1, g1⟩
          obtain ⟨a1, c1, rfl, at1, -⟩ := ho.at
          have H6 := Lib.hid h1
          have G6 := Lib.hid (grown_trans G5.out g1)
          have A1 := Lib.hid at1
          clear ho at1 h1 g1 H5 G5
          go_wp2_with fail
          refine (l02Pre_any 5 [(1, 0)] _ _ _ _ (by simp) (by simp) A1.out).mono ?_
          rintro e w7 ⟨v7, rfl, ho, hb⟩
          have O7 := Lib.hid (ho.mono G6.out.size)
          have H7 := Lib.hid (H6.out.other hb)
          have G7 := Lib.hid (grown_new G6.out hb)
          clear ho hb H6 G6
          go_wp2
          go_ret
          exact ⟨_, _, _, _, rfl, O7.out, H7.out, G7.out, sx_unB (.inl ⟨rfl, rfl⟩) HY.out HD.out⟩
      have n91 := Lib.hid hc
      clear hc
      by_cases hc : s[k]? = some 60
      · have HY := Lib.hid hc
        clear hc
        have hk1 := lt_at HY.out
        go_wp2_with fail
        refine (take_fail s R k 70 _ hk n70.out H0.out).mono ?_
        rintro e w1 ⟨rfl, h1, g1⟩
        have H1 := Lib.hid h1
        have G1 := Lib.hid (grown_trans G0.out g1)
        clear h1 g1 H0 G0
        go_wp2_with fail
        refine (take_fail s R k 84 _ hk n84.out H1.out).mono ?_
        rintro e w2 ⟨rfl, h1, g1⟩
        have H2 := Lib.hid h1
        have G2 := Lib.hid (grown_trans G1.out g1)
        clear h1 g1 H1 G1
        go_wp2_with fail
        refine (take_fail s R k 126 _ hk n126.out H2.out).mono ?_
        rintro e w3 ⟨rfl, h1, g1⟩
        have H3 := Lib.hid h1
        have G3 := Lib.hid (grown_trans G2.out g1)
        clear h1 g1 H2 G2
        go_wp2_with fail
        refine (take_fail s R k 91 _ hk n91.out H3.out).mono ?_
        rintro e w4 ⟨rfl, h1, g1⟩
        have H4 := Lib.hid h1
        have G4 := Lib.hid (grown_trans G3.out g1)
        clear h1 g1 H3 G3
        go_wp2_with fail
        refine (take_yes s R k 60 _ hl HY.out H4.out).mono ?_
        rintro e w5 ⟨rfl, h1, g1⟩
        have H5 := Lib.hid h1
        have G5 := Lib.hid (grown_trans G4.out g1)
        clear h1 g1 H4 G4
        by_cases hd : s[k + 1]? = some 62
        · have HD := Lib.hid hd
          clear hd
          have hk2 := lt_at HD.out
          go_wp2_with fail
          refine (need_yes s R (k + 1) 62 _ hl HD.out H5.out).mono ?_
          rintro e w6 ⟨⟨vn, rfl⟩, h1, g1⟩
          have H6 := Lib.hid h1
          have G6 := Lib.hid (grown_trans G5.out g1)
          clear h1 g1 H5 G5
          go_wp2_with fail
          refine (IPh.out (k + 2) (by omega) hk2 _ H6.out).mono ?_
          rintro e w7 ⟨v7, zs, k1, b1, rfl, ho, h1, g1, sx⟩
          obtain ⟨a1, c1, rfl, at1, -⟩ := ho.at
          have H7 := Lib.hid h1
          have G7 := Lib.hid (grown_trans G6.out g1)
          have OO := Lib.hid ho
          have A1 := Lib.hid at1
          have SX := Lib.hid sx
          have hz1 : zs.length ≤ 16384 := by have := sx.2.2.1; have := sx.2.1; omega
          have hz2 : 0 < zs.length := sx.2.2.2.1
          clear ho at1 sx h1 g1 H6
          clear G6
          go_wp2_with fail
          refine (l02Pre_any 6 zs _ _ _ _ (by omega) hz2 A1.out).mono ?_
          rintro e w8 ⟨v8, rfl, ho, hb⟩
          have O8 := Lib.hid (ho.mono G7.out.size)
          have H8 := Lib.hid (H7.out.other hb)
          have G8 := Lib.hid (grown_new G7.out hb)
          clear ho hb H7 G7
          go_wp2
          go_ret
          exact ⟨_, _, _, _, rfl, O8.out, H8.out, G8.out, sx_un (.inr ⟨rfl, rfl, rfl⟩) HY.out HD.out SX.out⟩
        · have HD := Lib.hid hd
          clear hd
          go_wp2_with fail
          refine (need_no s R (k + 1) 62 _ hk1 HD.out H5.out).mono ?_
          rintro e w6 ⟨⟨vn, rfl⟩, h1, g1⟩
          have H6 := Lib.hid h1
          have G6 := Lib.hid (grown_trans G5.out g1)
          clear h1 g1 H5 G5
          go_wp2_with fail
          refine (prefix_bad s R (k + 1) _ H6.out).mono ?_
          rintro e w7 ⟨v7, rfl, ho, h1, g1⟩
          obtain ⟨a1, c1, rfl, at1, -⟩ := ho.at
          have H7 := Lib.hid h1
          have G7 := Lib.hid (grown_trans G6.out g1)
          have A1 := Lib.hid at1
          clear ho at1 h1 g1 H6 G6
          go_wp2_with fail
          refine (l02Pre_any 6 [(1, 0)] _ _ _ _ (by simp) (by simp) A1.out).mono ?_
          rintro e w8 ⟨v8, rfl, ho, hb⟩
          have O8 := Lib.hid (ho.mono G7.out.size)
          have H8 := Lib.hid (H7.out.other hb)
          have G8 := Lib.hid (grown_new G7.out hb)
          clear ho hb H7 G7
          go_wp2
          go_ret
          exact ⟨_, _, _, _, rfl, O8.out, H8.out, G8.out, sx_unB (.inr ⟨rfl, rfl⟩) HY.out HD.out⟩
      have n60 := Lib.hid hc
      clear hc
      by_cases hc : s[k]? = some 40
      · have HY := Lib.hid hc
        clear hc
        have hk1 := lt_at HY.out
        go_wp2_with fail
        refine (take_fail s R k 70 _ hk n70.out H0.out).mono ?_
        rintro e w1 ⟨rfl, h1, g1⟩
        have H1 := Lib.hid h1
        have G1 := Lib.hid (grown_trans G0.out g1)
        clear h1 g1 H0 G0
        go_wp2_with fail
        refine (take_fail s R k 84 _ hk n84.out H1.out).mono ?_
        rintro e w2 ⟨rfl, h1, g1⟩
        have H2 := Lib.hid h1
        have G2 := Lib.hid (grown_trans G1.out g1)
        clear h1 g1 H1 G1
        go_wp2_with fail
        refine (take_fail s R k 126 _ hk n126.out H2.out).mono ?_
        rintro e w3 ⟨rfl, h1, g1⟩
        have H3 := Lib.hid h1
        have G3 := Lib.hid (grown_trans G2.out g1)
        clear h1 g1 H2 G2
        go_wp2_with fail
        refine (take_fail s R k 91 _ hk n91.out H3.out).mono ?_
        rintro e w4 ⟨rfl, h1, g1⟩
        have H4 := Lib.hid h1
        have G4 := Lib.hid (grown_trans G3.out g1)
        clear h1 g1 H3 G3
        go_wp2_with fail
        refine (take_fail s R k 60 _ hk n60.out H4.out).mono ?_
        rintro e w5 ⟨rfl, h1, g1⟩
        have H5 := Lib.hid h1
        have G5 := Lib.hid (grown_trans G4.out g1)
        clear h1 g1 H4 G4
        go_wp2_with fail
        refine (take_yes s R k 40 _ hl HY.out H5.out).mono ?_
        rintro e w6 ⟨rfl, h1, g1⟩
        have H6 := Lib.hid h1
        have G6 := Lib.hid (grown_trans G5.out g1)
        clear h1 g1 H5 G5
        go_wp2_with fail
        refine (IIh.out (k + 1) (by omega) hk1 _ H6.out).mono ?_
        rintro e w7 ⟨v7, zs, k1, b1, rfl, ho, h1, g1, sx⟩
        obtain ⟨a1, c1, rfl, at1, -⟩ := ho.at
        have H7 := Lib.hid h1
        have G7 := Lib.hid (grown_trans G6.out g1)
        have OO := Lib.hid ho
        have A1 := Lib.hid at1
        have SX := Lib.hid sx
        have hz1 : zs.length ≤ 16384 := by have := sx.2.2.1; have := sx.2.1; omega
        have hz2 : 0 < zs.length := sx.2.2.2.1
        clear ho at1 sx h1 g1 H6
        have O7 := Lib.hid (OO.out.mono G6.out.size)
        clear OO A1 G6
        have hkk := SX.out.2.1
        cases b1
        · by_cases hd : s[k1]? = some 41
          · have HD := Lib.hid hd
            clear hd
            go_wp2_with fail
            refine (need_yes s R k1 41 _ hl HD.out H7.out).mono ?_
            rintro e w8 ⟨⟨vn, rfl⟩, h1, g1⟩
            have O8 := Lib.hid (own_kept O7.out hR g1)
            have H8 := Lib.hid h1
            have G8 := Lib.hid (grown_trans G7.out g1)
            clear h1 g1 H7 O7 G7
            go_wp2
            go_ret
            exact ⟨_, _, _, _, rfl, O8.out, H8.out, G8.out, sx_pa HY.out SX.out HD.out⟩
          · have HD := Lib.hid hd
            clear hd
            go_wp2_with fail
            refine (need_no s R k1 41 _ hkk HD.out H7.out).mono ?_
            rintro e w8 ⟨⟨vn, rfl⟩, h1, g1⟩
            have O8 := Lib.hid (own_kept O7.out hR g1)
            have H8 := Lib.hid h1
            have G8 := Lib.hid (grown_trans G7.out g1)
            clear h1 g1 H7 O7 G7
            go_wp2
            go_ret
            exact ⟨_, _, _, _, rfl, O8.out, H8.out, G8.out, sx_paB HY.out SX.out HD.out⟩
        · skip
          go_wp2_with fail
          refine (need_bad s R k1 41 _ H7.out).mono ?_
          rintro e w8 ⟨⟨vn, rfl⟩, h1, g1⟩
          have O8 := Lib.hid (own_kept O7.out hR g1)
          have H8 := Lib.hid h1
          have G8 := Lib.hid (grown_trans G7.out g1)
          clear h1 g1 H7 O7 G7
          go_wp2
          go_ret
          exact ⟨_, _, _, _, rfl, O8.out, H8.out, G8.out, sx_paE HY.out SX.out⟩
      have n40 := Lib.hid hc
      clear hc
      go_wp2_with fail
      refine (take_fail s R k 70 _ hk n70.out H0.out).mono ?_
      rintro e w1 ⟨rfl, h1, g1⟩
      have H1 := Lib.hid h1
      have G1 := Lib.hid (grown_trans G0.out g1)
      clear h1 g1 H0 G0
      go_wp2_with fail
      refine (take_fail s R k 84 _ hk n84.out H1.out).mono ?_
      rintro e w2 ⟨rfl, h1, g1⟩
      have H2 := Lib.hid h1
      have G2 := Lib.hid (grown_trans G1.out g1)
      clear h1 g1 H1 G1
      go_wp2_with fail
      refine (take_fail s R k 126 _ hk n126.out H2.out).mono ?_
      rintro e w3 ⟨rfl, h1, g1⟩
      have H3 := Lib.hid h1
      have G3 := Lib.hid (grown_trans G2.out g1)
      clear h1 g1 H2 G2
      go_wp2_with fail
      refine (take_fail s R k 91 _ hk n91.out H3.out).mono ?_
      rintro e w4 ⟨rfl, h1, g1⟩
      have H4 := Lib.hid h1
      have G4 := Lib.hid (grown_trans G3.out g1)
      clear h1 g1 H3 G3
      go_wp2_with fail
      refine (take_fail s R k 60 _ hk n60.out H4.out).mono ?_
      rintro e w5 ⟨rfl, h1, g1⟩
      have H5 := Lib.hid h1
      have G5 := Lib.hid (grown_trans G4.out g1)
      clear h1 g1 H4 G4
      go_wp2_with fail
      refine (take_fail s R k 40 _ hk n40.out H5.out).mono ?_
      rintro e w6 ⟨rfl, h1, g1⟩
      have H6 := Lib.hid h1
      have G6 := Lib.hid (grown_trans G5.out g1)
      clear h1 g1 H5 G5
      obtain ⟨c0, c1, c2, f1, f2⟩ := H6.out.cells
      have H7 := Lib.hid (H6.out.mark true)
      have G7 := Lib.hid (grown_trans G6.out (grown_set w6 R 2 (.bool true)))
      clear H6 G6
      go_wp2_with fail
      refine (l02False_any _).mono ?_
      rintro e w8 ⟨v8, rfl, ho, hb⟩
      have O8 := Lib.hid (ho.mono G7.out.size)
      have H8 := Lib.hid (H7.out.other hb)
      have G8 := Lib.hid (grown_new G7.out hb)
      clear ho hb H7 G7
      go_wp2
      go_ret
      exact ⟨_, _, _, _, rfl, O8.out, H8.out, G8.out, sx_bad hk hv.out n70.out n84.out n126.out n91.out n60.out n40.out⟩

end Go.Proofs.Ytpccocmiadpgiaa
