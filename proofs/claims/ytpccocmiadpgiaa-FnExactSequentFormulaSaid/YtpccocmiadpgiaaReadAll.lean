/- The model's reader of formulas: the levels and, or and imply, and the whole. Conditions: those in the theorems. -/
import Derived.Test.YtpccocmiadpgiaaReadOk
namespace Go.Proofs.Ytpccocmiadpgiaa
open Go.RowKit

/-- Where the reader in block R stands. -/
def posR (R : Nat) (w : World) : Nat := match w.heap[R]? with | some (Obj.cells c _ _) => (match c[1]? with | some (Value.int _ n) => n.toNat | _ => 0) | _ => 0
theorem posR_at {w : World} {R : Nat} {s : List UInt8} {k : Nat} {b : Bool} (h : Rd w R s k b) : posR R w = k := by
  unfold posR
  rw [h]
  rfl

set_option maxHeartbeats 2000000 in
theorem and_ok (s : List UInt8) (R k : Nat) (hk : k ≤ s.length) (hl : s.length ≤ 4096) (IP : ∀ k', k ≤ k' → k' ≤ s.length → ReadsAt 96 .pre s R k') : ReadsAt 90 .and s R k := by
  intro w h
  have hR := h.lt
  have H := Lib.hid h
  have IPh := Lib.hid IP
  clear h IP
  go_enter Try.func90, Try.ntmps90
  go_wp2_with fail
  refine (IPh.out k (Nat.le_refl _) hk _ H.out).mono ?_
  rintro e w1 ⟨v1, zs1, k1, b1, rfl, ho, h1, g1, sx⟩
  have O1 := Lib.hid ho
  have H1 := Lib.hid h1
  have G1 := Lib.hid g1
  have SX := Lib.hid (lx_and sx)
  clear ho h1 g1 sx H
  go_wp2
  go_loopw [3] (fun v wr => ∃ zs kk b, Hid (OwnN wr w.heap.size v zs) ∧ Hid (Rd wr R s kk b) ∧ w.grownBy wr (some R) ∧ Hid (Lx .and .lAnd s k zs kk b)) (fun _ wr => s.length - posR R wr)
  case atStart => exact ⟨zs1, k1, b1, O1, H1, G1.out, SX⟩
  case round =>
    obtain ⟨zs, kk, b, O2, H2, hgr, SX2⟩ := hrel
    have G2 := Lib.hid hgr
    clear hgr
    cases b
    · by_cases hd : s[kk]? = some 38
      · have HD := Lib.hid hd
        clear hd
        have hkk := lt_at HD.out
        have hpos := posR_at H2.out
        go_wp2_with fail
        refine (take_yes s R kk 38 _ hl HD.out H2.out).mono ?_
        rintro e w3 ⟨rfl, h3, g3⟩
        have O3 := Lib.hid (own_kept O2.out hR g3)
        have H3 := Lib.hid h3
        have G3 := Lib.hid (grown_trans G2.out g3)
        clear h3 g3 O2 G2
        go_wp2_with fail
        refine (IPh.out (kk + 1) (by have := SX2.out.1; omega) hkk _ H3.out).mono ?_
        rintro e w4 ⟨v4, zs4, k4, b4, rfl, ho, h4, g4, sx4⟩
        have O4 := Lib.hid (own_kept O3.out hR g4)
        obtain ⟨a5, c5, rfl, at5, -⟩ := ho.at
        obtain ⟨a6, c6, rfl, at6, -⟩ := O4.out.at
        have A5 := Lib.hid at5
        have A6 := Lib.hid at6
        have H4 := Lib.hid h4
        have G4 := Lib.hid (grown_trans G3.out g4)
        have q1 := SX2.out.2.2.1
        have q2 := SX2.out.2.2.2.1
        have q3 := sx4.2.2.1
        have q4 := sx4.2.2.2.1
        have q5 := sx4.2.1
        have q6 := sx4.1
        have SX4 := Lib.hid (lx_and_step SX2.out HD.out sx4)
        have hlen : zs.length + zs4.length ≤ 4194304 := by omega
        clear ho at5 at6 h4 g4 sx4 H3 G3 O3 SX2 q1 q3
        go_wp2_with fail
        refine (l02Pair_any 2 zs zs4 _ _ _ _ _ _ _ hlen q2 q4 A6.out A5.out).mono ?_
        rintro e w7 ⟨v7, rfl, ho, hb⟩
        have O7 := Lib.hid (ho.mono G4.out.size)
        have H7 := Lib.hid (H4.out.other hb)
        have G7 := Lib.hid (grown_new G4.out hb)
        have hpos7 := posR_at H7.out
        clear ho hb H4 G4 O4 A5 A6
        go_wp2
        go_roundw
        case rel => exact ⟨_, k4, b4, O7, H7, G7.out, SX4⟩
        case measure => rw [hpos7, hpos]; omega
      · have HD := Lib.hid hd
        clear hd
        have hkk := SX2.out.2.1
        go_wp2_with fail
        refine (take_fail s R kk 38 _ hkk HD.out H2.out).mono ?_
        rintro e w3 ⟨rfl, h3, g3⟩
        have O3 := Lib.hid (own_kept O2.out hR g3)
        have H3 := Lib.hid h3
        have G3 := Lib.hid (grown_trans G2.out g3)
        clear h3 g3 O2 G2 H2
        go_wp2
        go_ret
        exact ⟨_, _, _, _, rfl, O3.out, H3.out, G3.out, lx_and_end SX2.out HD.out⟩
    · go_wp2_with fail
      refine (take_bad s R kk 38 _ H2.out).mono ?_
      rintro e w3 ⟨rfl, h3, g3⟩
      have O3 := Lib.hid (own_kept O2.out hR g3)
      have H3 := Lib.hid h3
      have G3 := Lib.hid (grown_trans G2.out g3)
      clear h3 g3 O2 G2 H2
      go_wp2
      go_ret
      exact ⟨_, _, _, _, rfl, O3.out, H3.out, G3.out, lx_bad SX2.out⟩

set_option maxHeartbeats 2000000 in
theorem or_ok (s : List UInt8) (R k : Nat) (hk : k ≤ s.length) (hl : s.length ≤ 4096) (IP : ∀ k', k ≤ k' → k' ≤ s.length → ReadsAt 90 .and s R k') : ReadsAt 84 .or s R k := by
  intro w h
  have hR := h.lt
  have H := Lib.hid h
  have IPh := Lib.hid IP
  clear h IP
  go_enter Try.func84, Try.ntmps84
  go_wp2_with fail
  refine (IPh.out k (Nat.le_refl _) hk _ H.out).mono ?_
  rintro e w1 ⟨v1, zs1, k1, b1, rfl, ho, h1, g1, sx⟩
  have O1 := Lib.hid ho
  have H1 := Lib.hid h1
  have G1 := Lib.hid g1
  have SX := Lib.hid (lx_or sx)
  clear ho h1 g1 sx H
  go_wp2
  go_loopw [3] (fun v wr => ∃ zs kk b, Hid (OwnN wr w.heap.size v zs) ∧ Hid (Rd wr R s kk b) ∧ w.grownBy wr (some R) ∧ Hid (Lx .or .lOr s k zs kk b)) (fun _ wr => s.length - posR R wr)
  case atStart => exact ⟨zs1, k1, b1, O1, H1, G1.out, SX⟩
  case round =>
    obtain ⟨zs, kk, b, O2, H2, hgr, SX2⟩ := hrel
    have G2 := Lib.hid hgr
    clear hgr
    cases b
    · by_cases hd : s[kk]? = some 124
      · have HD := Lib.hid hd
        clear hd
        have hkk := lt_at HD.out
        have hpos := posR_at H2.out
        go_wp2_with fail
        refine (take_yes s R kk 124 _ hl HD.out H2.out).mono ?_
        rintro e w3 ⟨rfl, h3, g3⟩
        have O3 := Lib.hid (own_kept O2.out hR g3)
        have H3 := Lib.hid h3
        have G3 := Lib.hid (grown_trans G2.out g3)
        clear h3 g3 O2 G2
        go_wp2_with fail
        refine (IPh.out (kk + 1) (by have := SX2.out.1; omega) hkk _ H3.out).mono ?_
        rintro e w4 ⟨v4, zs4, k4, b4, rfl, ho, h4, g4, sx4⟩
        have O4 := Lib.hid (own_kept O3.out hR g4)
        obtain ⟨a5, c5, rfl, at5, -⟩ := ho.at
        obtain ⟨a6, c6, rfl, at6, -⟩ := O4.out.at
        have A5 := Lib.hid at5
        have A6 := Lib.hid at6
        have H4 := Lib.hid h4
        have G4 := Lib.hid (grown_trans G3.out g4)
        have q1 := SX2.out.2.2.1
        have q2 := SX2.out.2.2.2.1
        have q3 := sx4.2.2.1
        have q4 := sx4.2.2.2.1
        have q5 := sx4.2.1
        have q6 := sx4.1
        have SX4 := Lib.hid (lx_or_step SX2.out HD.out sx4)
        have hlen : zs.length + zs4.length ≤ 4194304 := by omega
        clear ho at5 at6 h4 g4 sx4 H3 G3 O3 SX2 q1 q3
        go_wp2_with fail
        refine (l02Pair_any 3 zs zs4 _ _ _ _ _ _ _ hlen q2 q4 A6.out A5.out).mono ?_
        rintro e w7 ⟨v7, rfl, ho, hb⟩
        have O7 := Lib.hid (ho.mono G4.out.size)
        have H7 := Lib.hid (H4.out.other hb)
        have G7 := Lib.hid (grown_new G4.out hb)
        have hpos7 := posR_at H7.out
        clear ho hb H4 G4 O4 A5 A6
        go_wp2
        go_roundw
        case rel => exact ⟨_, k4, b4, O7, H7, G7.out, SX4⟩
        case measure => rw [hpos7, hpos]; omega
      · have HD := Lib.hid hd
        clear hd
        have hkk := SX2.out.2.1
        go_wp2_with fail
        refine (take_fail s R kk 124 _ hkk HD.out H2.out).mono ?_
        rintro e w3 ⟨rfl, h3, g3⟩
        have O3 := Lib.hid (own_kept O2.out hR g3)
        have H3 := Lib.hid h3
        have G3 := Lib.hid (grown_trans G2.out g3)
        clear h3 g3 O2 G2 H2
        go_wp2
        go_ret
        exact ⟨_, _, _, _, rfl, O3.out, H3.out, G3.out, lx_or_end SX2.out HD.out⟩
    · go_wp2_with fail
      refine (take_bad s R kk 124 _ H2.out).mono ?_
      rintro e w3 ⟨rfl, h3, g3⟩
      have O3 := Lib.hid (own_kept O2.out hR g3)
      have H3 := Lib.hid h3
      have G3 := Lib.hid (grown_trans G2.out g3)
      clear h3 g3 O2 G2 H2
      go_wp2
      go_ret
      exact ⟨_, _, _, _, rfl, O3.out, H3.out, G3.out, lx_bad SX2.out⟩

set_option maxHeartbeats 1000000 in
theorem imply_ok (s : List UInt8) (R k : Nat) (hk : k ≤ s.length) (hl : s.length ≤ 4096) (IO : ReadsAt 84 .or s R k) (II : ∀ k', k < k' → k' ≤ s.length → ReadsAt 70 .imp s R k') : ReadsAt 70 .imp s R k := by
  intro w h
  have hR := h.lt
  have H := Lib.hid h
  have IOh := Lib.hid IO
  have IIh := Lib.hid II
  clear h IO II
  go_enter Try.func70, Try.ntmps70
  go_wp2_with fail
  refine (IOh.out _ H.out).mono ?_
  rintro e w1 ⟨v1, zs, kk, b, rfl, ho, h1, g1, sx⟩
  have O2 := Lib.hid ho
  have H2 := Lib.hid h1
  have G2 := Lib.hid g1
  have SX2 := Lib.hid sx
  clear ho h1 g1 sx H
  cases b
  · by_cases hd : s[kk]? = some 62
    · have HD := Lib.hid hd
      clear hd
      have hkk := lt_at HD.out
      go_wp2_with fail
      refine (take_yes s R kk 62 _ hl HD.out H2.out).mono ?_
      rintro e w3 ⟨rfl, h3, g3⟩
      have O3 := Lib.hid (own_kept O2.out hR g3)
      have H3 := Lib.hid h3
      have G3 := Lib.hid (grown_trans G2.out g3)
      clear h3 g3 O2 G2 H2
      go_wp2_with fail
      refine (IIh.out (kk + 1) (by have := SX2.out.1; omega) hkk _ H3.out).mono ?_
      rintro e w4 ⟨v4, zs4, k4, b4, rfl, ho, h4, g4, sx4⟩
      have O4 := Lib.hid (own_kept O3.out hR g4)
      obtain ⟨a5, c5, rfl, at5, -⟩ := ho.at
      obtain ⟨a6, c6, rfl, at6, -⟩ := O4.out.at
      have A5 := Lib.hid at5
      have A6 := Lib.hid at6
      have H4 := Lib.hid h4
      have G4 := Lib.hid (grown_trans G3.out g4)
      have q1 := SX2.out.2.2.1
      have q2 := SX2.out.2.2.2.1
      have q3 := sx4.2.2.1
      have q4 := sx4.2.2.2.1
      have q5 := sx4.2.1
      have SX4 := Lib.hid (sx_im SX2.out HD.out sx4)
      have hlen : zs.length + zs4.length ≤ 4194304 := by omega
      clear ho at5 at6 h4 g4 sx4 H3 G3 O3 SX2 q1 q3
      go_wp2_with fail
      refine (l02Pair_any 4 zs zs4 _ _ _ _ _ _ _ hlen q2 q4 A6.out A5.out).mono ?_
      rintro e w7 ⟨v7, rfl, ho, hb⟩
      have O7 := Lib.hid (ho.mono G4.out.size)
      have H7 := Lib.hid (H4.out.other hb)
      have G7 := Lib.hid (grown_new G4.out hb)
      clear ho hb H4 G4 O4 A5 A6
      go_wp2
      go_ret
      exact ⟨_, _, _, _, rfl, O7.out, H7.out, G7.out, SX4.out⟩
    · have HD := Lib.hid hd
      clear hd
      have hkk := SX2.out.2.1
      go_wp2_with fail
      refine (take_fail s R kk 62 _ hkk HD.out H2.out).mono ?_
      rintro e w3 ⟨rfl, h3, g3⟩
      have O3 := Lib.hid (own_kept O2.out hR g3)
      have H3 := Lib.hid h3
      have G3 := Lib.hid (grown_trans G2.out g3)
      clear h3 g3 O2 G2 H2
      go_wp2
      go_ret
      exact ⟨_, _, _, _, rfl, O3.out, H3.out, G3.out, sx_imZ SX2.out HD.out⟩
  · go_wp2_with fail
    refine (take_bad s R kk 62 _ H2.out).mono ?_
    rintro e w3 ⟨rfl, h3, g3⟩
    have O3 := Lib.hid (own_kept O2.out hR g3)
    have H3 := Lib.hid h3
    have G3 := Lib.hid (grown_trans G2.out g3)
    clear h3 g3 O2 G2 H2
    go_wp2
    go_ret
    exact ⟨_, _, _, _, rfl, O3.out, H3.out, G3.out, sx_imE SX2.out⟩

theorem reads (s : List UInt8) (R : Nat) (hl : s.length ≤ 4096) : ∀ n k, s.length - k ≤ n → k ≤ s.length → ReadsAt 96 .pre s R k ∧ ReadsAt 70 .imp s R k := by
  intro n
  induction n with
  | zero =>
    intro k hn hk
    have hp := prefix_ok s R k hk hl (fun k' h1 h2 => absurd h1 (by omega)) (fun k' h1 h2 => absurd h1 (by omega))
    have ha := and_ok s R k hk hl (fun k' h1 h2 => (show k = k' by omega) ▸ hp)
    have ho := or_ok s R k hk hl (fun k' h1 h2 => (show k = k' by omega) ▸ ha)
    exact ⟨hp, imply_ok s R k hk hl ho (fun k' h1 h2 => absurd h1 (by omega))⟩
  | succ n ih =>
    intro k hn hk
    have hp := prefix_ok s R k hk hl (fun k' h1 h2 => (ih k' (by omega) h2).1) (fun k' h1 h2 => (ih k' (by omega) h2).2)
    have hpa : ∀ k', k ≤ k' → k' ≤ s.length → ReadsAt 96 .pre s R k' := fun k' h1 h2 => by
      by_cases e : k' = k
      · subst e; exact hp
      · exact (ih k' (by omega) h2).1
    have ha : ∀ k', k ≤ k' → k' ≤ s.length → ReadsAt 90 .and s R k' := fun k' h1 h2 => and_ok s R k' h2 hl (fun k2 h3 h4 => hpa k2 (by omega) h4)
    have ho := or_ok s R k hk hl (fun k' h1 h2 => ha k' (by omega) h2)
    exact ⟨hp, imply_ok s R k hk hl ho (fun k' h1 h2 => (ih k' (by omega) h2).2)⟩

end Go.Proofs.Ytpccocmiadpgiaa
