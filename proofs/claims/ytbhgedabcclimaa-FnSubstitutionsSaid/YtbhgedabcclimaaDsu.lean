/- Contract of the model's function that draws the arguments of the laws on substitutions. Conditions: those in the theorems. -/
import Derived.Test.YtbhgedabcclimaaDrawJ
import Derived.Test.YtbhgedabcclimaaSubV
namespace Go.Proofs.Ytbhgedabcclimaa
open Go.RowKit

theorem rowG {w w' : World} {B b e s n : Nat} {v : Value} {us : List Value} (h : w.ownsRow B e s v n us) (hg : w.grownBy w' (some b)) (hb : b < B) : w'.ownsRow B e s v n us := by
  refine World.ownsRow.kept h hg ?_
  cases hv : v.ownBlock with
  | none => exact .inl rfl
  | some k =>
    right
    intro e
    have := (World.ownsRow.lt h k hv).1
    cases e
    omega
theorem OwnL.keepG {w w' : World} {B b : Nat} {v : Value} {xss : List (List Nd)} (h : OwnL w B v xss) (hg : w.grownBy w' (some b)) (hb : b < B) : OwnL w' B v xss := by
  obtain ⟨us, g1, g2, g3⟩ := h
  exact ⟨us, rowG g1 hg hb, fun j hj => OwnN.keepG (g2 j hj) hg hb, g3⟩
theorem grown_setN {W w : World} {b g k : Nat} {z : Value} (h : W.grownBy w (some b)) (hg : W.heap.size ≤ g) : W.grownBy (w.setCell ⟨g, k, none⟩ z) (some b) :=
  ⟨h.os, h.tape, h.output, by simpa [World.setCell] using h.size, fun i hi hne => (Below.heap_setCell _ _ _ _ (fun e => by subst e; exact absurd hi (by omega))).trans (h.block i hi hne)⟩
theorem src_setN {w : World} {b g k : Nat} {z : Value} {a : Option Addr} {len cap : Nat} (h : Src w b a len cap) (hg : b < g) : Src (w.setCell ⟨g, k, none⟩ z) b a len cap :=
  h.other (grown_set w g k z) (fun e => by cases e; omega)
/-- A store of a list that has been made behind the world wr, while block b was turned. -/
theorem OwnL.setG {wr w1 : World} {B b g n c k : Nat} {xss : List (List Nd)} (h : OwnL wr B (.slice (some ⟨g, 0, none⟩) n c) xss) (hn : n = xss.length) (hk : k < n) (hG : wr.grownBy w1 (some b)) (hbB : b < B) {z : Value} {ys : List Nd} (hz1 : OwnN w1 wr.heap.size z ys) (hB : B ≤ wr.heap.size) :
    OwnL (w1.setCell ⟨g, k, none⟩ z) B (.slice (some ⟨g, 0, none⟩) n c) (xss.set k ys) ∧ B ≤ g ∧ (∃ u, w1.cell? ⟨g, k, none⟩ = some u) ∧ w1.frozen? ⟨g, k, none⟩ = false := by
  subst hn
  obtain ⟨us, g1, g2, g3⟩ := h
  have hul := g1.1
  have r1 := rowG g1 hG hbB
  have r2 := (r1.cellAt k (by omega)).trans (atV_some (by omega))
  have r3 : w1.frozen? ⟨g, k, none⟩ = false := r1.frozenAt _
  have hst := r1.stored k z
  have hgb : B ≤ g := (row_type r1 g rfl).1
  obtain ⟨-, cs, f, hh⟩ := row_type r1 g rfl
  refine ⟨⟨us.set k z, ?_, ?_, ?_⟩, hgb, ⟨_, r2⟩, r3⟩
  · rw [List.length_set]; exact hst.1
  · intro j hj
    rw [List.length_set] at hj
    rw [atV_set, nthL_set hk]
    by_cases e : j = k
    · rw [if_pos ⟨e, by omega⟩, if_pos e]
      exact row_set (ownsRow_mono hz1 hB) hh tyL k z
    · rw [if_neg (fun h => e h.1), if_neg e]
      have i0 := g2 j hj
      exact row_set (rowG i0 hG hbB) hh tyL k z
  · intro i j hij hj q hq
    rw [List.length_set] at hj
    rw [atV_set] at hq ⊢
    by_cases e1 : i = k
    · rw [if_pos ⟨e1, by omega⟩] at hq
      rw [if_neg (fun h => by omega)]
      intro hq2
      have h1 := row_lt (g2 j hj) q hq2
      have h2 := (row_type hz1 q hq).1
      omega
    · rw [if_neg (fun h => e1 h.1)] at hq
      by_cases e2 : j = k
      · rw [if_pos ⟨e2, by omega⟩]
        intro hq2
        have h1 := row_lt (g2 i (by omega)) q hq
        have h2 := (row_type hz1 q hq2).1
        omega
      · rw [if_neg (fun h => e2 h.1)]
        exact g3 i j hij hj q hq
theorem ownL_cap {w : World} {B g n c : Nat} {xss : List (List Nd)} (h : OwnL w B (.slice (some ⟨g, 0, none⟩) n c) xss) : n = xss.length ∧ n ≤ c ∧ c ≤ maxLen := by
  obtain ⟨us, ⟨h1, h2⟩, -, -⟩ := h
  rcases h2 with ⟨h3, -⟩ | ⟨g', cap, cur, h3, -, -, h4, h5, -⟩
  · cases h3
  · cases h3; exact ⟨rfl, h4, h5⟩
theorem nthL_tail {xss : List (List Nd)} {j : Nat} : nthL xss.tail j = nthL xss (j + 1) := by
  unfold nthL
  cases xss <;> simp [List.getD]
/-- No image is long. -/
def sml (xss : List (List Nd)) : Prop := ∀ j, j < xss.length → 0 < (nthL xss j).length ∧ (nthL xss j).length ≤ 40
theorem sml_self : sml (selfTo 6) := fun j hj => by rw [selfTo_at (by simpa [selfTo_len] using hj)]; simp
theorem sml_set {xss : List (List Nd)} {k : Nat} {ys : List Nd} (h : sml xss) (hk : k < xss.length) (h0 : 0 < ys.length) (h1 : ys.length ≤ 40) : sml (xss.set k ys) := fun j hj => by
  rw [List.length_set] at hj
  rw [nthL_set hk]
  split
  · exact ⟨h0, h1⟩
  · exact h j hj
/-- What the drawing of images leaves. -/
def DrewL (w : World) (b : Nat) (a : Option Addr) (len cap : Nat) (e : Ending) (w' : World) : Prop :=
  (∃ a1 c1 xss, e = .returned (.slice a1 xss.length c1) ∧ AtNN w' a1 xss.length xss ∧ xss.length ≤ 6 ∧ ∀ j, j < xss.length → (nthL xss j).length ≤ 64) ∧ Src w' b a len cap ∧ w.grownBy w' (some b)

set_option maxHeartbeats 4000000 in
theorem l03Images_any (size : Int) (hz : size ≤ 30) (b : Nat) (a : Option Addr) (len cap B : Nat) (w : World) (hBb : B ≤ b) (hBw : B ≤ w.heap.size) (hsrc : Src w b a len cap) (hc : Code B w a len) :
    Calls Try.prog 99 #[.pointer (some ⟨b, 0, none⟩), .int .i64 size] w (DrewL w b a len cap) := by
  have HS := Lib.hid hsrc
  have HC := Lib.hid hc
  have hlt := hsrc.lt
  clear hsrc hc
  go_enter Try.func99, Try.ntmps99
  go_wp2_with fail
  refine (l03Self_any w).mono ?_
  rintro e w1 ⟨v1, rfl, ho1, hb1⟩
  obtain ⟨g, c, rfl, -⟩ := ho1.img six_self
  have O1 := Lib.hid ho1
  have S1 := Lib.hid (HS.out.below hb1 (Nat.le_refl _))
  have G1 := Lib.hid (grown_of_below hb1 (some b))
  clear ho1 hb1
  go_wp2
  go_loopw [6] (fun i wr => ∃ (k : Nat) (xss : List (List Nd)), k ≤ 6 ∧ i = .int .i64 k ∧ xss.length = 6 ∧ Hid (sml xss) ∧ Hid (OwnL wr w.heap.size (.slice (some ⟨g, 0, none⟩) 6 c) xss) ∧ Hid (Src wr b a len cap) ∧ Hid (w.grownBy wr (some b))) (fun i _ => 6 - (intOf i).toNat)
  case atStart => exact ⟨0, _, by omega, rfl, selfTo_len 6, sml_self, O1.out, S1.out, G1.out⟩
  case round =>
    obtain ⟨k, xss, hk, rfl, h6, hm, OL, S, G⟩ := hrel
    by_cases hlt6 : k < 6
    · go_wp2_with fail
      refine (l01Next_any b a len cap 2 _ B hBb S.out (HC.out.grown G.out hBb hBw)).mono ?_
      rintro e w2 ⟨x, rfl, hx, hs, hg⟩
      have S2 := Lib.hid hs
      have G2 := Lib.hid (grown_trans G.out hg)
      have OL2 := Lib.hid (OL.out.keepG hg hlt)
      clear hs hg S G OL hx
      by_cases h0 : x = 0
      · subst h0
        go_wp2_with fail
        refine (l01Next_any b a len cap size _ B hBb S2.out (HC.out.grown G2.out hBb hBw)).mono ?_
        rintro e w3 ⟨y, rfl, hy, hs, hg⟩
        have S3 := Lib.hid hs
        have G3 := Lib.hid (grown_trans G2.out hg)
        have OL3 := Lib.hid (OL2.out.keepG hg hlt)
        have hy30 : y ≤ 30 := by omega
        clear hs hg S2 G2 OL2 hy
        have hsz3 := G3.out.size
        go_wp2_with fail
        refine (l02Draw_any true 3 b a len cap B hBb 40 (1 + y) w3 (by omega) (by omega) (Nat.le_trans hBw hsz3) S3.out (HC.out.grown G3.out hBb hBw) (by omega)).mono ?_
        rintro e w4 ⟨⟨vd, zd, rfl, hod, hpd, hqd⟩, hs, hg⟩
        obtain ⟨s1, s2, ⟨u, s3⟩, s4⟩ := OL3.out.setG h6.symm hlt6 hg hlt hod hsz3
        have OL4 := Lib.hid s1
        have S4 := Lib.hid (src_setN (k := k) (z := vd) hs (Nat.lt_of_lt_of_le hlt s2))
        have G4 := Lib.hid (grown_setN (k := k) (z := vd) (grown_trans G3.out hg) s2)
        have M4 := Lib.hid (sml_set (k := k) hm.out (by omega) hpd (by omega))
        obtain ⟨ad, cd, rfl, -⟩ := hod.at
        have h64 : (xss.set k zd).length = 6 := by rw [List.length_set]; exact h6
        clear s1 s2 hs hg hod hpd hqd S3 G3 OL3 hm
        go_wp2
        go_roundw
        case rel => exact ⟨k + 1, _, hlt6, by go_num, h64, M4, OL4, S4, G4⟩
        case measure => simp [intOf]; omega
      · have h01 : ((x : Int) == 0) = false := by simpa using h0
        go_wp2
        go_roundw
        case rel => exact ⟨k + 1, _, hlt6, by go_num, h6, hm, OL2, S2, G2⟩
        case measure => simp [intOf]; omega
    · obtain rfl : k = 6 := by omega
      obtain ⟨-, hc6, hcm⟩ := ownL_cap OL.out
      unfold maxLen at hcm
      go_wp2_with fail
      refine (l01Next_any b a len cap 40 _ B hBb S.out (HC.out.grown G.out hBb hBw)).mono ?_
      rintro e w2 ⟨x, rfl, hx, hs, hg⟩
      have S2 := Lib.hid hs
      have G2 := Lib.hid (grown_trans G.out hg)
      have OL2 := Lib.hid (OL.out.keepG hg hlt)
      clear hs hg S G OL hx
      have hsz2 := G2.out.size
      by_cases h0 : x = 0
      · subst h0
        have AT := Lib.hid (show AtNN w2 (some ⟨g, 1, none⟩) xss.tail.length xss.tail from by
          obtain ⟨a', cap', e, hat⟩ := OL2.out.at
          rw [h6] at e
          cases e
          have hl5 : xss.tail.length = 5 := by rw [List.length_tail]; omega
          refine ⟨rfl, .inr ⟨g, 1, rfl, ?_, fun j hj => ?_⟩⟩
          · obtain ⟨b', off, e, hbs, -⟩ := hat.2.resolve_left (by omega)
            cases e; exact hbs
          · obtain ⟨b', off, e, -, hc⟩ := hat.2.resolve_left (by omega)
            cases e
            have := hc (j + 1) (by omega)
            rw [nthL_tail, show 1 + j = 0 + (j + 1) by omega]
            exact this)
        have hl5 : xss.tail.length = 5 := by rw [List.length_tail]; omega
        have M5 := Lib.hid (show ∀ j, j < xss.tail.length → (nthL xss.tail j).length ≤ 64 from fun j hj => by
          rw [nthL_tail]
          have := (hm.out (j + 1) (by omega)).2
          omega)
        go_wp2
        go_ret
        exact ⟨⟨_, _, xss.tail, by rw [hl5]; rfl, AT.out, by omega, M5.out⟩, S2.out, G2.out⟩
      · have h01 : ((x : Int) == 0) = false := by simpa using h0
        by_cases h1 : x = 1
        · subst h1
          obtain ⟨a', cap', hcell, hat0⟩ : ∃ a' cap', w2.cell? ⟨g, 0, none⟩ = some (.slice a' (nthL xss 0).length cap') ∧ AtN w2 a' (nthL xss 0).length (nthL xss 0) := by
            obtain ⟨a', cap', e, hat⟩ := OL2.out.at
            rw [h6] at e
            cases e
            obtain ⟨b', off, e, -, hc⟩ := hat.2.resolve_left (by omega)
            cases e
            exact hc 0 (by omega)
          have A0 := Lib.hid hat0
          have hm0 := hm.out 0 (by omega)
          clear hat0
          obtain ⟨n, hn⟩ : ∃ n, n = (nthL xss 0).length := ⟨_, rfl⟩
          rw [← hn] at hcell hm0 A0
          clear hn
          go_wp2_with fail
          refine (l02Bend_any (nthL xss 0) a' n cap' b a len cap B w2 hBb (Nat.le_trans hBw hsz2) (by omega) hm0.1 A0.out S2.out (HC.out.grown G2.out hBb hBw)).mono ?_
          rintro e w4 ⟨⟨vd, zd, rfl, hod, hqd⟩, hs, hg⟩
          obtain ⟨s1, s2, ⟨u, s3⟩, s4⟩ := OL2.out.setG h6.symm (show 0 < 6 by omega) hg hlt hod hsz2
          have OL4 := Lib.hid s1
          have S4 := Lib.hid (src_setN (k := 0) (z := vd) hs (Nat.lt_of_lt_of_le hlt s2))
          have G4 := Lib.hid (grown_setN (k := 0) (z := vd) (grown_trans G2.out hg) s2)
          have h64 : (xss.set 0 zd).length = 6 := by rw [List.length_set]; exact h6
          have M4 := Lib.hid (show ∀ j, j < (xss.set 0 zd).length → (nthL (xss.set 0 zd) j).length ≤ 64 from fun j hj => by
            rw [nthL_set (by omega)]
            split
            · omega
            · have := (hm.out j (by omega)).2
              omega)
          obtain ⟨ad, cd, rfl, -⟩ := hod.at
          clear s1 s2 hs hg hod hqd S2 G2 OL2 hm A0 hcell
          go_wp2
          go_ret
          obtain ⟨a'', cap'', e, hat⟩ := OL4.out.at
          have e6 := e
          rw [h64] at e6
          cases e6
          exact ⟨⟨some ⟨g, 0, none⟩, c, xss.set 0 zd, by rw [h64]; rfl, hat, by omega, M4.out⟩, S4.out, G4.out⟩
        · have h11 : ((x : Int) == 1) = false := by simp; omega
          have M4 := Lib.hid (show ∀ j, j < xss.length → (nthL xss j).length ≤ 64 from fun j hj => by
            have := (hm.out j hj).2
            omega)
          go_wp2
          go_ret
          obtain ⟨a'', cap'', e, hat⟩ := OL2.out.at
          have e6 := e
          rw [h6] at e6
          cases e6
          exact ⟨⟨some ⟨g, 0, none⟩, c, xss, by rw [h6]; rfl, hat, by omega, M4.out⟩, S2.out, G2.out⟩

set_option maxHeartbeats 2000000 in
theorem DrawSubstituteFormula_any (a : Option Addr) (len cap : Nat) (w : World) (hc : Code w.heap.size w a len) :
    Calls Try.prog 51 #[.slice a len cap] w fun e w' => (∃ v1 z1 a2 c2 z2, e = .returned (.tuple #[v1, .slice a2 z2.length c2]) ∧ OwnN w' w.heap.size v1 z1 ∧ z1.length ≤ 64 ∧ AtNN w' a2 z2.length z2 ∧ z2.length ≤ 6 ∧ ∀ j, j < z2.length → (nthL z2 j).length ≤ 64) ∧ Below w.heap.size w w' := by
  have HC0 := Lib.hid hc
  clear hc
  go_enter Try.func51, Try.ntmps51
  go_wp2_with fail
  refine (l01From_any a len cap w HC0.out).mono ?_
  rintro e w1 ⟨rfl, hs1, hb1⟩
  have HS := Lib.hid hs1
  have HC := Lib.hid (HC0.out.below hb1)
  have hB1 : w.heap.size ≤ w1.heap.size := hb1.size
  have hB2 : w.heap.size < w1.heap.size := hs1.lt
  have HB := Lib.hid hb1
  clear hs1 hb1 HC0
  go_wp2_with fail
  refine (l02Any_any 10 4 true w.heap.size a len cap w.heap.size _ (Nat.le_refl _) hB1 (by omega) (by omega) HS.out HC.out).mono ?_
  rintro e w2 ⟨⟨va, za, rfl, hoa, hqa⟩, hs, hg⟩
  have G3 := Lib.hid hg
  have S3 := Lib.hid hs
  have Oa := Lib.hid hoa
  clear hoa hg hs
  have hsz3 := G3.out.size
  go_wp2_with fail
  refine (l03Images_any 6 (by omega) w.heap.size a len cap w.heap.size _ (Nat.le_refl _) (Nat.le_trans hB1 hsz3) S3.out (HC.out.grown G3.out (Nat.le_refl _) hB1)).mono ?_
  rintro e w4 ⟨⟨a2, c2, z2, rfl, hat2, h26, hm2⟩, hs, hg⟩
  have G5 := Lib.hid (grown_trans G3.out hg)
  have Oa5 := Lib.hid (Oa.out.keepG hg hB2)
  have A2 := Lib.hid hat2
  have M2 := Lib.hid hm2
  obtain ⟨n, hn⟩ : ∃ n, n = z2.length := ⟨_, rfl⟩
  have hn2 := Lib.hid hn
  rw [← hn]
  clear hg hs hat2 hm2 Oa hn
  go_wp2
  go_ret2
  exact ⟨⟨va, za, a2, c2, z2, by rw [← hn2.out]; rfl, Oa5.out.mono hB1, hqa, A2.out, h26, M2.out⟩, (grown_below G5.out (Nat.le_refl _) HB.out hB1)⟩

end Go.Proofs.Ytbhgedabcclimaa
