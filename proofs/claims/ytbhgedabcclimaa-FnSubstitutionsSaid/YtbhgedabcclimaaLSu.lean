/- The walk of the law FnSubstitutions. Conditions: those in the theorems. -/
import Derived.Test.YtbhgedabcclimaaSuM
import Derived.Test.YtbhgedabcclimaaDsu
import Derived.Test.YtbhgedabcclimaaSame
import Derived.Test.YtbhgedabcclimaaMtV
namespace Go.Proofs.Ytbhgedabcclimaa
open Go.RowKit

/-- A list of nodes in memory, with room. -/
def NsA (w : World) (a : Option Addr) (cap : Nat) (xs : List Nd) : Prop := AtN w a xs.length xs ∧ xs.length ≤ cap ∧ cap ≤ maxLen
theorem NsA.keep {w w' : World} {C : Nat} {a : Option Addr} {cap : Nat} {xs : List Nd} (h : NsA w a cap xs) (hb : Below C w w') (hC : w.heap.size ≤ C) : NsA w' a cap xs := ⟨h.1.keep hb hC, h.2⟩
theorem OwnN.ns {w : World} {B : Nat} {v : Value} {xs : List Nd} (h : OwnN w B v xs) : ∃ a cap, v = .slice a xs.length cap ∧ NsA w a cap xs := by
  obtain ⟨a, cap, hv, hat, h1, h2⟩ := h.inn.at'
  exact ⟨a, cap, hv, hat, h1, h2⟩
theorem alloc_at {W : World} {a : Option Addr} {len : Nat} {xs : List Nd} (o : Obj) (h : AtN W a len xs) : AtN (W.alloc o) a len xs := h.keep ((Below.refl W.heap.size W).alloc (Nat.le_refl _) o) (Nat.le_refl _)
theorem size_al (W : World) (o : Obj) : (W.alloc o).heap.size = W.heap.size + 1 := Array.size_push _
theorem sec_at' (W : World) (g0 g1 g2 g3 g4 g5 : Nat) (h0 : AtN W (some ⟨g0, 0, none⟩) 1 [(0, 1)]) (h1 : AtN W (some ⟨g1, 0, none⟩) 1 [(0, 0)]) (h2 : AtN W (some ⟨g2, 0, none⟩) 1 [(1, 0)]) (h3 : AtN W (some ⟨g3, 0, none⟩) 1 [(0, 3)]) (h4 : AtN W (some ⟨g4, 0, none⟩) 1 [(0, 4)]) (h5 : AtN W (some ⟨g5, 0, none⟩) 1 [(0, 5)]) :
    AtNN (W.alloc (.cells #[.slice (some ⟨g0, 0, none⟩) 1 1, .slice (some ⟨g1, 0, none⟩) 1 1, .slice (some ⟨g2, 0, none⟩) 1 1, .slice (some ⟨g3, 0, none⟩) 1 1, .slice (some ⟨g4, 0, none⟩) 1 1, .slice (some ⟨g5, 0, none⟩) 1 1] 26)) (some ⟨W.heap.size, 0, none⟩) 6 sec := by
  refine ⟨rfl, .inr ⟨_, 0, rfl, by rw [size_al]; omega, fun j hj => ?_⟩⟩
  have hh : j = 0 ∨ j = 1 ∨ j = 2 ∨ j = 3 ∨ j = 4 ∨ j = 5 := by omega
  rcases hh with rfl | rfl | rfl | rfl | rfl | rfl
  · exact ⟨_, 1, by simp only [World.cell?, (MapKept.heap_alloc W _).1]; rfl, alloc_at _ h0⟩
  · exact ⟨_, 1, by simp only [World.cell?, (MapKept.heap_alloc W _).1]; rfl, alloc_at _ h1⟩
  · exact ⟨_, 1, by simp only [World.cell?, (MapKept.heap_alloc W _).1]; rfl, alloc_at _ h2⟩
  · exact ⟨_, 1, by simp only [World.cell?, (MapKept.heap_alloc W _).1]; rfl, alloc_at _ h3⟩
  · exact ⟨_, 1, by simp only [World.cell?, (MapKept.heap_alloc W _).1]; rfl, alloc_at _ h4⟩
  · exact ⟨_, 1, by simp only [World.cell?, (MapKept.heap_alloc W _).1]; rfl, alloc_at _ h5⟩
def nd (k s : Int) : Obj := .cells #[.int .i64 k, .int .i64 s] 61
/-- The world in which the law has written its second substitution. -/
def secW (w : World) : World :=
  (((((((w.alloc (.cells #[.int .i64 0, .int .i64 1] 61)).alloc (.cells #[.int .i64 0, .int .i64 0] 61)).alloc (.cells #[.int .i64 1, .int .i64 0] 61)).alloc (.cells #[.int .i64 0, .int .i64 3] 61)).alloc (.cells #[.int .i64 0, .int .i64 4] 61)).alloc (.cells #[.int .i64 0, .int .i64 5] 61)).alloc
    (.cells #[.slice (some ⟨w.heap.size, 0, none⟩) 1 1, .slice (some ⟨w.heap.size + 1, 0, none⟩) 1 1, .slice (some ⟨w.heap.size + 1 + 1, 0, none⟩) 1 1, .slice (some ⟨w.heap.size + 1 + 1 + 1, 0, none⟩) 1 1, .slice (some ⟨w.heap.size + 1 + 1 + 1 + 1, 0, none⟩) 1 1, .slice (some ⟨w.heap.size + 1 + 1 + 1 + 1 + 1, 0, none⟩) 1 1] 26))
theorem sec_at (w : World) : AtNN (secW w) (some ⟨w.heap.size + 1 + 1 + 1 + 1 + 1 + 1, 0, none⟩) 6 sec := by
  have h := sec_at' _ _ _ _ _ _ _
    (alloc_at (nd 0 5) (alloc_at (nd 0 4) (alloc_at (nd 0 3) (alloc_at (nd 1 0) (alloc_at (nd 0 0) (lit_at w 0 1))))))
    (alloc_at (nd 0 5) (alloc_at (nd 0 4) (alloc_at (nd 0 3) (alloc_at (nd 1 0) (lit_at (w.alloc (nd 0 1)) 0 0)))))
    (alloc_at (nd 0 5) (alloc_at (nd 0 4) (alloc_at (nd 0 3) (lit_at ((w.alloc (nd 0 1)).alloc (nd 0 0)) 1 0))))
    (alloc_at (nd 0 5) (alloc_at (nd 0 4) (lit_at (((w.alloc (nd 0 1)).alloc (nd 0 0)).alloc (nd 1 0)) 0 3)))
    (alloc_at (nd 0 5) (lit_at ((((w.alloc (nd 0 1)).alloc (nd 0 0)).alloc (nd 1 0)).alloc (nd 0 3)) 0 4))
    (lit_at (((((w.alloc (nd 0 1)).alloc (nd 0 0)).alloc (nd 1 0)).alloc (nd 0 3)).alloc (nd 0 4)) 0 5)
  simp only [size_al] at h
  exact h
theorem sec_below (w : World) : Below w.heap.size w (secW w) := by
  have h := ((((((((Below.refl w.heap.size w).alloc (Nat.le_refl _) (nd 0 1)).alloc (by simp only [size_al]; omega) (nd 0 0)).alloc (by simp only [size_al]; omega) (nd 1 0)).alloc (by simp only [size_al]; omega) (nd 0 3)).alloc (by simp only [size_al]; omega) (nd 0 4)).alloc (by simp only [size_al]; omega) (nd 0 5)))
  exact h.alloc (by simp only [size_al]; omega) _

set_option maxHeartbeats 8000000 in
set_option maxRecDepth 100000 in
theorem lawSubstitutions (a : Option Addr) (len cap : Nat) (zs : List Int) (w : World) (h : IsRow .u8 w a len cap zs) :
    Calls Try.prog 14 #[.slice a len cap] w fun e w' => e = .returned (.bool true) ∧ Below w.heap.size w w' := by
  by_cases hbig : 4096 < len
  · clear h
    go_enter Try.func14, Try.ntmps14
    go_wp2_with (go_at_call 50; refine (bigY _ _ _ _ hbig).mono ?_; rintro e w' ⟨rfl, rfl⟩)
    go_ret
    exact ⟨rfl, Below.refl _ _⟩
  have hl : len ≤ 4096 := by omega
  have HC := Lib.hid (Code.of_row h hl)
  clear h hbig
  go_enter Try.func14, Try.ntmps14
  go_wp2_with fail
  refine (bigN _ _ _ _ hl).mono ?_
  rintro e w' ⟨rfl, rfl⟩
  go_wp2_with fail
  refine (DrawSubstituteFormula_any a len cap w HC.out).mono ?_
  rintro e w1 ⟨⟨v1, z, a2, c2, im, rfl, ho1, hz64, hat2, hi6, hi64⟩, hb1⟩
  obtain ⟨a1, c1, rfl, hns⟩ := ho1.ns
  have B1 := Lib.hid hb1
  have N1 := Lib.hid hns
  have L1 := Lib.hid hat2
  have hzl : z.length ≤ 1048576 := by omega
  have HIL := Lib.hid (show im.length ≤ 1048576 ∧ szTo im im.length ≤ 1048576 from ⟨by omega, by
    have := szTo_le' (n := im.length) (m := 64) hi64 im.length (Nat.le_refl _)
    have : im.length * 64 ≤ 6 * 64 := Nat.mul_le_mul_right _ hi6
    omega⟩)
  have F := Lib.hid (su_all (xs := z) (im := im))
  have LB := Lib.hid (SubstituteFormula_len z im)
  obtain ⟨n2, hn2⟩ : ∃ n, n = im.length := ⟨_, rfl⟩
  have N2 := Lib.hid hn2
  rw [← hn2] at L1
  have IS := Lib.hid (fun W (h1 : NsA W a1 c1 z) (h2 : AtNN W a2 n2 im) => by
    have := implSubstituteFormula_g z im a1 c1 a2 c2 W hzl HIL.out h1.1 (N2.out ▸ h2)
    rw [← N2.out] at this
    exact this)
  have SS := Lib.hid (fun W (h1 : NsA W a1 c1 z) (h2 : AtNN W a2 n2 im) => by
    have := specSubstituteFormula_g z im a1 c1 a2 c2 W hzl HIL.out h1.1 (N2.out ▸ h2)
    rw [← N2.out] at this
    exact this)
  obtain ⟨b, hbe⟩ : ∃ b, b = suR z im := ⟨_, rfl⟩
  obtain ⟨c, hce⟩ : ∃ c, c = suC z im := ⟨_, rfl⟩
  rw [← hbe] at IS SS F LB
  rw [← hce] at IS SS F
  have HCE := Lib.hid hce
  clear hns hat2 hb1 ho1 hz64 hi64 hbe hce
  rw [← hn2]
  clear hn2
  go_wp2_with fail
  refine (IS.out w1 N1.out L1.out).mono ?_
  rintro e w2 ⟨v2, rfl, ho, hb⟩
  obtain ⟨a3, c3, rfl, hns⟩ := ho.ns
  have B2 := Lib.hid (B1.out.trans (hb.mono B1.out.size))
  have N2z := Lib.hid (N1.out.keep hb (Nat.le_refl _))
  have L2 := Lib.hid (L1.out.keep hb (Nat.le_refl _))
  have M2 := Lib.hid hns
  clear ho hb hns N1 L1 IS
  go_wp2_with fail
  refine (SS.out w2 N2z.out L2.out).mono ?_
  rintro e w3 ⟨v3, rfl, ho, hb⟩
  obtain ⟨a4, c4, rfl, hns⟩ := ho.ns
  have B3 := Lib.hid (B2.out.trans (hb.mono B2.out.size))
  have N3 := Lib.hid (N2z.out.keep hb (Nat.le_refl _))
  have L3 := Lib.hid (L2.out.keep hb (Nat.le_refl _))
  have M3 := Lib.hid (M2.out.keep hb (Nat.le_refl _))
  have R3 := Lib.hid hns
  clear ho hb hns N2z L2 M2 SS
  go_wp2_with fail
  refine (sameNodes9_any b b a3 a4 _ _ c3 c4 w3 LB.out LB.out M3.out.1 R3.out.1).mono ?_
  rw [decide_eq_true rfl]
  rintro e w4 ⟨rfl, hb⟩
  have B4 := Lib.hid (B3.out.trans (hb.mono B3.out.size))
  have N4 := Lib.hid (N3.out.keep hb (Nat.le_refl _))
  have L4 := Lib.hid (L3.out.keep hb (Nat.le_refl _))
  have M4 := Lib.hid (M3.out.keep hb (Nat.le_refl _))
  clear hb N3 L3 M3 R3
  by_cases hc : c = 0
  · subst hc
    obtain ⟨f1, f2, f3, f4, f5, f6, f7, f8⟩ := F.out rfl
    have MT := Lib.hid (fun W (h1 : NsA W a1 c1 z) (h2 : NsA W a3 c3 b) => by
      have := implMatchFormula_g z b a1 c1 a3 c3 W hzl LB.out h1.1 h2.1 h2.2.1 h2.2.2
      rw [f1] at this
      exact this)
    have ML := Lib.hid (MatchFormula_len z b)
    obtain ⟨fd, hfd⟩ : ∃ fd, fd = mtR z b := ⟨_, rfl⟩
    rw [← hfd] at MT ML f2 f3 f4
    have S2 := Lib.hid (fun a5 c5 W (h1 : NsA W a1 c1 z) (h2 : AtNN W a5 6 fd) => by
      have := implSubstituteFormula_g z fd a1 c1 a5 c5 W hzl ML.out h1.1 (f2 ▸ h2)
      rw [f2, f3, f4] at this
      exact this)
    have CL := Lib.hid (ComposeSubstitutions_len im sec)
    have CS := Lib.hid (fun a6 c6 W (h1 : AtNN W a2 n2 im) (h2 : AtNN W a6 6 sec) => by
      have := implComposeSubstitutions_g im sec a2 c2 a6 c6 W HIL.out (by decide) (N2.out ▸ h1) h2
      rw [← N2.out, f5] at this
      exact this)
    have S3 := Lib.hid (fun a6 c6 W (h1 : NsA W a3 c3 b) (h2 : AtNN W a6 6 sec) => by
      have := implSubstituteFormula_g b sec a3 c3 a6 c6 W LB.out (by decide) h1.1 h2
      rw [f6] at this
      exact this)
    obtain ⟨bo, hbo⟩ : ∃ bo, bo = cmR im sec := ⟨_, rfl⟩
    rw [← hbo] at CL CS f7 f8
    have LT := Lib.hid (SubstituteFormula_len b sec)
    have S4 := Lib.hid (fun a7 c7 W (h1 : NsA W a1 c1 z) (h2 : AtNN W a7 bo.length bo) => by
      have := implSubstituteFormula_g z bo a1 c1 a7 c7 W hzl CL.out h1.1 h2
      rw [f7, f8] at this
      exact this)
    obtain ⟨lf, hlf⟩ : ∃ lf, lf = suR b sec := ⟨_, rfl⟩
    rw [← hlf] at S3 S4 LT
    have F2 := Lib.hid f2
    clear f1 f2 f3 f4 f5 f6 f7 f8 hfd hbo hlf F
    go_wp2_with fail
    refine (MT.out w4 N4.out M4.out).mono ?_
    rintro e w5 ⟨v5, rfl, ho, hb⟩
    obtain ⟨a5, c5, rfl, hat5⟩ := ho.at
    rw [F2.out] at hat5 ⊢
    have B5 := Lib.hid (B4.out.trans (hb.mono B4.out.size))
    have N5 := Lib.hid (N4.out.keep hb (Nat.le_refl _))
    have L5 := Lib.hid (L4.out.keep hb (Nat.le_refl _))
    have M5 := Lib.hid (M4.out.keep hb (Nat.le_refl _))
    have K5 := Lib.hid hat5
    clear ho hb hat5 N4 L4 M4 MT
    go_wp2_with fail
    refine (S2.out a5 c5 w5 N5.out K5.out).mono ?_
    rintro e w6 ⟨v6, rfl, ho, hb⟩
    obtain ⟨a6, c6, rfl, hns⟩ := ho.ns
    have B6 := Lib.hid (B5.out.trans (hb.mono B5.out.size))
    have N6 := Lib.hid (N5.out.keep hb (Nat.le_refl _))
    have L6 := Lib.hid (L5.out.keep hb (Nat.le_refl _))
    have M6 := Lib.hid (M5.out.keep hb (Nat.le_refl _))
    have P6 := Lib.hid hns
    clear ho hb hns N5 L5 M5 K5 S2
    go_wp2_with fail
    show Calls _ _ _ (secW w6) _
    have hat := sec_at w6
    have hbl := sec_below w6
    generalize secW w6 = w7 at hat hbl ⊢
    generalize w6.heap.size + 1 + 1 + 1 + 1 + 1 + 1 = g at hat ⊢
    have B7 := Lib.hid (B6.out.trans (hbl.mono B6.out.size))
    have N7 := Lib.hid (N6.out.keep hbl (Nat.le_refl _))
    have L7 := Lib.hid (L6.out.keep hbl (Nat.le_refl _))
    have M7 := Lib.hid (M6.out.keep hbl (Nat.le_refl _))
    have P7 := Lib.hid (P6.out.keep hbl (Nat.le_refl _))
    have Q7 := Lib.hid hat
    clear hat hbl N6 L6 M6 P6
    refine (CS.out _ _ w7 L7.out Q7.out).mono ?_
    rintro e w8 ⟨v8, rfl, ho, hb⟩
    obtain ⟨a8, c8, rfl, hat8⟩ := ho.at
    have B8 := Lib.hid (B7.out.trans (hb.mono B7.out.size))
    have N8 := Lib.hid (N7.out.keep hb (Nat.le_refl _))
    have M8 := Lib.hid (M7.out.keep hb (Nat.le_refl _))
    have P8 := Lib.hid (P7.out.keep hb (Nat.le_refl _))
    have Q8 := Lib.hid (Q7.out.keep hb (Nat.le_refl _))
    have K8 := Lib.hid hat8
    clear ho hb hat8 N7 L7 M7 P7 Q7 CS
    go_wp2_with fail
    refine (S3.out _ _ w8 M8.out Q8.out).mono ?_
    rintro e w9 ⟨v9, rfl, ho, hb⟩
    obtain ⟨a9, c9, rfl, hns⟩ := ho.ns
    have B9 := Lib.hid (B8.out.trans (hb.mono B8.out.size))
    have N9 := Lib.hid (N8.out.keep hb (Nat.le_refl _))
    have M9 := Lib.hid (M8.out.keep hb (Nat.le_refl _))
    have P9 := Lib.hid (P8.out.keep hb (Nat.le_refl _))
    have K9 := Lib.hid (K8.out.keep hb (Nat.le_refl _))
    have R9 := Lib.hid hns
    clear ho hb hns N8 M8 P8 Q8 K8 S3
    go_wp2_with fail
    refine (sameNodes9_any b b a6 a3 _ _ c6 c3 w9 LB.out LB.out P9.out.1 M9.out.1).mono ?_
    rw [decide_eq_true rfl]
    rintro e w10 ⟨rfl, hb⟩
    have B10 := Lib.hid (B9.out.trans (hb.mono B9.out.size))
    have N10 := Lib.hid (N9.out.keep hb (Nat.le_refl _))
    have K10 := Lib.hid (K9.out.keep hb (Nat.le_refl _))
    have R10 := Lib.hid (R9.out.keep hb (Nat.le_refl _))
    clear hb N9 M9 P9 K9 R9
    go_wp2_with fail
    refine (S4.out _ _ w10 N10.out K10.out).mono ?_
    rintro e w11 ⟨v11, rfl, ho, hb⟩
    obtain ⟨a11, c11, rfl, hns⟩ := ho.ns
    have B11 := Lib.hid (B10.out.trans (hb.mono B10.out.size))
    have R11 := Lib.hid (R10.out.keep hb (Nat.le_refl _))
    have U11 := Lib.hid hns
    clear ho hb hns N10 K10 R10 S4
    go_wp2_with fail
    refine (sameNodes9_any lf lf a11 a9 _ _ c11 c9 w11 LT.out LT.out U11.out.1 R11.out.1).mono ?_
    rw [decide_eq_true rfl]
    rintro e w12 ⟨rfl, hb⟩
    have B12 := Lib.hid (B11.out.trans (hb.mono B11.out.size))
    clear hb R11 U11
    go_wp2
    go_ret
    exact ⟨rfl, B12.out⟩
  · have h01 : ((c : Int) == 0) = false := by simpa using hc
    go_wp2
    go_ret
    exact ⟨rfl, B4.out⟩

end Go.Proofs.Ytbhgedabcclimaa
