/- 2 texts in one: Gen, Mk. -/
import Derived.Test.YtomldealpmohhaaIsFr
/- Contracts of the reach of a frame and of GeneratedWorlds, of the model and of the program. Conditions: those in the theorems. -/
namespace Go.Proofs.Ytomldealpmohhaa
open Go.RowKit

theorem bx1 {w w1 : World} {n : Int} {a : Option Addr} {len cap : Nat} (hb : Below (w.alloc (.cells #[.int .i64 n, .slice a len cap] 32)).heap.size (w.alloc (.cells #[.int .i64 n, .slice a len cap] 32)) w1) : Bx w1 w.heap.size n a len cap :=
  (Bx.new w n a len cap 32).keep hb

set_option maxHeartbeats 400000 in
theorem reach_any (n : Int) (xs : List Int) (a : Option Addr) (len cap : Nat) (w : World) (hl : len ≤ 30) (h : At w a len xs) :
    Calls Try.prog 71 #[.agg #[.int .i64 n, .slice a len cap]] w fun e w' => ∃ v, e = .returned v ∧ Own w' w.heap.size v (rcL xs) ∧ Below w.heap.size w w' := by
  have HB := Lib.hid (boxF (w := w) n a len cap)
  have H := Lib.hid (h.keep HB.out (Nat.le_refl _))
  obtain rfl := h.1
  clear h
  go_enter Try.func71, Try.ntmps71
  go_wp2_with fail
  refine (frRel_any _ _ _ _ _).mono ?_
  rintro e w1 ⟨rfl, hb1⟩
  have H1 := Lib.hid (H.out.keep hb1 (Nat.le_refl _))
  have B1 := Lib.hid (HB.out.trans (hb1.mono HB.out.size))
  clear hb1
  go_wp2_with fail
  refine (transitive_any xs _ _ _ _ hl H1.out).mono ?_
  rintro e w2 ⟨v2, rfl, ho, hb⟩
  obtain ⟨a2, c2, rfl, hat, -, -, -⟩ := ho.at
  have H2 := Lib.hid (show At w2 a2 (csL xs).length (csL xs) from hat)
  have B2 := Lib.hid (B1.out.trans (hb.mono B1.out.size))
  have L2 := Lib.hid (show (csL xs).length = xs.length from tab_len _ _)
  have hl2 : (tab xs.length (tcTo xs xs.length xs.length)).length ≤ 30 := by rw [tab_len]; exact hl
  clear ho hb hat
  go_wp2_with fail
  refine (reflexive_any (csL xs) _ _ _ _ hl2 H2.out).mono ?_
  rintro e w3 ⟨v3, rfl, ho, hb⟩
  have e3 : rfTo (csL xs) (tab xs.length (tcTo xs xs.length xs.length)).length = rcL xs := by rw [rcL, tab_len]
  rw [e3] at ho
  have O3 := Lib.hid (ho.mono B2.out.size)
  have B3 := Lib.hid (B2.out.trans (hb.mono B2.out.size))
  clear ho hb e3
  go_wp2
  go_ret
  exact ⟨_, rfl, O3.out, B3.out⟩

set_option maxHeartbeats 400000 in
theorem l05Reach_any (n m : Int) (xs : List Int) (a : Option Addr) (len cap : Nat) (w : World) (hl : len ≤ 8) (hr : Rel len (nth xs)) (hm : InMk len m) (h : At w a len xs) :
    Calls Try.prog 65 #[.agg #[.int .i64 n, .slice a len cap], .int .i64 m] w fun e w' => e = .returned (.int .i64 (rchV xs m)) ∧ Below w.heap.size w w' := by
  have HB := Lib.hid (boxF (w := w) n a len cap)
  have H := Lib.hid (h.keep HB.out (Nat.le_refl _))
  obtain rfl := h.1
  clear h
  have HR := Lib.hid hr
  have HM := Lib.hid hm
  clear hr hm
  go_enter Try.func65, Try.ntmps65
  go_wp2
  go_loop [1] (fun c => ∃ mk : Int, c = .int .i64 mk ∧ Hid (Rsr xs m mk)) (fun c => (256 - intOf c).toNat)
  case atStart => exact ⟨m, rfl, Lib.hid (Rsr.start (by omega) HR.out HM.out)⟩
  case round =>
    obtain ⟨mk, rfl, R⟩ := hrel
    by_cases h0 : bits .andNot .i64 (imgTo xs mk xs.length) mk = 0
    · have h1 : (bits .andNot .i64 (imgTo xs mk xs.length) mk != 0) = false := by simpa using h0
      have S := Lib.hid (R.out.stop (by omega) HR.out HM.out h0)
      clear h0
      go_wp2_with (go_at_call 102; refine (l01Image_any xs _ _ _ _ _ (by omega) H.out).mono ?_; rintro e w' ⟨rfl, rfl⟩)
      go_ret
      exact ⟨ret_int S.out, HB.out⟩
    · have h1 : (bits .andNot .i64 (imgTo xs mk xs.length) mk != 0) = true := by simpa using h0
      have S := Lib.hid (R.out.step (by omega) HR.out HM.out)
      have G := Lib.hid (or_gt (by omega) R.out.small (img_in (by omega) HR.out R.out.small) h0)
      have hlt := R.out.small.lt8 hl
      clear h0
      go_wp2_with (go_at_call 102; refine (l01Image_any xs _ _ _ _ _ (by omega) H.out).mono ?_; rintro e w' ⟨rfl, rfl⟩)
      go_round
      case rel => exact ⟨_, rfl, S⟩
      case measure => have g := G.out; simp [intOf]; omega

def gwV (n : Int) (xs : List Int) (m : Int) : Int := if cwV n xs m = 0 then rchV xs m else 0
theorem gw_ok {n m : Int} {xs : List Int} (h : cwV n xs m = 0) : Ending.returned (.tuple #[.int .i64 (rchV xs m), .int .i64 0]) = .returned (.tuple #[.int .i64 (gwV n xs m), .int .i64 (cwV n xs m)]) := by rw [gwV, if_pos h, h]
theorem gw_bad {n m c : Int} {xs : List Int} (h : ¬ cwV n xs m = 0) (hc : c = cwV n xs m) : Ending.returned (.tuple #[.int .i64 0, .int .i64 c]) = .returned (.tuple #[.int .i64 (gwV n xs m), .int .i64 (cwV n xs m)]) := by rw [gwV, if_neg h, hc]

end Go.Proofs.Ytomldealpmohhaa

/- Contracts of what makes a frame from a list: l05Make of the model, frameOf of the program; the copy by slices.Clone; what asks for two frames. Conditions: those in the theorems. -/
namespace Go.Proofs.Ytomldealpmohhaa
open Go.RowKit

/-- The cells of a result that is a frame, before it is stored. -/
def Bz (w : World) (b : Nat) : Prop := b < w.heap.size ∧ w.cell? ⟨b, 0, none⟩ = some (.int .i64 0) ∧ w.cell? ⟨b, 1, none⟩ = some (.slice none 0 0) ∧ w.frozen? ⟨b, 0, none⟩ = false ∧ w.frozen? ⟨b, 1, none⟩ = false
theorem Bz.below {w w' : World} {C b : Nat} (h : Bz w b) (hb : Below C w w') (hC : b < C) : Bz w' b :=
  ⟨Nat.lt_of_lt_of_le h.1 hb.size, (hb.cell (p := ⟨b, 0, none⟩) hC).trans h.2.1, (hb.cell (p := ⟨b, 1, none⟩) hC).trans h.2.2.1, (hb.frozen (p := ⟨b, 0, none⟩) hC).trans h.2.2.2.1, (hb.frozen (p := ⟨b, 1, none⟩) hC).trans h.2.2.2.2⟩
theorem Bz.keep {w w' : World} {b : Nat} (h : Bz w b) (hb : Below w.heap.size w w') : Bz w' b := h.below hb h.1
theorem Bz.new (w : World) : Bz (w.alloc (.cells #[.int .i64 0, .slice none 0 0] 32)) w.heap.size := ⟨by simp, World.cell?_alloc_at _ _ _ _ rfl, World.cell?_alloc_at _ _ _ _ rfl, by simp, by simp⟩
theorem OwnF.out2 {w : World} {B R o o' : Nat} {v z z' : Value} {n : Int} {xs : List Int} (h : OwnF w B v n xs) (hR : R < B) : OwnF ((w.setCell ⟨R, o, none⟩ z).setCell ⟨R, o', none⟩ z') B v n xs :=
  ⟨h.1, ((h.2.inn.setOut (.inl hR)).setOut (.inl hR)).1⟩

set_option maxHeartbeats 400000 in
theorem l05Make_any (xs : List Int) (a : Option Addr) (len cap : Nat) (w : World) (hl : len ≤ 1048576) (h : At w a len xs) (hn : a = none → cap = 0) :
    Calls Try.prog 98 #[.slice a len cap] w fun e w' => ∃ v, e = .returned v ∧ OwnF w' w.heap.size v xs.length xs ∧ Below w.heap.size w w' := by
  have HB := Lib.hid ((Below.refl w.heap.size w).alloc (Nat.le_refl _) (.cells #[.int .i64 0, .slice none 0 0] 32))
  have H := Lib.hid (h.keep HB.out (Nat.le_refl _))
  have HZ := Lib.hid (Bz.new w)
  obtain rfl := h.1
  have HN := Lib.hid hn
  clear h hn
  have hs : (w.alloc (.cells #[.int .i64 0, .slice none 0 0] 32)).heap.size = w.heap.size + 1 := by simp
  have HS := Lib.hid hs
  clear hs
  go_enter Try.func98, Try.ntmps98
  go_wp2_with fail
  refine (l01Own_any xs _ _ _ _ hl H.out HN.out).mono ?_
  rintro e w1 ⟨g, k1, rfl, hg, ho, hb⟩
  have B1 := Lib.hid (HB.out.trans (hb.mono HB.out.size))
  have Z1 := HZ.out.keep hb
  obtain ⟨lt1, c0, c1, f0, f1⟩ := Z1
  have O1 := Lib.hid (show OwnF w1 (w.heap.size + 1) (.agg #[.int .i64 xs.length, .slice (some ⟨g, 0, none⟩) xs.length k1]) xs.length xs from OwnF.mk (by rw [← HS.out]; exact ho))
  clear ho hb hg
  go_wp2
  exact bodyPost_ret (v := .agg #[.int .i64 xs.length, .slice (some ⟨g, 0, none⟩) xs.length k1]) (by simp [results, Try.results98, go_sem, c0, c1]) rfl ⟨_, rfl, (O1.out.out2 (by omega)).mono (by omega), (B1.out.setCell (by show _ ≤ _; simp) _).setCell (by show _ ≤ _; simp) _⟩

set_option maxHeartbeats 400000 in
theorem frameOf_any (a : Option Addr) (len cap : Nat) (w : World) (hl : len ≤ 1048576) :
    Calls Try.prog 126 #[.slice a len cap] w fun e w' => e = .returned (.agg #[.int .i64 len, .slice a len cap]) ∧ Below w.heap.size w w' := by
  have HB := Lib.hid ((Below.refl w.heap.size w).alloc (Nat.le_refl _) (.cells #[.int .i64 len, .slice a len cap] 32))
  go_enter Try.func126, Try.ntmps126
  go_wp2
  exact bodyPost_ret (v := .agg #[.int .i64 len, .slice a len cap]) (by simp [results, Try.results126, go_sem]) rfl ⟨rfl, HB.out⟩

/-! A result box that may be made early, in a region that draws its order -/
def Zo (w W : World) (b : Option Nat) : Prop := ∀ k, b = some k → Bz w k ∧ W.heap.size ≤ k
theorem Zo.no (w W : World) : Zo w W none := fun k h => by cases h
theorem Zo.keep {w w' W : World} {b : Option Nat} (h : Zo w W b) (hb : Below w.heap.size w w') : Zo w' W b := fun k e => ⟨(h k e).1.keep hb, (h k e).2⟩
theorem Zo.new {w w' W : World} (hW : W.heap.size ≤ w.heap.size) (hb : Below (w.alloc (.cells #[.int .i64 0, .slice none 0 0] 32)).heap.size (w.alloc (.cells #[.int .i64 0, .slice none 0 0] 32)) w') : Zo w' W (some w.heap.size) := fun k e => by
  cases e
  exact ⟨(Bz.new w).keep hb, hW⟩
theorem below_al {C : Nat} {w w' : World} {o : Obj} (hC : C ≤ w.heap.size) (h : Below (w.alloc o).heap.size (w.alloc o) w') : Below C w w' := ((Below.refl C w).alloc hC o).trans (h.mono (by simp; omega))
theorem two_set {w : World} {k b o : Nat} {u v v' : Value} (h : w.cell? ⟨b, o, none⟩ = some u) (hk : b ≠ k) : ((w.setCell ⟨k, 0, none⟩ v).setCell ⟨k, 1, none⟩ v').cell? ⟨b, o, none⟩ = some u := by
  rw [World.cell?_setCell_other _ _ _ _ (fun e => hk (by cases e; rfl)), World.cell?_setCell_other _ _ _ _ (fun e => hk (by cases e; rfl))]; exact h
/-- What the region leaves: the result in a box, and its list owned. -/
def Pr (W w : World) (b lo hi : Nat) (n : Int) (a : Option Addr) (len c : Nat) (xs : List Int) : Prop := Below W.heap.size W w ∧ Bx w b n a len c ∧ InF w lo hi (.agg #[.int .i64 n, .slice a len c]) n xs
theorem Pr.late {W wB wC : World} {n : Int} {a : Option Addr} {len c : Nat} {xs : List Int} (hW : W.heap.size ≤ wC.heap.size) (t : Below W.heap.size W wC) (ho : InF wC wB.heap.size wC.heap.size (.agg #[.int .i64 n, .slice a len c]) n xs) :
    Pr W (wC.alloc (.cells #[.int .i64 n, .slice a len c] 32)) wC.heap.size wB.heap.size wC.heap.size n a len c xs :=
  ⟨t.alloc hW _, Bx.new _ _ _ _ _ _, ho.below (alloc_keep _ _).1 (Nat.le_refl _)⟩
theorem cell_set (w : World) (b o : Nat) {u : Value} (v : Value) (h : w.cell? ⟨b, o, none⟩ = some u) : (w.setCell ⟨b, o, none⟩ v).cell? ⟨b, o, none⟩ = some v := World.cell?_setCell_same _ _ _ h
theorem cell_set' (w : World) (b o o' : Nat) (v : Value) (h : o ≠ o') : (w.setCell ⟨b, o, none⟩ v).cell? ⟨b, o', none⟩ = w.cell? ⟨b, o', none⟩ := World.cell?_setCell_other _ _ _ _ (fun e => h (by cases e; rfl))
theorem Pr.early {W wC : World} {n : Int} {a : Option Addr} {len c k lo : Nat} {xs : List Int} (hk : W.heap.size ≤ k) (hkl : k < lo) (t : Below W.heap.size W wC) (z : Bz wC k) (ho : InF wC lo wC.heap.size (.agg #[.int .i64 n, .slice a len c]) n xs) :
    Pr W ((wC.setCell ⟨k, 0, none⟩ (.int .i64 n)).setCell ⟨k, 1, none⟩ (.slice a len c)) k lo wC.heap.size n a len c xs := by
  obtain ⟨z1, z2, z3, -, -⟩ := z
  have e3 : (wC.setCell ⟨k, 0, none⟩ (.int .i64 n)).cell? ⟨k, 1, none⟩ = some (.slice none 0 0) := by rw [cell_set' _ _ _ _ _ (by decide)]; exact z3
  refine ⟨(t.setCell (by exact hk) _).setCell (by exact hk) _, ⟨by simpa [World.setCell] using z1, ?_, cell_set _ _ _ _ e3⟩, rfl, ?_, ho.2.2⟩
  · rw [cell_set' _ _ _ _ _ (by decide)]; exact cell_set _ _ _ _ z2
  · exact (ho.2.1.setOut (.inl hkl)).setOut (.inl hkl)

end Go.Proofs.Ytomldealpmohhaa
