/- 5 texts in one: IsFr, Gen, Mk, Prt, Aw. -/
import Derived.Test.YtomldealpmohhaaFr
import Derived.Test.YtomldealpmohhaaJn07
import Derived.Test.YtomldealpmohhaaJn05
/- Contracts of what asks whether a frame is one, of the errors of a frame and a set of its worlds, and the walk of IsFrame's law. Conditions: those in the theorems. -/
namespace Go.Proofs.Ytomldealpmohhaa
open Go.RowKit

def frB (n : Int) (xs : List Int) : Bool := inB n 0 8 && decide ((xs.length : Int) = n) && mksTo n xs xs.length
theorem frB_no1 {n : Int} {xs : List Int} (h : inB n 0 8 = false) : frB n xs = false := by rw [frB, h]; rfl
theorem frB_no2 {n : Int} {xs : List Int} (h : ¬ (xs.length : Int) = n) : frB n xs = false := by rw [frB, decide_eq_false h, Bool.and_false]; rfl
theorem frB_eq {n : Int} {xs : List Int} {b : Bool} (h1 : inB n 0 8 = true) (h2 : (xs.length : Int) = n) (h3 : mksTo n xs xs.length = b) : frB n xs = b := by rw [frB, h1, decide_eq_true h2, h3]; rfl
theorem frB_ok {n : Int} {xs : List Int} (h : frB n xs = true) : n = xs.length ∧ xs.length ≤ 8 ∧ mksTo xs.length xs xs.length = true ∧ Rel xs.length (nth xs) := by
  unfold frB at h
  rw [Bool.and_eq_true, Bool.and_eq_true, decide_eq_true_eq] at h
  obtain ⟨⟨h1, h2⟩, h3⟩ := h
  have hb : 0 ≤ n ∧ n ≤ 8 := by simpa [inB] using h1
  subst h2
  have hl : xs.length ≤ 8 := by omega
  refine ⟨rfl, hl, h3, fun i => ?_⟩
  by_cases hi : i < xs.length
  · exact (mksTo_iff (by omega) xs xs.length).1 h3 i hi
  · rw [nth_high (by omega)]; exact InMk.zero _

theorem boxF {w : World} (n : Int) (a : Option Addr) (len cap : Nat) : Below w.heap.size w (w.alloc (.cells #[.int .i64 n, .slice a len cap] 32)) := (Below.refl _ _).alloc (Nat.le_refl _) _

set_option maxHeartbeats 400000 in
theorem l05Is_any (n : Int) (xs : List Int) (a : Option Addr) (len cap : Nat) (w : World) (hl : len ≤ 1048576) (h : At w a len xs) :
    Calls Try.prog 89 #[.agg #[.int .i64 n, .slice a len cap]] w fun e w' => e = .returned (.bool (frB n xs)) ∧ Below w.heap.size w w' := by
  have HB := Lib.hid (boxF (w := w) n a len cap)
  have H := Lib.hid (h.keep HB.out (Nat.le_refl _))
  obtain rfl := h.1
  clear h
  cases h1 : inB n 0 8
  · have F := Lib.hid (frB_no1 (xs := xs) h1)
    go_enter Try.func89, Try.ntmps89
    go_wp2_with (go_at_call 96; refine (l01In_any _ _ _ _).mono ?_; rintro e w' ⟨rfl, rfl⟩)
    go_ret
    exact ⟨ret_bool F.out.symm, HB.out⟩
  · by_cases h2 : (xs.length : Int) = n
    · have hb : 0 ≤ n ∧ n ≤ 8 := by simpa [inB] using h1
      cases h3 : mksTo n xs xs.length
      all_goals
        have F := Lib.hid (frB_eq h1 h2 h3)
        have F1 := Lib.hid h3
        subst h2
        clear h3
        go_enter Try.func89, Try.ntmps89
        go_wp2_with (first | (go_at_call 96; refine (l01In_any _ _ _ _).mono ?_; rintro e w' ⟨rfl, rfl⟩) | (go_at_call 80; refine (l01Masks_any _ xs _ _ _ _ (by omega) (by omega) hl H.out).mono ?_; rw [F1.out]; rintro e w' ⟨rfl, q, rfl⟩))
        go_ret
        exact ⟨ret_bool F.out.symm, below_drewN HB.out q⟩
    · have F := Lib.hid (frB_no2 h2)
      have h4 : ((xs.length : Int) == n) = false := by simpa using h2
      have h5 : ((xs.length : Int) != n) = true := by simpa using h2
      clear h2
      go_enter Try.func89, Try.ntmps89
      go_wp2_with (go_at_call 96; refine (l01In_any _ _ _ _).mono ?_; rintro e w' ⟨rfl, rfl⟩)
      go_ret
      exact ⟨ret_bool F.out.symm, HB.out⟩

set_option maxHeartbeats 400000 in
theorem frRel_any (n : Int) (a : Option Addr) (len cap : Nat) (w : World) :
    Calls Try.prog 105 #[.agg #[.int .i64 n, .slice a len cap]] w fun e w' => e = .returned (.slice a len cap) ∧ Below w.heap.size w w' := by
  have HB := Lib.hid (boxF (w := w) n a len cap)
  go_enter Try.func105, Try.ntmps105
  go_wp2
  go_ret
  exact ⟨rfl, HB.out⟩

theorem chk_of {xs : List Int} {b : Bool} (h : xs.length ≤ 8) (h3 : mksTo xs.length xs xs.length = b) : chkI xs xs.length = if b then 0 else 1 := by
  cases b
  · exact chkI_bad (by omega) h3
  · exact chkI_ok (by omega) h3

set_option maxHeartbeats 400000 in
theorem implIsFrame_any (n : Int) (xs : List Int) (a : Option Addr) (len cap : Nat) (w : World) (hl : len ≤ 1048576) (h : At w a len xs) :
    Calls Try.prog 104 #[.agg #[.int .i64 n, .slice a len cap]] w fun e w' => e = .returned (.bool (frB n xs)) ∧ Below w.heap.size w w' := by
  have HB := Lib.hid (boxF (w := w) n a len cap)
  have H := Lib.hid (h.keep HB.out (Nat.le_refl _))
  obtain rfl := h.1
  clear h
  by_cases h1 : 0 ≤ n ∧ n ≤ 8
  · have h1' : inB n 0 8 = true := by simpa [inB] using h1
    obtain ⟨h1a, h1b⟩ := h1
    by_cases h2 : (xs.length : Int) = n
    · cases h3 : mksTo n xs xs.length
      all_goals
        have F := Lib.hid (frB_eq h1' h2 h3)
        subst h2
        have F1 := Lib.hid (chk_of (by omega) h3)
        clear h3 h1'
        go_enter Try.func104, Try.ntmps104
        go_wp2_with fail
        refine (frRel_any _ _ _ _ _).mono ?_
        rintro e w1 ⟨rfl, hb1⟩
        have H1 := Lib.hid (H.out.keep hb1 (Nat.le_refl _))
        have B1 := Lib.hid (HB.out.trans (hb1.mono HB.out.size))
        clear hb1
        go_wp2_with (go_at_call 128; refine (check_any xs _ _ _ _ hl H1.out).mono ?_; rw [F1.out]; rintro e w' ⟨rfl, rfl⟩)
        go_ret
        exact ⟨ret_bool F.out.symm, B1.out⟩
    · have F := Lib.hid (frB_no2 h2)
      have h4 : (n == (xs.length : Int)) = false := by simp; omega
      have h5 : (n != (xs.length : Int)) = true := by simp; omega
      clear h2
      go_enter Try.func104, Try.ntmps104
      go_wp2
      go_ret
      exact ⟨ret_bool F.out.symm, HB.out⟩
  · have F := Lib.hid (frB_no1 (n := n) (xs := xs) (by simp [inB]; omega))
    by_cases h0 : 0 ≤ n
    all_goals
      go_enter Try.func104, Try.ntmps104
      go_wp2
      go_ret
      exact ⟨ret_bool F.out.symm, HB.out⟩

/-! A frame and a set of its worlds -/
def cwV (n : Int) (xs : List Int) (m : Int) : Int := if frB n xs then (if mskB n m then 0 else 2) else 1
theorem cw_no {n m : Int} {xs : List Int} (h : frB n xs = false) : cwV n xs m = 1 := by rw [cwV, h]; rfl
theorem cw_of {n m : Int} {xs : List Int} {b : Bool} (h : frB n xs = true) (h2 : mskB n m = b) : cwV n xs m = if b then 0 else 2 := by rw [cwV, h, h2]; rfl
theorem cw_ok {n m : Int} {xs : List Int} (h : cwV n xs m = 0) : n = xs.length ∧ xs.length ≤ 8 ∧ Rel xs.length (nth xs) ∧ InMk xs.length m ∧ mskB xs.length m = true := by
  unfold cwV at h
  cases h1 : frB n xs
  · rw [h1] at h; cases h
  · rw [h1] at h
    obtain ⟨rfl, h2, -, h3⟩ := frB_ok h1
    cases h4 : mskB xs.length m
    · rw [h4] at h; cases h
    · exact ⟨rfl, h2, h3, (mskB_InN (by omega) m).1 h4, rfl⟩

theorem l05Set_any (n m : Int) (a : Option Addr) (len cap : Nat) (w : World) (hn : 0 ≤ n) (hn2 : n ≤ 30) :
    Calls Try.prog 57 #[.agg #[.int .i64 n, .slice a len cap], .int .i64 m] w fun e w' => e = .returned (.bool (mskB n m)) ∧ Below w.heap.size w w' := by
  have HB := Lib.hid (boxF (w := w) n a len cap)
  go_enter Try.func57, Try.ntmps57
  go_wp2_with (first | (go_at_call 55; refine (l01Full_any _ _ hn hn2).mono ?_; rintro e w' ⟨rfl, rfl⟩) | (go_at_call 96; refine (l01In_any _ _ _ _).mono ?_; rintro e w' ⟨rfl, rfl⟩))
  go_ret
  exact ⟨rfl, HB.out⟩

end Go.Proofs.Ytomldealpmohhaa

/- Contracts of the reach of a frame and of GeneratedWorlds, of the model and of the program. Conditions: those in the theorems. -/
namespace Go.Proofs.Ytomldealpmohhaa
open Go.RowKit

theorem bx1 {w w1 : World} {n : Int} {a : Option Addr} {len cap : Nat} (hb : Below (w.alloc (.cells #[.int .i64 n, .slice a len cap] 32)).heap.size (w.alloc (.cells #[.int .i64 n, .slice a len cap] 32)) w1) : Bx w1 w.heap.size n a len cap :=
  (Bx.new w n a len cap 32).keep hb

set_option maxHeartbeats 400000 in
theorem reach_any (n : Int) (xs : List Int) (a : Option Addr) (len cap : Nat) (w : World) (hl : len ≤ 30) (h : At w a len xs) :
    Calls Try.prog 71 #[.agg #[.int .i64 n, .slice a len cap]] w fun e w' => ∃ v, e = .returned v ∧ Own w' w.heap.size v (rcL xs) ∧ Below w.heap.size w w' := by
  have HB := Lib.hid (boxF (w := w) n a len cap)
  have H := Lib.hid (h.keep HB.out (Nat.le_refl _))
  obtain rfl := h.1
  clear h
  go_enter Try.func71, Try.ntmps71
  go_wp2_with fail
  refine (frRel_any _ _ _ _ _).mono ?_
  rintro e w1 ⟨rfl, hb1⟩
  have H1 := Lib.hid (H.out.keep hb1 (Nat.le_refl _))
  have B1 := Lib.hid (HB.out.trans (hb1.mono HB.out.size))
  clear hb1
  go_wp2_with fail
  refine (transitive_any xs _ _ _ _ hl H1.out).mono ?_
  rintro e w2 ⟨v2, rfl, ho, hb⟩
  obtain ⟨a2, c2, rfl, hat, -, -, -⟩ := ho.at
  have H2 := Lib.hid (show At w2 a2 (csL xs).length (csL xs) from hat)
  have B2 := Lib.hid (B1.out.trans (hb.mono B1.out.size))
  have L2 := Lib.hid (show (csL xs).length = xs.length from tab_len _ _)
  have hl2 : (tab xs.length (tcTo xs xs.length xs.length)).length ≤ 30 := by rw [tab_len]; exact hl
  clear ho hb hat
  go_wp2_with fail
  refine (reflexive_any (csL xs) _ _ _ _ hl2 H2.out).mono ?_
  rintro e w3 ⟨v3, rfl, ho, hb⟩
  have e3 : rfTo (csL xs) (tab xs.length (tcTo xs xs.length xs.length)).length = rcL xs := by rw [rcL, tab_len]
  rw [e3] at ho
  have O3 := Lib.hid (ho.mono B2.out.size)
  have B3 := Lib.hid (B2.out.trans (hb.mono B2.out.size))
  clear ho hb e3
  go_wp2
  go_ret
  exact ⟨_, rfl, O3.out, B3.out⟩

set_option maxHeartbeats 400000 in
theorem l05Reach_any (n m : Int) (xs : List Int) (a : Option Addr) (len cap : Nat) (w : World) (hl : len ≤ 8) (hr : Rel len (nth xs)) (hm : InMk len m) (h : At w a len xs) :
    Calls Try.prog 65 #[.agg #[.int .i64 n, .slice a len cap], .int .i64 m] w fun e w' => e = .returned (.int .i64 (rchV xs m)) ∧ Below w.heap.size w w' := by
  have HB := Lib.hid (boxF (w := w) n a len cap)
  have H := Lib.hid (h.keep HB.out (Nat.le_refl _))
  obtain rfl := h.1
  clear h
  have HR := Lib.hid hr
  have HM := Lib.hid hm
  clear hr hm
  go_enter Try.func65, Try.ntmps65
  go_wp2
  go_loop [1] (fun c => ∃ mk : Int, c = .int .i64 mk ∧ Hid (Rsr xs m mk)) (fun c => (256 - intOf c).toNat)
  case atStart => exact ⟨m, rfl, Lib.hid (Rsr.start (by omega) HR.out HM.out)⟩
  case round =>
    obtain ⟨mk, rfl, R⟩ := hrel
    by_cases h0 : bits .andNot .i64 (imgTo xs mk xs.length) mk = 0
    · have h1 : (bits .andNot .i64 (imgTo xs mk xs.length) mk != 0) = false := by simpa using h0
      have S := Lib.hid (R.out.stop (by omega) HR.out HM.out h0)
      clear h0
      go_wp2_with (go_at_call 102; refine (l01Image_any xs _ _ _ _ _ (by omega) H.out).mono ?_; rintro e w' ⟨rfl, rfl⟩)
      go_ret
      exact ⟨ret_int S.out, HB.out⟩
    · have h1 : (bits .andNot .i64 (imgTo xs mk xs.length) mk != 0) = true := by simpa using h0
      have S := Lib.hid (R.out.step (by omega) HR.out HM.out)
      have G := Lib.hid (or_gt (by omega) R.out.small (img_in (by omega) HR.out R.out.small) h0)
      have hlt := R.out.small.lt8 hl
      clear h0
      go_wp2_with (go_at_call 102; refine (l01Image_any xs _ _ _ _ _ (by omega) H.out).mono ?_; rintro e w' ⟨rfl, rfl⟩)
      go_round
      case rel => exact ⟨_, rfl, S⟩
      case measure => have g := G.out; simp [intOf]; omega

def gwV (n : Int) (xs : List Int) (m : Int) : Int := if cwV n xs m = 0 then rchV xs m else 0
theorem gw_ok {n m : Int} {xs : List Int} (h : cwV n xs m = 0) : Ending.returned (.tuple #[.int .i64 (rchV xs m), .int .i64 0]) = .returned (.tuple #[.int .i64 (gwV n xs m), .int .i64 (cwV n xs m)]) := by rw [gwV, if_pos h, h]
theorem gw_bad {n m c : Int} {xs : List Int} (h : ¬ cwV n xs m = 0) (hc : c = cwV n xs m) : Ending.returned (.tuple #[.int .i64 0, .int .i64 c]) = .returned (.tuple #[.int .i64 (gwV n xs m), .int .i64 (cwV n xs m)]) := by rw [gwV, if_neg h, hc]

end Go.Proofs.Ytomldealpmohhaa

/- Contracts of what makes a frame from a list: l05Make of the model, frameOf of the program; the copy by slices.Clone; what asks for two frames. Conditions: those in the theorems. -/
namespace Go.Proofs.Ytomldealpmohhaa
open Go.RowKit

/-- The cells of a result that is a frame, before it is stored. -/
def Bz (w : World) (b : Nat) : Prop := b < w.heap.size ∧ w.cell? ⟨b, 0, none⟩ = some (.int .i64 0) ∧ w.cell? ⟨b, 1, none⟩ = some (.slice none 0 0) ∧ w.frozen? ⟨b, 0, none⟩ = false ∧ w.frozen? ⟨b, 1, none⟩ = false
theorem Bz.below {w w' : World} {C b : Nat} (h : Bz w b) (hb : Below C w w') (hC : b < C) : Bz w' b :=
  ⟨Nat.lt_of_lt_of_le h.1 hb.size, (hb.cell (p := ⟨b, 0, none⟩) hC).trans h.2.1, (hb.cell (p := ⟨b, 1, none⟩) hC).trans h.2.2.1, (hb.frozen (p := ⟨b, 0, none⟩) hC).trans h.2.2.2.1, (hb.frozen (p := ⟨b, 1, none⟩) hC).trans h.2.2.2.2⟩
theorem Bz.keep {w w' : World} {b : Nat} (h : Bz w b) (hb : Below w.heap.size w w') : Bz w' b := h.below hb h.1
theorem Bz.new (w : World) : Bz (w.alloc (.cells #[.int .i64 0, .slice none 0 0] 32)) w.heap.size := ⟨by simp, World.cell?_alloc_at _ _ _ _ rfl, World.cell?_alloc_at _ _ _ _ rfl, by simp, by simp⟩
theorem OwnF.out2 {w : World} {B R o o' : Nat} {v z z' : Value} {n : Int} {xs : List Int} (h : OwnF w B v n xs) (hR : R < B) : OwnF ((w.setCell ⟨R, o, none⟩ z).setCell ⟨R, o', none⟩ z') B v n xs :=
  ⟨h.1, ((h.2.inn.setOut (.inl hR)).setOut (.inl hR)).1⟩

set_option maxHeartbeats 400000 in
theorem l05Make_any (xs : List Int) (a : Option Addr) (len cap : Nat) (w : World) (hl : len ≤ 1048576) (h : At w a len xs) (hn : a = none → cap = 0) :
    Calls Try.prog 98 #[.slice a len cap] w fun e w' => ∃ v, e = .returned v ∧ OwnF w' w.heap.size v xs.length xs ∧ Below w.heap.size w w' := by
  have HB := Lib.hid ((Below.refl w.heap.size w).alloc (Nat.le_refl _) (.cells #[.int .i64 0, .slice none 0 0] 32))
  have H := Lib.hid (h.keep HB.out (Nat.le_refl _))
  have HZ := Lib.hid (Bz.new w)
  obtain rfl := h.1
  have HN := Lib.hid hn
  clear h hn
  have hs : (w.alloc (.cells #[.int .i64 0, .slice none 0 0] 32)).heap.size = w.heap.size + 1 := by simp
  have HS := Lib.hid hs
  clear hs
  go_enter Try.func98, Try.ntmps98
  go_wp2_with fail
  refine (l01Own_any xs _ _ _ _ hl H.out HN.out).mono ?_
  rintro e w1 ⟨g, k1, rfl, hg, ho, hb⟩
  have B1 := Lib.hid (HB.out.trans (hb.mono HB.out.size))
  have Z1 := HZ.out.keep hb
  obtain ⟨lt1, c0, c1, f0, f1⟩ := Z1
  have O1 := Lib.hid (show OwnF w1 (w.heap.size + 1) (.agg #[.int .i64 xs.length, .slice (some ⟨g, 0, none⟩) xs.length k1]) xs.length xs from OwnF.mk (by rw [← HS.out]; exact ho))
  clear ho hb hg
  go_wp2
  exact bodyPost_ret (v := .agg #[.int .i64 xs.length, .slice (some ⟨g, 0, none⟩) xs.length k1]) (by simp [results, Try.results98, go_sem, c0, c1]) rfl ⟨_, rfl, (O1.out.out2 (by omega)).mono (by omega), (B1.out.setCell (by show _ ≤ _; simp) _).setCell (by show _ ≤ _; simp) _⟩

set_option maxHeartbeats 400000 in
theorem frameOf_any (a : Option Addr) (len cap : Nat) (w : World) (hl : len ≤ 1048576) :
    Calls Try.prog 126 #[.slice a len cap] w fun e w' => e = .returned (.agg #[.int .i64 len, .slice a len cap]) ∧ Below w.heap.size w w' := by
  have HB := Lib.hid ((Below.refl w.heap.size w).alloc (Nat.le_refl _) (.cells #[.int .i64 len, .slice a len cap] 32))
  go_enter Try.func126, Try.ntmps126
  go_wp2
  exact bodyPost_ret (v := .agg #[.int .i64 len, .slice a len cap]) (by simp [results, Try.results126, go_sem]) rfl ⟨rfl, HB.out⟩

/-! A result box that may be made early, in a region that draws its order -/
def Zo (w W : World) (b : Option Nat) : Prop := ∀ k, b = some k → Bz w k ∧ W.heap.size ≤ k
theorem Zo.no (w W : World) : Zo w W none := fun k h => by cases h
theorem Zo.keep {w w' W : World} {b : Option Nat} (h : Zo w W b) (hb : Below w.heap.size w w') : Zo w' W b := fun k e => ⟨(h k e).1.keep hb, (h k e).2⟩
theorem Zo.new {w w' W : World} (hW : W.heap.size ≤ w.heap.size) (hb : Below (w.alloc (.cells #[.int .i64 0, .slice none 0 0] 32)).heap.size (w.alloc (.cells #[.int .i64 0, .slice none 0 0] 32)) w') : Zo w' W (some w.heap.size) := fun k e => by
  cases e
  exact ⟨(Bz.new w).keep hb, hW⟩
theorem below_al {C : Nat} {w w' : World} {o : Obj} (hC : C ≤ w.heap.size) (h : Below (w.alloc o).heap.size (w.alloc o) w') : Below C w w' := ((Below.refl C w).alloc hC o).trans (h.mono (by simp; omega))
theorem two_set {w : World} {k b o : Nat} {u v v' : Value} (h : w.cell? ⟨b, o, none⟩ = some u) (hk : b ≠ k) : ((w.setCell ⟨k, 0, none⟩ v).setCell ⟨k, 1, none⟩ v').cell? ⟨b, o, none⟩ = some u := by
  rw [World.cell?_setCell_other _ _ _ _ (fun e => hk (by cases e; rfl)), World.cell?_setCell_other _ _ _ _ (fun e => hk (by cases e; rfl))]; exact h
/-- What the region leaves: the result in a box, and its list owned. -/
def Pr (W w : World) (b lo hi : Nat) (n : Int) (a : Option Addr) (len c : Nat) (xs : List Int) : Prop := Below W.heap.size W w ∧ Bx w b n a len c ∧ InF w lo hi (.agg #[.int .i64 n, .slice a len c]) n xs
theorem Pr.late {W wB wC : World} {n : Int} {a : Option Addr} {len c : Nat} {xs : List Int} (hW : W.heap.size ≤ wC.heap.size) (t : Below W.heap.size W wC) (ho : InF wC wB.heap.size wC.heap.size (.agg #[.int .i64 n, .slice a len c]) n xs) :
    Pr W (wC.alloc (.cells #[.int .i64 n, .slice a len c] 32)) wC.heap.size wB.heap.size wC.heap.size n a len c xs :=
  ⟨t.alloc hW _, Bx.new _ _ _ _ _ _, ho.below (alloc_keep _ _).1 (Nat.le_refl _)⟩
theorem cell_set (w : World) (b o : Nat) {u : Value} (v : Value) (h : w.cell? ⟨b, o, none⟩ = some u) : (w.setCell ⟨b, o, none⟩ v).cell? ⟨b, o, none⟩ = some v := World.cell?_setCell_same _ _ _ h
theorem cell_set' (w : World) (b o o' : Nat) (v : Value) (h : o ≠ o') : (w.setCell ⟨b, o, none⟩ v).cell? ⟨b, o', none⟩ = w.cell? ⟨b, o', none⟩ := World.cell?_setCell_other _ _ _ _ (fun e => h (by cases e; rfl))
theorem Pr.early {W wC : World} {n : Int} {a : Option Addr} {len c k lo : Nat} {xs : List Int} (hk : W.heap.size ≤ k) (hkl : k < lo) (t : Below W.heap.size W wC) (z : Bz wC k) (ho : InF wC lo wC.heap.size (.agg #[.int .i64 n, .slice a len c]) n xs) :
    Pr W ((wC.setCell ⟨k, 0, none⟩ (.int .i64 n)).setCell ⟨k, 1, none⟩ (.slice a len c)) k lo wC.heap.size n a len c xs := by
  obtain ⟨z1, z2, z3, -, -⟩ := z
  have e3 : (wC.setCell ⟨k, 0, none⟩ (.int .i64 n)).cell? ⟨k, 1, none⟩ = some (.slice none 0 0) := by rw [cell_set' _ _ _ _ _ (by decide)]; exact z3
  refine ⟨(t.setCell (by exact hk) _).setCell (by exact hk) _, ⟨by simpa [World.setCell] using z1, ?_, cell_set _ _ _ _ e3⟩, rfl, ?_, ho.2.2⟩
  · rw [cell_set' _ _ _ _ _ (by decide)]; exact cell_set _ _ _ _ z2
  · exact (ho.2.1.setOut (.inl hkl)).setOut (.inl hkl)

end Go.Proofs.Ytomldealpmohhaa

/- Contracts of the frame of a list of worlds, of the model and of the program, and of PartOfFrame. Conditions: those in the theorems. -/
namespace Go.Proofs.Ytomldealpmohhaa
open Go.RowKit

/-- The mask of the indices, in a list of worlds, of the members of x. -/
def sqTo (ls : List Int) (x : Int) : Nat → Int
  | 0 => 0
  | k + 1 => if bitB x (nth ls k) then bits .or .i64 (sqTo ls x k) (one k) else sqTo ls x k
def arF (xs ls : List Int) (i : Nat) : Int := sqTo ls (nth xs (nth ls i).toNat) ls.length
def arV (xs ls : List Int) : List Int := tab ls.length (arF xs ls)
def LsOk (n : Nat) (ls : List Int) : Prop := ∀ k, k < ls.length → ∃ p : Nat, nth ls k = p ∧ p < n
theorem memTo_ok (m k : Nat) : LsOk k (memTo m k) := by
  induction k with
  | zero => intro i hi; simp [memTo] at hi
  | succ k ih =>
    intro i hi
    rw [memTo] at hi ⊢
    split at hi
    · rename_i h
      rw [if_pos h]
      by_cases e : i < (memTo m k).length
      · obtain ⟨p, h1, h2⟩ := ih i e
        exact ⟨p, by rw [nth_left _ _ _ e]; exact h1, by omega⟩
      · have e2 : i = (memTo m k).length := by simp at hi; omega
        subst e2
        exact ⟨k, nth_snoc _ _ _ rfl, by omega⟩
    · rename_i h
      rw [if_neg h]
      obtain ⟨p, h1, h2⟩ := ih i hi
      exact ⟨p, h1, by omega⟩

theorem boxF1 (w : World) (n : Int) (a : Option Addr) (l c : Nat) : ∃ W : World, W = (w.alloc (.cells #[.int .i64 n, .slice a l c] 32)).alloc (.cells #[.int .i64 0, .slice none 0 0] 32) ∧
    Hid (Below w.heap.size w W) ∧ Hid (Bx W w.heap.size n a l c) ∧ Hid (Bz W (w.heap.size + 1)) ∧ W.heap.size = w.heap.size + 1 + 1 := by
  refine ⟨_, rfl, Lib.hid (((Below.refl w.heap.size w).alloc (Nat.le_refl _) _).alloc (by simp) _), Lib.hid ((Bx.new w n a l c _).keep (alloc_keep _ _).1), ?_, by simp⟩
  have := Bz.new (w.alloc (.cells #[.int .i64 n, .slice a l c] 32))
  exact Lib.hid (by simpa using this)

set_option maxHeartbeats 400000 in
theorem l05Squeeze_any (ls : List Int) (x : Int) (n : Nat) (a : Option Addr) (len cap : Nat) (w : World) (hl : len ≤ 30) (hn : n ≤ 30) (hok : LsOk n ls) (h : At w a len ls) :
    Calls Try.prog 59 #[.slice a len cap, .int .i64 x] w fun e w' => e = .returned (.int .i64 (sqTo ls x len)) ∧ w = w' := by
  obtain rfl := h.1
  have H := Lib.hid h
  have OK := Lib.hid hok
  clear h hok
  go_enter Try.func59, Try.ntmps59
  go_wp2
  go_loop [5, 6] (fun s i => ∃ k : Nat, k ≤ ls.length ∧ i = .int .i64 k ∧ s = .int .i64 (sqTo ls x k)) (fun _ i => ls.length - (intOf i).toNat)
  case atStart => exact ⟨0, Nat.zero_le _, rfl, rfl⟩
  case round =>
    obtain ⟨k, hk, rfl, rfl⟩ := hrel
    by_cases hlt : k < ls.length
    · obtain ⟨b, off, rfl, -, hc⟩ := H.out.2.resolve_left (by omega)
      obtain ⟨p, hp, hpn⟩ := OK.out k hlt
      have hcell := hc k hlt
      rw [hp] at hcell
      have HP := Lib.hid hp
      clear hc hp
      cases hb : bitB x (p : Int)
      all_goals
        have HB := Lib.hid hb
        go_wp2_with (first | (go_at_call 52; refine (l01Bit_any _ _ _ (by omega) (by omega)).mono ?_; rintro e w' ⟨rfl, rfl⟩) | (go_at_call 66; refine (l01One_any _ _ (by omega) (by omega)).mono ?_; rintro e w' ⟨rfl, rfl⟩))
        go_round
        case rel => exact ⟨k + 1, hlt, by go_num, by simp [sqTo, HP.out, HB.out]⟩
        case measure => simp [intOf]; omega
    · obtain rfl : k = ls.length := by omega
      go_wp2
      go_ret
      exact ⟨rfl, rfl⟩

def arTo (xs ls : List Int) : Nat → List Int
  | 0 => []
  | k + 1 => arTo xs ls k ++ [arF xs ls k]
theorem arTo_len (xs ls : List Int) (k : Nat) : (arTo xs ls k).length = k := by induction k with | zero => rfl | succ k ih => simp [arTo, ih]
theorem arTo_tab (xs ls : List Int) (k : Nat) : arTo xs ls k = tab k (arF xs ls) := by
  induction k with
  | zero => rfl
  | succ k ih => rw [arTo, ih]; unfold tab; rw [List.range_succ, List.map_append]; rfl
theorem own_ar {w : World} {B k : Nat} {v : Value} {xs ls : List Int} (h : w.ownsRow B 2 1 v k ((arTo xs ls k).map (Value.int .i64))) : Own w B v (arTo xs ls k) := by
  unfold Own; rw [arTo_len]; exact h

set_option maxHeartbeats 1000000 in
set_option maxRecDepth 100000 in
theorem l05Part_any (n : Int) (xs : List Int) (m : Nat) (a : Option Addr) (len cap : Nat) (w : World) (hl : len ≤ 8) (hm : m < 2 ^ len) (h : At w a len xs) :
    Calls Try.prog 60 #[.agg #[.int .i64 n, .slice a len cap], .int .i64 m] w fun e w' => ∃ v, e = .returned v ∧ OwnF w' w.heap.size v (arV xs (memTo m len)).length (arV xs (memTo m len)) ∧ Below w.heap.size w w' := by
  obtain ⟨W, hW, HB, X, Z, hWs⟩ := boxF1 w n a len cap
  have H := Lib.hid (h.keep HB.out (Nat.le_refl _))
  have hz0 : w.heap.size + 1 + 1 ≤ W.heap.size := by omega
  obtain rfl := h.1
  have hm30 : m < 1073741824 := by have : (2 : Nat) ^ xs.length ≤ 2 ^ 8 := Nat.pow_le_pow_right (by decide) hl; omega
  have M := Lib.hid (memTo_high hm 30 (by omega))
  obtain ⟨ls, hls⟩ : ∃ ls, ls = memTo m xs.length := ⟨_, rfl⟩
  have OK := Lib.hid (show LsOk xs.length ls by rw [hls]; exact memTo_ok m xs.length)
  have hll : ls.length ≤ 8 := by rw [hls]; exact Nat.le_trans (memTo_len m xs.length) hl
  rw [← hls] at M ⊢
  have HW := Lib.hid hW
  clear h hWs hm hls hW
  go_enter Try.func60, Try.ntmps60
  go_wp2_with fail
  rw [← HW.out]
  refine (l01List_any m hm30 _).mono ?_
  rw [M.out]
  rintro e w1 ⟨v1, rfl, ho, hb⟩
  obtain ⟨a1, k1, rfl, hat, -, -, -⟩ := ho.at
  have L1 := Lib.hid hat
  have B1 := Lib.hid hb
  clear ho hb hat
  go_wp2
  go_loopw [6, 7] (fun v i wr => ∃ k : Nat, k ≤ ls.length ∧ i = .int .i64 k ∧ wr.ownsRow w1.heap.size 2 1 v k ((arTo xs ls k).map (Value.int .i64)) ∧ Hid (Below w1.heap.size w1 wr)) (fun _ i _ => ls.length - (intOf i).toNat)
  case atStart => exact ⟨0, Nat.zero_le _, rfl, World.ownsRow_lit w1 #[] 0 (Nat.le_refl _) (by unfold maxLen; omega) rfl, Lib.hid ((Below.refl _ _).alloc (Nat.le_refl _) _)⟩
  case round =>
    obtain ⟨k, hk, rfl, hown, B⟩ := hrel
    have HO := Lib.hid hown
    clear hown
    have hs1 := B1.out.size
    have hsz := B.out.size
    have BW := Lib.hid (B1.out.trans (B.out.mono hs1))
    have HA := Lib.hid (H.out.keep BW.out (Nat.le_refl _))
    have LA := Lib.hid (L1.out.keep B.out (Nat.le_refl _))
    obtain ⟨lt0, x0, x0'⟩ := X.out.keep BW.out
    by_cases hlt : k < ls.length
    · obtain ⟨p, hp, hpn⟩ := OK.out k hlt
      obtain ⟨b', off', rfl, hb', hc'⟩ := LA.out.2.resolve_left (by omega)
      have hcell' := hc' k hlt
      rw [hp] at hcell'
      obtain ⟨b, off, rfl, hb, hc⟩ := HA.out.2.resolve_left (by omega)
      have hcell := hc p hpn
      have EL := Lib.hid (show sqTo ls (nth xs p) ls.length = arF xs ls k by rw [arF, hp, Int.toNat_natCast])
      clear hc hc' hp
      go_wp2
      go_region_law (first | (refine step_app1 rfl _ _ rfl w1.heap.size _ k _ rfl (HO.out.drew.alloc _) ⟨wr.heap.size, 0, none⟩ 1 _ rfl (World.cell?_alloc_at _ _ _ _ rfl) (by omega) (by simp; omega) ?_; intro v' w1' hown1 hgr1) | (go_simp; go_at_call 59; refine (l05Squeeze_any ls _ xs.length _ _ _ _ (by omega) (by omega) OK.out LA.out.drw).mono ?_; rintro e w' ⟨rfl, rfl⟩))
      all_goals
        have hbel := Lib.hid (below_app B.out (((Below.refl _ _).alloc hsz _).drew) hsz HO.out hgr1)
        rw [EL.out] at hown1
        clear hgr1 x0 x0' hcell hcell'
        go_wp2
        go_roundw
        case rel => exact ⟨k + 1, hlt, by go_num, by rw [arTo, List.map_append]; exact hown1, hbel⟩
        case measure => simp [intOf]; omega
    · obtain rfl : k = ls.length := by omega
      have O5 := Lib.hid (own_ar HO.out)
      obtain ⟨a5, k5, e5, hat5, -, hn5, -⟩ := O5.out.at
      rw [arTo_len] at e5 hat5
      subst e5
      have H5 := Lib.hid hat5
      have N5 := Lib.hid hn5
      have Z1 := Lib.hid (Z.out.keep BW.out)
      have B2 := Lib.hid (HB.out.trans (BW.out.mono HB.out.size))
      have E5 := Lib.hid (arTo_tab xs ls ls.length)
      clear hat5 hn5 x0 x0'
      go_wp2_with fail
      refine (l05Make_any _ _ _ _ _ (by omega) H5.out N5.out).mono ?_
      rintro e w2 ⟨v2, rfl, ho, hb⟩
      obtain ⟨a2, k2, rfl⟩ := ho.form
      obtain ⟨lt2, z0, z1, z2, z3⟩ := Z1.out.keep hb
      have B3 := Lib.hid (B2.out.trans (hb.mono B2.out.size))
      have O2 := Lib.hid ho
      clear ho hb
      go_wp2
      refine bodyPost_ret (v := .agg #[.int .i64 (arTo xs ls ls.length).length, .slice a2 (arTo xs ls ls.length).length k2]) (by simp [results, Try.results60, go_sem, z0, z1]) rfl ⟨_, rfl, ?_, (B3.out.setCell (by show _ ≤ _; simp) _).setCell (by show _ ≤ _; simp) _⟩
      have e6 : arV xs ls = arTo xs ls ls.length := E5.out.symm
      rw [e6]
      exact (O2.out.out2 (by omega)).mono (by omega)

end Go.Proofs.Ytomldealpmohhaa

/- The mask of all worlds of a frame: the program's contract. Conditions: those in the theorems. -/
namespace Go.Proofs.Ytomldealpmohhaa
open Go.RowKit

set_option maxHeartbeats 400000 in
theorem allWorlds_any (n : Int) (a : Option Addr) (len cap : Nat) (w : World) (hn : 0 ≤ n) (hn2 : n ≤ 30) :
    Calls Try.prog 97 #[.agg #[.int .i64 n, .slice a len cap]] w fun e w' => e = .returned (.int .i64 (full n)) ∧ Below w.heap.size w w' := by
  have HB := Lib.hid (boxF (w := w) n a len cap)
  go_enter Try.func97, Try.ntmps97
  go_wp2
  go_ret
  exact ⟨rfl, HB.out⟩

end Go.Proofs.Ytomldealpmohhaa
