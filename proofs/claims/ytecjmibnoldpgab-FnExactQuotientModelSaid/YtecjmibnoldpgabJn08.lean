/- 3 texts in one: IsFr, Gen, Mk. -/
import Derived.Test.YtecjmibnoldpgabFr
import Derived.Test.YtecjmibnoldpgabJn06
/- Contracts of what asks whether a frame is one, of the errors of a frame and a set of its worlds, and the walk of IsFrame's law. Conditions: those in the theorems. -/
namespace Go.Proofs.Ytecjmibnoldpgab
open Go.RowKit

def frB (n : Int) (xs : List Int) : Bool := inB n 0 8 && decide ((xs.length : Int) = n) && mksTo n xs xs.length
theorem frB_no1 {n : Int} {xs : List Int} (h : inB n 0 8 = false) : frB n xs = false := by rw [frB, h]; rfl
theorem frB_no2 {n : Int} {xs : List Int} (h : ¬ (xs.length : Int) = n) : frB n xs = false := by rw [frB, decide_eq_false h, Bool.and_false]; rfl
theorem frB_eq {n : Int} {xs : List Int} {b : Bool} (h1 : inB n 0 8 = true) (h2 : (xs.length : Int) = n) (h3 : mksTo n xs xs.length = b) : frB n xs = b := by rw [frB, h1, decide_eq_true h2, h3]; rfl
theorem frB_ok {n : Int} {xs : List Int} (h : frB n xs = true) : n = xs.length ∧ xs.length ≤ 8 ∧ mksTo xs.length xs xs.length = true ∧ Rel xs.length (nth xs) := by
  unfold frB at h
  rw [Bool.and_eq_true, Bool.and_eq_true, decide_eq_true_eq] at h
  obtain ⟨⟨h1, h2⟩, h3⟩ := h
  have hb : 0 ≤ n ∧ n ≤ 8 := by simpa [inB] using h1
  subst h2
  have hl : xs.length ≤ 8 := by omega
  refine ⟨rfl, hl, h3, fun i => ?_⟩
  by_cases hi : i < xs.length
  · exact (mksTo_iff (by omega) xs xs.length).1 h3 i hi
  · rw [nth_high (by omega)]; exact InMk.zero _

theorem boxF {w : World} (n : Int) (a : Option Addr) (len cap : Nat) : Below w.heap.size w (w.alloc (.cells #[.int .i64 n, .slice a len cap] 30)) := (Below.refl _ _).alloc (Nat.le_refl _) _

set_option maxHeartbeats 400000 in
theorem l05Is_any (n : Int) (xs : List Int) (a : Option Addr) (len cap : Nat) (w : World) (hl : len ≤ 1048576) (h : At w a len xs) :
    Calls Try.prog 64 #[.agg #[.int .i64 n, .slice a len cap]] w fun e w' => e = .returned (.bool (frB n xs)) ∧ Below w.heap.size w w' := by
  have HB := Lib.hid (boxF (w := w) n a len cap)
  have H := Lib.hid (h.keep HB.out (Nat.le_refl _))
  obtain rfl := h.1
  clear h
  cases h1 : inB n 0 8
  · have F := Lib.hid (frB_no1 (xs := xs) h1)
    go_enter Try.func64, Try.ntmps64
    go_wp2_with (go_at_call 41; refine (l01In_any _ _ _ _).mono ?_; rintro e w' ⟨rfl, rfl⟩)
    go_ret
    exact ⟨ret_bool F.out.symm, HB.out⟩
  · by_cases h2 : (xs.length : Int) = n
    · have hb : 0 ≤ n ∧ n ≤ 8 := by simpa [inB] using h1
      cases h3 : mksTo n xs xs.length
      all_goals
        have F := Lib.hid (frB_eq h1 h2 h3)
        have F1 := Lib.hid h3
        subst h2
        clear h3
        go_enter Try.func64, Try.ntmps64
        go_wp2_with (first | (go_at_call 41; refine (l01In_any _ _ _ _).mono ?_; rintro e w' ⟨rfl, rfl⟩) | (go_at_call 65; refine (l01Masks_any _ xs _ _ _ _ (by omega) (by omega) hl H.out).mono ?_; rw [F1.out]; rintro e w' ⟨rfl, q, rfl⟩))
        go_ret
        exact ⟨ret_bool F.out.symm, below_drewN HB.out q⟩
    · have F := Lib.hid (frB_no2 h2)
      have h4 : ((xs.length : Int) == n) = false := by simpa using h2
      have h5 : ((xs.length : Int) != n) = true := by simpa using h2
      clear h2
      go_enter Try.func64, Try.ntmps64
      go_wp2_with (go_at_call 41; refine (l01In_any _ _ _ _).mono ?_; rintro e w' ⟨rfl, rfl⟩)
      go_ret
      exact ⟨ret_bool F.out.symm, HB.out⟩

set_option maxHeartbeats 400000 in
theorem frRel_any (n : Int) (a : Option Addr) (len cap : Nat) (w : World) :
    Calls Try.prog 86 #[.agg #[.int .i64 n, .slice a len cap]] w fun e w' => e = .returned (.slice a len cap) ∧ Below w.heap.size w w' := by
  have HB := Lib.hid (boxF (w := w) n a len cap)
  go_enter Try.func86, Try.ntmps86
  go_wp2
  go_ret
  exact ⟨rfl, HB.out⟩

theorem chk_of {xs : List Int} {b : Bool} (h : xs.length ≤ 8) (h3 : mksTo xs.length xs xs.length = b) : chkI xs xs.length = if b then 0 else 1 := by
  cases b
  · exact chkI_bad (by omega) h3
  · exact chkI_ok (by omega) h3

set_option maxHeartbeats 400000 in
theorem implIsFrame_any (n : Int) (xs : List Int) (a : Option Addr) (len cap : Nat) (w : World) (hl : len ≤ 1048576) (h : At w a len xs) :
    Calls Try.prog 67 #[.agg #[.int .i64 n, .slice a len cap]] w fun e w' => e = .returned (.bool (frB n xs)) ∧ Below w.heap.size w w' := by
  have HB := Lib.hid (boxF (w := w) n a len cap)
  have H := Lib.hid (h.keep HB.out (Nat.le_refl _))
  obtain rfl := h.1
  clear h
  by_cases h1 : 0 ≤ n ∧ n ≤ 8
  · have h1' : inB n 0 8 = true := by simpa [inB] using h1
    obtain ⟨h1a, h1b⟩ := h1
    by_cases h2 : (xs.length : Int) = n
    · cases h3 : mksTo n xs xs.length
      all_goals
        have F := Lib.hid (frB_eq h1' h2 h3)
        subst h2
        have F1 := Lib.hid (chk_of (by omega) h3)
        clear h3 h1'
        go_enter Try.func67, Try.ntmps67
        go_wp2_with fail
        refine (frRel_any _ _ _ _ _).mono ?_
        rintro e w1 ⟨rfl, hb1⟩
        have H1 := Lib.hid (H.out.keep hb1 (Nat.le_refl _))
        have B1 := Lib.hid (HB.out.trans (hb1.mono HB.out.size))
        clear hb1
        go_wp2_with (go_at_call 94; refine (check_any xs _ _ _ _ hl H1.out).mono ?_; rw [F1.out]; rintro e w' ⟨rfl, rfl⟩)
        go_ret
        exact ⟨ret_bool F.out.symm, B1.out⟩
    · have F := Lib.hid (frB_no2 h2)
      have h4 : (n == (xs.length : Int)) = false := by simp; omega
      have h5 : (n != (xs.length : Int)) = true := by simp; omega
      clear h2
      go_enter Try.func67, Try.ntmps67
      go_wp2
      go_ret
      exact ⟨ret_bool F.out.symm, HB.out⟩
  · have F := Lib.hid (frB_no1 (n := n) (xs := xs) (by simp [inB]; omega))
    by_cases h0 : 0 ≤ n
    all_goals
      go_enter Try.func67, Try.ntmps67
      go_wp2
      go_ret
      exact ⟨ret_bool F.out.symm, HB.out⟩

/-! A frame and a set of its worlds -/
def cwV (n : Int) (xs : List Int) (m : Int) : Int := if frB n xs then (if mskB n m then 0 else 2) else 1
theorem cw_no {n m : Int} {xs : List Int} (h : frB n xs = false) : cwV n xs m = 1 := by rw [cwV, h]; rfl
theorem cw_of {n m : Int} {xs : List Int} {b : Bool} (h : frB n xs = true) (h2 : mskB n m = b) : cwV n xs m = if b then 0 else 2 := by rw [cwV, h, h2]; rfl
theorem cw_ok {n m : Int} {xs : List Int} (h : cwV n xs m = 0) : n = xs.length ∧ xs.length ≤ 8 ∧ Rel xs.length (nth xs) ∧ InMk xs.length m ∧ mskB xs.length m = true := by
  unfold cwV at h
  cases h1 : frB n xs
  · rw [h1] at h; cases h
  · rw [h1] at h
    obtain ⟨rfl, h2, -, h3⟩ := frB_ok h1
    cases h4 : mskB xs.length m
    · rw [h4] at h; cases h
    · exact ⟨rfl, h2, h3, (mskB_InN (by omega) m).1 h4, rfl⟩

theorem l05Set_any (n m : Int) (a : Option Addr) (len cap : Nat) (w : World) (hn : 0 ≤ n) (hn2 : n ≤ 30) :
    Calls Try.prog 83 #[.agg #[.int .i64 n, .slice a len cap], .int .i64 m] w fun e w' => e = .returned (.bool (mskB n m)) ∧ Below w.heap.size w w' := by
  have HB := Lib.hid (boxF (w := w) n a len cap)
  go_enter Try.func83, Try.ntmps83
  go_wp2_with (first | (go_at_call 93; refine (l01Full_any _ _ hn hn2).mono ?_; rintro e w' ⟨rfl, rfl⟩) | (go_at_call 41; refine (l01In_any _ _ _ _).mono ?_; rintro e w' ⟨rfl, rfl⟩))
  go_ret
  exact ⟨rfl, HB.out⟩

end Go.Proofs.Ytecjmibnoldpgab

/- Contracts of the reach of a frame and of GeneratedWorlds, of the model and of the program. Conditions: those in the theorems. -/
namespace Go.Proofs.Ytecjmibnoldpgab
open Go.RowKit

theorem bx1 {w w1 : World} {n : Int} {a : Option Addr} {len cap : Nat} (hb : Below (w.alloc (.cells #[.int .i64 n, .slice a len cap] 30)).heap.size (w.alloc (.cells #[.int .i64 n, .slice a len cap] 30)) w1) : Bx w1 w.heap.size n a len cap :=
  (Bx.new w n a len cap 30).keep hb

set_option maxHeartbeats 400000 in
theorem reach_any (n : Int) (xs : List Int) (a : Option Addr) (len cap : Nat) (w : World) (hl : len ≤ 30) (h : At w a len xs) :
    Calls Try.prog 61 #[.agg #[.int .i64 n, .slice a len cap]] w fun e w' => ∃ v, e = .returned v ∧ Own w' w.heap.size v (rcL xs) ∧ Below w.heap.size w w' := by
  have HB := Lib.hid (boxF (w := w) n a len cap)
  have H := Lib.hid (h.keep HB.out (Nat.le_refl _))
  obtain rfl := h.1
  clear h
  go_enter Try.func61, Try.ntmps61
  go_wp2_with fail
  refine (frRel_any _ _ _ _ _).mono ?_
  rintro e w1 ⟨rfl, hb1⟩
  have H1 := Lib.hid (H.out.keep hb1 (Nat.le_refl _))
  have B1 := Lib.hid (HB.out.trans (hb1.mono HB.out.size))
  clear hb1
  go_wp2_with fail
  refine (transitive_any xs _ _ _ _ hl H1.out).mono ?_
  rintro e w2 ⟨v2, rfl, ho, hb⟩
  obtain ⟨a2, c2, rfl, hat, -, -, -⟩ := ho.at
  have H2 := Lib.hid (show At w2 a2 (csL xs).length (csL xs) from hat)
  have B2 := Lib.hid (B1.out.trans (hb.mono B1.out.size))
  have L2 := Lib.hid (show (csL xs).length = xs.length from tab_len _ _)
  have hl2 : (tab xs.length (tcTo xs xs.length xs.length)).length ≤ 30 := by rw [tab_len]; exact hl
  clear ho hb hat
  go_wp2_with fail
  refine (reflexive_any (csL xs) _ _ _ _ hl2 H2.out).mono ?_
  rintro e w3 ⟨v3, rfl, ho, hb⟩
  have e3 : rfTo (csL xs) (tab xs.length (tcTo xs xs.length xs.length)).length = rcL xs := by rw [rcL, tab_len]
  rw [e3] at ho
  have O3 := Lib.hid (ho.mono B2.out.size)
  have B3 := Lib.hid (B2.out.trans (hb.mono B2.out.size))
  clear ho hb e3
  go_wp2
  go_ret
  exact ⟨_, rfl, O3.out, B3.out⟩

set_option maxHeartbeats 400000 in
theorem l05Reach_any (n m : Int) (xs : List Int) (a : Option Addr) (len cap : Nat) (w : World) (hl : len ≤ 8) (hr : Rel len (nth xs)) (hm : InMk len m) (h : At w a len xs) :
    Calls Try.prog 56 #[.agg #[.int .i64 n, .slice a len cap], .int .i64 m] w fun e w' => e = .returned (.int .i64 (rchV xs m)) ∧ Below w.heap.size w w' := by
  have HB := Lib.hid (boxF (w := w) n a len cap)
  have H := Lib.hid (h.keep HB.out (Nat.le_refl _))
  obtain rfl := h.1
  clear h
  have HR := Lib.hid hr
  have HM := Lib.hid hm
  clear hr hm
  go_enter Try.func56, Try.ntmps56
  go_wp2
  go_loop [1] (fun c => ∃ mk : Int, c = .int .i64 mk ∧ Hid (Rsr xs m mk)) (fun c => (256 - intOf c).toNat)
  case atStart => exact ⟨m, rfl, Lib.hid (Rsr.start (by omega) HR.out HM.out)⟩
  case round =>
    obtain ⟨mk, rfl, R⟩ := hrel
    by_cases h0 : bits .andNot .i64 (imgTo xs mk xs.length) mk = 0
    · have h1 : (bits .andNot .i64 (imgTo xs mk xs.length) mk != 0) = false := by simpa using h0
      have S := Lib.hid (R.out.stop (by omega) HR.out HM.out h0)
      clear h0
      go_wp2_with (go_at_call 82; refine (l01Image_any xs _ _ _ _ _ (by omega) H.out).mono ?_; rintro e w' ⟨rfl, rfl⟩)
      go_ret
      exact ⟨ret_int S.out, HB.out⟩
    · have h1 : (bits .andNot .i64 (imgTo xs mk xs.length) mk != 0) = true := by simpa using h0
      have S := Lib.hid (R.out.step (by omega) HR.out HM.out)
      have G := Lib.hid (or_gt (by omega) R.out.small (img_in (by omega) HR.out R.out.small) h0)
      have hlt := R.out.small.lt8 hl
      clear h0
      go_wp2_with (go_at_call 82; refine (l01Image_any xs _ _ _ _ _ (by omega) H.out).mono ?_; rintro e w' ⟨rfl, rfl⟩)
      go_round
      case rel => exact ⟨_, rfl, S⟩
      case measure => have g := G.out; simp [intOf]; omega

def gwV (n : Int) (xs : List Int) (m : Int) : Int := if cwV n xs m = 0 then rchV xs m else 0
theorem gw_ok {n m : Int} {xs : List Int} (h : cwV n xs m = 0) : Ending.returned (.tuple #[.int .i64 (rchV xs m), .int .i64 0]) = .returned (.tuple #[.int .i64 (gwV n xs m), .int .i64 (cwV n xs m)]) := by rw [gwV, if_pos h, h]
theorem gw_bad {n m c : Int} {xs : List Int} (h : ¬ cwV n xs m = 0) (hc : c = cwV n xs m) : Ending.returned (.tuple #[.int .i64 0, .int .i64 c]) = .returned (.tuple #[.int .i64 (gwV n xs m), .int .i64 (cwV n xs m)]) := by rw [gwV, if_neg h, hc]

end Go.Proofs.Ytecjmibnoldpgab

/- Contracts of what makes a frame from a list: l05Make of the model, frameOf of the program; the copy by slices.Clone; what asks for two frames. Conditions: those in the theorems. -/
namespace Go.Proofs.Ytecjmibnoldpgab
open Go.RowKit

/-- The cells of a result that is a frame, before it is stored. -/
def Bz (w : World) (b : Nat) : Prop := b < w.heap.size ∧ w.cell? ⟨b, 0, none⟩ = some (.int .i64 0) ∧ w.cell? ⟨b, 1, none⟩ = some (.slice none 0 0) ∧ w.frozen? ⟨b, 0, none⟩ = false ∧ w.frozen? ⟨b, 1, none⟩ = false
theorem Bz.below {w w' : World} {C b : Nat} (h : Bz w b) (hb : Below C w w') (hC : b < C) : Bz w' b :=
  ⟨Nat.lt_of_lt_of_le h.1 hb.size, (hb.cell (p := ⟨b, 0, none⟩) hC).trans h.2.1, (hb.cell (p := ⟨b, 1, none⟩) hC).trans h.2.2.1, (hb.frozen (p := ⟨b, 0, none⟩) hC).trans h.2.2.2.1, (hb.frozen (p := ⟨b, 1, none⟩) hC).trans h.2.2.2.2⟩
theorem Bz.keep {w w' : World} {b : Nat} (h : Bz w b) (hb : Below w.heap.size w w') : Bz w' b := h.below hb h.1
theorem Bz.new (w : World) : Bz (w.alloc (.cells #[.int .i64 0, .slice none 0 0] 30)) w.heap.size := ⟨by simp, World.cell?_alloc_at _ _ _ _ rfl, World.cell?_alloc_at _ _ _ _ rfl, by simp, by simp⟩
theorem OwnF.out2 {w : World} {B R o o' : Nat} {v z z' : Value} {n : Int} {xs : List Int} (h : OwnF w B v n xs) (hR : R < B) : OwnF ((w.setCell ⟨R, o, none⟩ z).setCell ⟨R, o', none⟩ z') B v n xs :=
  ⟨h.1, ((h.2.inn.setOut (.inl hR)).setOut (.inl hR)).1⟩

set_option maxHeartbeats 400000 in
theorem l05Make_any (xs : List Int) (a : Option Addr) (len cap : Nat) (w : World) (hl : len ≤ 1048576) (h : At w a len xs) (hn : a = none → cap = 0) :
    Calls Try.prog 103 #[.slice a len cap] w fun e w' => ∃ v, e = .returned v ∧ OwnF w' w.heap.size v xs.length xs ∧ Below w.heap.size w w' := by
  have HB := Lib.hid ((Below.refl w.heap.size w).alloc (Nat.le_refl _) (.cells #[.int .i64 0, .slice none 0 0] 30))
  have H := Lib.hid (h.keep HB.out (Nat.le_refl _))
  have HZ := Lib.hid (Bz.new w)
  obtain rfl := h.1
  have HN := Lib.hid hn
  clear h hn
  have hs : (w.alloc (.cells #[.int .i64 0, .slice none 0 0] 30)).heap.size = w.heap.size + 1 := by simp
  have HS := Lib.hid hs
  clear hs
  go_enter Try.func103, Try.ntmps103
  go_wp2_with fail
  refine (l01Own_any xs _ _ _ _ hl H.out HN.out).mono ?_
  rintro e w1 ⟨g, k1, rfl, hg, ho, hb⟩
  have B1 := Lib.hid (HB.out.trans (hb.mono HB.out.size))
  have Z1 := HZ.out.keep hb
  obtain ⟨lt1, c0, c1, f0, f1⟩ := Z1
  have O1 := Lib.hid (show OwnF w1 (w.heap.size + 1) (.agg #[.int .i64 xs.length, .slice (some ⟨g, 0, none⟩) xs.length k1]) xs.length xs from OwnF.mk (by rw [← HS.out]; exact ho))
  clear ho hb hg
  go_wp2
  exact bodyPost_ret (v := .agg #[.int .i64 xs.length, .slice (some ⟨g, 0, none⟩) xs.length k1]) (by simp [results, Try.results103, go_sem, c0, c1]) rfl ⟨_, rfl, (O1.out.out2 (by omega)).mono (by omega), (B1.out.setCell (by show _ ≤ _; simp) _).setCell (by show _ ≤ _; simp) _⟩

set_option maxHeartbeats 400000 in
theorem frameOf_any (a : Option Addr) (len cap : Nat) (w : World) (hl : len ≤ 1048576) :
    Calls Try.prog 101 #[.slice a len cap] w fun e w' => e = .returned (.agg #[.int .i64 len, .slice a len cap]) ∧ Below w.heap.size w w' := by
  have HB := Lib.hid ((Below.refl w.heap.size w).alloc (Nat.le_refl _) (.cells #[.int .i64 len, .slice a len cap] 30))
  go_enter Try.func101, Try.ntmps101
  go_wp2
  exact bodyPost_ret (v := .agg #[.int .i64 len, .slice a len cap]) (by simp [results, Try.results101, go_sem]) rfl ⟨rfl, HB.out⟩

set_option maxHeartbeats 400000 in
theorem slCloneI_any (xs : List Int) (a : Option Addr) (len cap : Nat) (w : World) (hl : len ≤ 1048576) (h : At w a len xs) :
    Calls Try.prog 100 #[.slice a len cap] w fun e w' => ∃ v, e = .returned v ∧ Own w' w.heap.size v xs ∧ Below w.heap.size w w' := by
  obtain ⟨i0, hi, hz0, hz1, hz2⟩ := info_parts info64
  have hnil := World.ownsRow_lit (size := 1) (e := 2) w #[] 0 (Nat.le_refl w.heap.size) (by unfold maxLen; omega) rfl
  have HNIL := Lib.hid hnil
  clear hnil
  have hb0 : Below w.heap.size w (w.alloc (.cells #[] 2)) := (Below.refl _ _).alloc (Nat.le_refl _) _
  have hlen := h.1
  have qT : ∀ (w : World) (a : Option Addr) (n c n' c' : Nat), (binOp .eql 22 (.slice a n c) (.slice none n' c')).run Try.prog w = .ok (.bool a.isNone) w := fun w a n c n' c' => Lib.run_eql_slice_nil w _ _ a n c n' c' Try.underlying22
  cases a with
  | none =>
    have h0 : len = 0 := by
      rcases h.2 with h0 | ⟨b, off, h0, _⟩
      · exact h0
      · cases h0
    subst h0
    obtain rfl : xs = [] := List.eq_nil_of_length_eq_zero hlen.symm
    clear h hlen HNIL hb0 hi hz0 hz1 hz2
    go_enter Try.func100, Try.ntmps100
    go_wp2
    go_ret
    exact ⟨_, rfl, World.ownsRow_nil w _ _ 1, Below.refl _ _⟩
  | some ad =>
    have hcells : ∀ j u, (xs.map (Value.int .i64))[j]? = some u → (w.alloc (.cells #[] 2)).cell? (ad.add j) = some u := by
      intro j u hj
      have hjl : j < xs.length := by
        have := (List.getElem?_eq_some_iff.1 hj).1
        simpa using this
      obtain ⟨b, off, he, hb, hc⟩ := h.2.resolve_left (by omega)
      cases he
      rw [nth_map hjl] at hj
      have e2 : (⟨b, off, none⟩ : Addr).add j = ⟨b, off + j, none⟩ := by unfold Addr.add; split <;> simp_all
      rw [e2, World.cell?_alloc_past _ _ _ hb, hc j (by omega), ← hj]
    have HC := Lib.hid hcells
    have HL := Lib.hid hlen
    clear h hcells hlen
    go_enter Try.func100, Try.ntmps100
    go_wp2_with (at_builtin; refine wpList_append_own _ rfl (.tmp 5) (.tmp 6) 22 rfl w.heap.size 2 i0 (.int .i64 0) 1 8 Try.underlying22 hi hz0 hz1 hz2 rfl (by decide) _ 0 _ rfl HNIL.out ad len _ (xs.map (Value.int .i64)) rfl ?c1 HC.out (ints_oneCell _ _) ?c2 ?c3 ?c4 ?_)
    case c1 => exact HL.out.symm
    case c2 => unfold maxLen; omega
    case c3 => omega
    intro v' w1 hown1 hgr1 hnn1
    have hb1 := Lib.hid (hb0.grown hgr1 hb0.size (fun k hk => (World.ownsRow.lt HNIL.out k hk).1))
    have HO := Lib.hid (show Own w1 w.heap.size v' xs by unfold Own; rw [← HL.out]; simpa using hown1)
    clear hown1 hgr1 hnn1 hi hz0 hz1 hz2 qT
    go_wp2
    go_ret
    exact ⟨_, rfl, HO.out, hb1.out⟩

/-! A result box that may be made early, in a region that draws its order -/
def Zo (w W : World) (b : Option Nat) : Prop := ∀ k, b = some k → Bz w k ∧ W.heap.size ≤ k
theorem Zo.no (w W : World) : Zo w W none := fun k h => by cases h
theorem Zo.keep {w w' W : World} {b : Option Nat} (h : Zo w W b) (hb : Below w.heap.size w w') : Zo w' W b := fun k e => ⟨(h k e).1.keep hb, (h k e).2⟩
theorem Zo.new {w w' W : World} (hW : W.heap.size ≤ w.heap.size) (hb : Below (w.alloc (.cells #[.int .i64 0, .slice none 0 0] 30)).heap.size (w.alloc (.cells #[.int .i64 0, .slice none 0 0] 30)) w') : Zo w' W (some w.heap.size) := fun k e => by
  cases e
  exact ⟨(Bz.new w).keep hb, hW⟩
theorem below_al {C : Nat} {w w' : World} {o : Obj} (hC : C ≤ w.heap.size) (h : Below (w.alloc o).heap.size (w.alloc o) w') : Below C w w' := ((Below.refl C w).alloc hC o).trans (h.mono (by simp; omega))
theorem two_set {w : World} {k b o : Nat} {u v v' : Value} (h : w.cell? ⟨b, o, none⟩ = some u) (hk : b ≠ k) : ((w.setCell ⟨k, 0, none⟩ v).setCell ⟨k, 1, none⟩ v').cell? ⟨b, o, none⟩ = some u := by
  rw [World.cell?_setCell_other _ _ _ _ (fun e => hk (by cases e; rfl)), World.cell?_setCell_other _ _ _ _ (fun e => hk (by cases e; rfl))]; exact h
/-- What the region leaves: the result in a box, and its list owned. -/
def Pr (W w : World) (b lo hi : Nat) (n : Int) (a : Option Addr) (len c : Nat) (xs : List Int) : Prop := Below W.heap.size W w ∧ Bx w b n a len c ∧ InF w lo hi (.agg #[.int .i64 n, .slice a len c]) n xs
theorem Pr.late {W wB wC : World} {n : Int} {a : Option Addr} {len c : Nat} {xs : List Int} (hW : W.heap.size ≤ wC.heap.size) (t : Below W.heap.size W wC) (ho : InF wC wB.heap.size wC.heap.size (.agg #[.int .i64 n, .slice a len c]) n xs) :
    Pr W (wC.alloc (.cells #[.int .i64 n, .slice a len c] 30)) wC.heap.size wB.heap.size wC.heap.size n a len c xs :=
  ⟨t.alloc hW _, Bx.new _ _ _ _ _ _, ho.below (alloc_keep _ _).1 (Nat.le_refl _)⟩
theorem cell_set (w : World) (b o : Nat) {u : Value} (v : Value) (h : w.cell? ⟨b, o, none⟩ = some u) : (w.setCell ⟨b, o, none⟩ v).cell? ⟨b, o, none⟩ = some v := World.cell?_setCell_same _ _ _ h
theorem cell_set' (w : World) (b o o' : Nat) (v : Value) (h : o ≠ o') : (w.setCell ⟨b, o, none⟩ v).cell? ⟨b, o', none⟩ = w.cell? ⟨b, o', none⟩ := World.cell?_setCell_other _ _ _ _ (fun e => h (by cases e; rfl))
theorem Pr.early {W wC : World} {n : Int} {a : Option Addr} {len c k lo : Nat} {xs : List Int} (hk : W.heap.size ≤ k) (hkl : k < lo) (t : Below W.heap.size W wC) (z : Bz wC k) (ho : InF wC lo wC.heap.size (.agg #[.int .i64 n, .slice a len c]) n xs) :
    Pr W ((wC.setCell ⟨k, 0, none⟩ (.int .i64 n)).setCell ⟨k, 1, none⟩ (.slice a len c)) k lo wC.heap.size n a len c xs := by
  obtain ⟨z1, z2, z3, -, -⟩ := z
  have e3 : (wC.setCell ⟨k, 0, none⟩ (.int .i64 n)).cell? ⟨k, 1, none⟩ = some (.slice none 0 0) := by rw [cell_set' _ _ _ _ _ (by decide)]; exact z3
  refine ⟨(t.setCell (by exact hk) _).setCell (by exact hk) _, ⟨by simpa [World.setCell] using z1, ?_, cell_set _ _ _ _ e3⟩, rfl, ?_, ho.2.2⟩
  · rw [cell_set' _ _ _ _ _ (by decide)]; exact cell_set _ _ _ _ z2
  · exact (ho.2.1.setOut (.inl hkl)).setOut (.inl hkl)

end Go.Proofs.Ytecjmibnoldpgab
