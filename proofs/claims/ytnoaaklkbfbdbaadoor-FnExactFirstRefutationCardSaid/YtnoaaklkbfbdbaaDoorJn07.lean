/- 5 texts in one: IsFr, Gen, Mk, Mo, IsMo. -/
import Derived.Test.YtnoaaklkbfbdbaaDoorFr
import Derived.Test.YtnoaaklkbfbdbaaDoorJn06
/- Contracts of what asks whether a frame is one, of the errors of a frame and a set of its worlds, and the walk of IsFrame's law. Conditions: those in the theorems. -/
namespace Go.Proofs.YtnoaaklkbfbdbaaDoor
open Go.RowKit

def frB (n : Int) (xs : List Int) : Bool := inB n 0 8 && decide ((xs.length : Int) = n) && mksTo n xs xs.length
theorem frB_no1 {n : Int} {xs : List Int} (h : inB n 0 8 = false) : frB n xs = false := by rw [frB, h]; rfl
theorem frB_no2 {n : Int} {xs : List Int} (h : ¬ (xs.length : Int) = n) : frB n xs = false := by rw [frB, decide_eq_false h, Bool.and_false]; rfl
theorem frB_eq {n : Int} {xs : List Int} {b : Bool} (h1 : inB n 0 8 = true) (h2 : (xs.length : Int) = n) (h3 : mksTo n xs xs.length = b) : frB n xs = b := by rw [frB, h1, decide_eq_true h2, h3]; rfl
theorem frB_ok {n : Int} {xs : List Int} (h : frB n xs = true) : n = xs.length ∧ xs.length ≤ 8 ∧ mksTo xs.length xs xs.length = true ∧ Rel xs.length (nth xs) := by
  unfold frB at h
  rw [Bool.and_eq_true, Bool.and_eq_true, decide_eq_true_eq] at h
  obtain ⟨⟨h1, h2⟩, h3⟩ := h
  have hb : 0 ≤ n ∧ n ≤ 8 := by simpa [inB] using h1
  subst h2
  have hl : xs.length ≤ 8 := by omega
  refine ⟨rfl, hl, h3, fun i => ?_⟩
  by_cases hi : i < xs.length
  · exact (mksTo_iff (by omega) xs xs.length).1 h3 i hi
  · rw [nth_high (by omega)]; exact InMk.zero _

theorem boxF {w : World} (n : Int) (a : Option Addr) (len cap : Nat) : Below w.heap.size w (w.alloc (.cells #[.int .i64 n, .slice a len cap] 30)) := (Below.refl _ _).alloc (Nat.le_refl _) _

set_option maxHeartbeats 400000 in
theorem l05Is_any (n : Int) (xs : List Int) (a : Option Addr) (len cap : Nat) (w : World) (hl : len ≤ 1048576) (h : At w a len xs) :
    Calls Tryd.prog 33 #[.agg #[.int .i64 n, .slice a len cap]] w fun e w' => e = .returned (.bool (frB n xs)) ∧ Below w.heap.size w w' := by
  have HB := Lib.hid (boxF (w := w) n a len cap)
  have H := Lib.hid (h.keep HB.out (Nat.le_refl _))
  obtain rfl := h.1
  clear h
  cases h1 : inB n 0 8
  · have F := Lib.hid (frB_no1 (xs := xs) h1)
    go_enter Tryd.func33, Tryd.ntmps33
    go_wp2_with (go_at_call 48; refine (l01In_any _ _ _ _).mono ?_; rintro e w' ⟨rfl, rfl⟩)
    go_ret
    exact ⟨ret_bool F.out.symm, HB.out⟩
  · by_cases h2 : (xs.length : Int) = n
    · have hb : 0 ≤ n ∧ n ≤ 8 := by simpa [inB] using h1
      cases h3 : mksTo n xs xs.length
      all_goals
        have F := Lib.hid (frB_eq h1 h2 h3)
        have F1 := Lib.hid h3
        subst h2
        clear h3
        go_enter Tryd.func33, Tryd.ntmps33
        go_wp2_with (first | (go_at_call 48; refine (l01In_any _ _ _ _).mono ?_; rintro e w' ⟨rfl, rfl⟩) | (go_at_call 49; refine (l01Masks_any _ xs _ _ _ _ (by omega) (by omega) hl H.out).mono ?_; rw [F1.out]; rintro e w' ⟨rfl, q, rfl⟩))
        go_ret
        exact ⟨ret_bool F.out.symm, below_drewN HB.out q⟩
    · have F := Lib.hid (frB_no2 h2)
      have h4 : ((xs.length : Int) == n) = false := by simpa using h2
      have h5 : ((xs.length : Int) != n) = true := by simpa using h2
      clear h2
      go_enter Tryd.func33, Tryd.ntmps33
      go_wp2_with (go_at_call 48; refine (l01In_any _ _ _ _).mono ?_; rintro e w' ⟨rfl, rfl⟩)
      go_ret
      exact ⟨ret_bool F.out.symm, HB.out⟩

set_option maxHeartbeats 400000 in
theorem frRel_any (n : Int) (a : Option Addr) (len cap : Nat) (w : World) :
    Calls Tryd.prog 55 #[.agg #[.int .i64 n, .slice a len cap]] w fun e w' => e = .returned (.slice a len cap) ∧ Below w.heap.size w w' := by
  have HB := Lib.hid (boxF (w := w) n a len cap)
  go_enter Tryd.func55, Tryd.ntmps55
  go_wp2
  go_ret
  exact ⟨rfl, HB.out⟩

theorem chk_of {xs : List Int} {b : Bool} (h : xs.length ≤ 8) (h3 : mksTo xs.length xs xs.length = b) : chkI xs xs.length = if b then 0 else 1 := by
  cases b
  · exact chkI_bad (by omega) h3
  · exact chkI_ok (by omega) h3

set_option maxHeartbeats 400000 in
theorem implIsFrame_any (n : Int) (xs : List Int) (a : Option Addr) (len cap : Nat) (w : World) (hl : len ≤ 1048576) (h : At w a len xs) :
    Calls Tryd.prog 40 #[.agg #[.int .i64 n, .slice a len cap]] w fun e w' => e = .returned (.bool (frB n xs)) ∧ Below w.heap.size w w' := by
  have HB := Lib.hid (boxF (w := w) n a len cap)
  have H := Lib.hid (h.keep HB.out (Nat.le_refl _))
  obtain rfl := h.1
  clear h
  by_cases h1 : 0 ≤ n ∧ n ≤ 8
  · have h1' : inB n 0 8 = true := by simpa [inB] using h1
    obtain ⟨h1a, h1b⟩ := h1
    by_cases h2 : (xs.length : Int) = n
    · cases h3 : mksTo n xs xs.length
      all_goals
        have F := Lib.hid (frB_eq h1' h2 h3)
        subst h2
        have F1 := Lib.hid (chk_of (by omega) h3)
        clear h3 h1'
        go_enter Tryd.func40, Tryd.ntmps40
        go_wp2_with fail
        refine (frRel_any _ _ _ _ _).mono ?_
        rintro e w1 ⟨rfl, hb1⟩
        have H1 := Lib.hid (H.out.keep hb1 (Nat.le_refl _))
        have B1 := Lib.hid (HB.out.trans (hb1.mono HB.out.size))
        clear hb1
        go_wp2_with (go_at_call 56; refine (check_any xs _ _ _ _ hl H1.out).mono ?_; rw [F1.out]; rintro e w' ⟨rfl, rfl⟩)
        go_ret
        exact ⟨ret_bool F.out.symm, B1.out⟩
    · have F := Lib.hid (frB_no2 h2)
      have h4 : (n == (xs.length : Int)) = false := by simp; omega
      have h5 : (n != (xs.length : Int)) = true := by simp; omega
      clear h2
      go_enter Tryd.func40, Tryd.ntmps40
      go_wp2
      go_ret
      exact ⟨ret_bool F.out.symm, HB.out⟩
  · have F := Lib.hid (frB_no1 (n := n) (xs := xs) (by simp [inB]; omega))
    by_cases h0 : 0 ≤ n
    all_goals
      go_enter Tryd.func40, Tryd.ntmps40
      go_wp2
      go_ret
      exact ⟨ret_bool F.out.symm, HB.out⟩

/-! A frame and a set of its worlds -/
def cwV (n : Int) (xs : List Int) (m : Int) : Int := if frB n xs then (if mskB n m then 0 else 2) else 1
theorem cw_no {n m : Int} {xs : List Int} (h : frB n xs = false) : cwV n xs m = 1 := by rw [cwV, h]; rfl
theorem cw_of {n m : Int} {xs : List Int} {b : Bool} (h : frB n xs = true) (h2 : mskB n m = b) : cwV n xs m = if b then 0 else 2 := by rw [cwV, h, h2]; rfl
theorem cw_ok {n m : Int} {xs : List Int} (h : cwV n xs m = 0) : n = xs.length ∧ xs.length ≤ 8 ∧ Rel xs.length (nth xs) ∧ InMk xs.length m ∧ mskB xs.length m = true := by
  unfold cwV at h
  cases h1 : frB n xs
  · rw [h1] at h; cases h
  · rw [h1] at h
    obtain ⟨rfl, h2, -, h3⟩ := frB_ok h1
    cases h4 : mskB xs.length m
    · rw [h4] at h; cases h
    · exact ⟨rfl, h2, h3, (mskB_InN (by omega) m).1 h4, rfl⟩

end Go.Proofs.YtnoaaklkbfbdbaaDoor

/- Contracts of the reach of a frame and of GeneratedWorlds, of the model and of the program. Conditions: those in the theorems. -/
namespace Go.Proofs.YtnoaaklkbfbdbaaDoor
open Go.RowKit

theorem bx1 {w w1 : World} {n : Int} {a : Option Addr} {len cap : Nat} (hb : Below (w.alloc (.cells #[.int .i64 n, .slice a len cap] 30)).heap.size (w.alloc (.cells #[.int .i64 n, .slice a len cap] 30)) w1) : Bx w1 w.heap.size n a len cap :=
  (Bx.new w n a len cap 30).keep hb

def gwV (n : Int) (xs : List Int) (m : Int) : Int := if cwV n xs m = 0 then rchV xs m else 0
theorem gw_ok {n m : Int} {xs : List Int} (h : cwV n xs m = 0) : Ending.returned (.tuple #[.int .i64 (rchV xs m), .int .i64 0]) = .returned (.tuple #[.int .i64 (gwV n xs m), .int .i64 (cwV n xs m)]) := by rw [gwV, if_pos h, h]
theorem gw_bad {n m c : Int} {xs : List Int} (h : ¬ cwV n xs m = 0) (hc : c = cwV n xs m) : Ending.returned (.tuple #[.int .i64 0, .int .i64 c]) = .returned (.tuple #[.int .i64 (gwV n xs m), .int .i64 (cwV n xs m)]) := by rw [gwV, if_neg h, hc]

end Go.Proofs.YtnoaaklkbfbdbaaDoor

/- Contracts of what makes a frame from a list: l05Make of the model, frameOf of the program; the copy by slices.Clone; what asks for two frames. Conditions: those in the theorems. -/
namespace Go.Proofs.YtnoaaklkbfbdbaaDoor
open Go.RowKit

/-- The cells of a result that is a frame, before it is stored. -/
def Bz (w : World) (b : Nat) : Prop := b < w.heap.size ∧ w.cell? ⟨b, 0, none⟩ = some (.int .i64 0) ∧ w.cell? ⟨b, 1, none⟩ = some (.slice none 0 0) ∧ w.frozen? ⟨b, 0, none⟩ = false ∧ w.frozen? ⟨b, 1, none⟩ = false
theorem Bz.below {w w' : World} {C b : Nat} (h : Bz w b) (hb : Below C w w') (hC : b < C) : Bz w' b :=
  ⟨Nat.lt_of_lt_of_le h.1 hb.size, (hb.cell (p := ⟨b, 0, none⟩) hC).trans h.2.1, (hb.cell (p := ⟨b, 1, none⟩) hC).trans h.2.2.1, (hb.frozen (p := ⟨b, 0, none⟩) hC).trans h.2.2.2.1, (hb.frozen (p := ⟨b, 1, none⟩) hC).trans h.2.2.2.2⟩
theorem Bz.keep {w w' : World} {b : Nat} (h : Bz w b) (hb : Below w.heap.size w w') : Bz w' b := h.below hb h.1
theorem Bz.new (w : World) : Bz (w.alloc (.cells #[.int .i64 0, .slice none 0 0] 30)) w.heap.size := ⟨by simp, World.cell?_alloc_at _ _ _ _ rfl, World.cell?_alloc_at _ _ _ _ rfl, by simp, by simp⟩
theorem OwnF.out2 {w : World} {B R o o' : Nat} {v z z' : Value} {n : Int} {xs : List Int} (h : OwnF w B v n xs) (hR : R < B) : OwnF ((w.setCell ⟨R, o, none⟩ z).setCell ⟨R, o', none⟩ z') B v n xs :=
  ⟨h.1, ((h.2.inn.setOut (.inl hR)).setOut (.inl hR)).1⟩

/-! A result box that may be made early, in a region that draws its order -/
def Zo (w W : World) (b : Option Nat) : Prop := ∀ k, b = some k → Bz w k ∧ W.heap.size ≤ k
theorem Zo.no (w W : World) : Zo w W none := fun k h => by cases h
theorem Zo.keep {w w' W : World} {b : Option Nat} (h : Zo w W b) (hb : Below w.heap.size w w') : Zo w' W b := fun k e => ⟨(h k e).1.keep hb, (h k e).2⟩
theorem Zo.new {w w' W : World} (hW : W.heap.size ≤ w.heap.size) (hb : Below (w.alloc (.cells #[.int .i64 0, .slice none 0 0] 30)).heap.size (w.alloc (.cells #[.int .i64 0, .slice none 0 0] 30)) w') : Zo w' W (some w.heap.size) := fun k e => by
  cases e
  exact ⟨(Bz.new w).keep hb, hW⟩
theorem below_al {C : Nat} {w w' : World} {o : Obj} (hC : C ≤ w.heap.size) (h : Below (w.alloc o).heap.size (w.alloc o) w') : Below C w w' := ((Below.refl C w).alloc hC o).trans (h.mono (by simp; omega))
theorem two_set {w : World} {k b o : Nat} {u v v' : Value} (h : w.cell? ⟨b, o, none⟩ = some u) (hk : b ≠ k) : ((w.setCell ⟨k, 0, none⟩ v).setCell ⟨k, 1, none⟩ v').cell? ⟨b, o, none⟩ = some u := by
  rw [World.cell?_setCell_other _ _ _ _ (fun e => hk (by cases e; rfl)), World.cell?_setCell_other _ _ _ _ (fun e => hk (by cases e; rfl))]; exact h
/-- What the region leaves: the result in a box, and its list owned. -/
def Pr (W w : World) (b lo hi : Nat) (n : Int) (a : Option Addr) (len c : Nat) (xs : List Int) : Prop := Below W.heap.size W w ∧ Bx w b n a len c ∧ InF w lo hi (.agg #[.int .i64 n, .slice a len c]) n xs
theorem Pr.late {W wB wC : World} {n : Int} {a : Option Addr} {len c : Nat} {xs : List Int} (hW : W.heap.size ≤ wC.heap.size) (t : Below W.heap.size W wC) (ho : InF wC wB.heap.size wC.heap.size (.agg #[.int .i64 n, .slice a len c]) n xs) :
    Pr W (wC.alloc (.cells #[.int .i64 n, .slice a len c] 30)) wC.heap.size wB.heap.size wC.heap.size n a len c xs :=
  ⟨t.alloc hW _, Bx.new _ _ _ _ _ _, ho.below (alloc_keep _ _).1 (Nat.le_refl _)⟩
theorem cell_set (w : World) (b o : Nat) {u : Value} (v : Value) (h : w.cell? ⟨b, o, none⟩ = some u) : (w.setCell ⟨b, o, none⟩ v).cell? ⟨b, o, none⟩ = some v := World.cell?_setCell_same _ _ _ h
theorem cell_set' (w : World) (b o o' : Nat) (v : Value) (h : o ≠ o') : (w.setCell ⟨b, o, none⟩ v).cell? ⟨b, o', none⟩ = w.cell? ⟨b, o', none⟩ := World.cell?_setCell_other _ _ _ _ (fun e => h (by cases e; rfl))
theorem Pr.early {W wC : World} {n : Int} {a : Option Addr} {len c k lo : Nat} {xs : List Int} (hk : W.heap.size ≤ k) (hkl : k < lo) (t : Below W.heap.size W wC) (z : Bz wC k) (ho : InF wC lo wC.heap.size (.agg #[.int .i64 n, .slice a len c]) n xs) :
    Pr W ((wC.setCell ⟨k, 0, none⟩ (.int .i64 n)).setCell ⟨k, 1, none⟩ (.slice a len c)) k lo wC.heap.size n a len c xs := by
  obtain ⟨z1, z2, z3, -, -⟩ := z
  have e3 : (wC.setCell ⟨k, 0, none⟩ (.int .i64 n)).cell? ⟨k, 1, none⟩ = some (.slice none 0 0) := by rw [cell_set' _ _ _ _ _ (by decide)]; exact z3
  refine ⟨(t.setCell (by exact hk) _).setCell (by exact hk) _, ⟨by simpa [World.setCell] using z1, ?_, cell_set _ _ _ _ e3⟩, rfl, ?_, ho.2.2⟩
  · rw [cell_set' _ _ _ _ _ (by decide)]; exact cell_set _ _ _ _ z2
  · exact (ho.2.1.setOut (.inl hkl)).setOut (.inl hkl)

end Go.Proofs.YtnoaaklkbfbdbaaDoor

/- Models by value (a frame and a list of masks): told by values, and the contracts of size, copy, compare, mark and held over them. Conditions: those in the theorems. -/
namespace Go.Proofs.YtnoaaklkbfbdbaaDoor
open Go.RowKit

/-- The slices that a model's value holds. -/
def mlF : Value → Value
  | .agg cs => cs.getD 1 (.slice none 0 0)
  | v => v
def mlV : Value → Value
  | .agg cs => cs.getD 2 (.slice none 0 0)
  | v => v
def InM (w : World) (lo hi : Nat) (v : Value) (n : Int) (xs ys : List Int) : Prop := v = .agg #[.int .i64 n, mlF v, mlV v] ∧ OwnIn w lo hi (mlF v) xs ∧ OwnIn w lo hi (mlV v) ys ∧ lo ≤ hi ∧ ∀ k, (mlF v).ownBlock = some k → ¬ (mlV v).ownBlock = some k
def OwnM (w : World) (B : Nat) (v : Value) (n : Int) (xs ys : List Int) : Prop := v = .agg #[.int .i64 n, mlF v, mlV v] ∧ Own w B (mlF v) xs ∧ Own w B (mlV v) ys ∧ ∀ k, (mlF v).ownBlock = some k → ¬ (mlV v).ownBlock = some k
def IsMod (w : World) (a : Option Addr) (len : Nat) (xs : List Int) (b : Option Addr) (m : Nat) (ys : List Int) : Prop := (At w a len xs ∧ len ≤ maxLen) ∧ (At w b m ys ∧ m ≤ maxLen)
theorem OwnM.inM {w : World} {B : Nat} {v : Value} {n : Int} {xs ys : List Int} (h : OwnM w B v n xs ys) (hB : B ≤ w.heap.size) : InM w B w.heap.size v n xs ys := ⟨h.1, h.2.1.inn, h.2.2.1.inn, hB, h.2.2.2⟩
theorem OwnM.mono {w : World} {B B' : Nat} {v : Value} {n : Int} {xs ys : List Int} (h : OwnM w B v n xs ys) (hB : B' ≤ B) : OwnM w B' v n xs ys := ⟨h.1, h.2.1.mono hB, h.2.2.1.mono hB, h.2.2.2⟩
theorem InM.hi {w : World} {lo hi : Nat} {v : Value} {n : Int} {xs ys : List Int} (h : InM w lo hi v n xs ys) : hi ≤ w.heap.size := h.2.1.2.1
theorem InM.below {w w' : World} {lo hi C : Nat} {v : Value} {n : Int} {xs ys : List Int} (h : InM w lo hi v n xs ys) (hb : Below C w w') (hC : hi ≤ C) : InM w' lo hi v n xs ys := ⟨h.1, h.2.1.below hb hC, h.2.2.1.below hb hC, h.2.2.2⟩
theorem OwnM.form {w : World} {B : Nat} {v : Value} {n : Int} {xs ys : List Int} (h : OwnM w B v n xs ys) : ∃ a cap b d, v = .agg #[.int .i64 n, .slice a xs.length cap, .slice b ys.length d] := by
  obtain ⟨a, cap, e, -⟩ := h.2.1.at
  obtain ⟨b, d, e', -⟩ := h.2.2.1.at
  exact ⟨a, cap, b, d, by rw [h.1, e, e']⟩
theorem InM.at {w : World} {lo hi : Nat} {v : Value} {n : Int} {xs ys : List Int} (h : InM w lo hi v n xs ys) : ∃ a cap b d, v = .agg #[.int .i64 n, .slice a xs.length cap, .slice b ys.length d] ∧ At w a xs.length xs ∧ At w b ys.length ys ∧ (a = none → cap = 0) ∧ (b = none → d = 0) := by
  obtain ⟨a, cap, e, hat, -, hn, -⟩ := h.2.1.1.at
  obtain ⟨b, d, e', hat', -, hn', -⟩ := h.2.2.1.1.at
  exact ⟨a, cap, b, d, by rw [h.1, e, e'], hat, hat', hn, hn'⟩
theorem OwnIn.mono' {w : World} {lo lo' hi : Nat} {v : Value} {xs : List Int} (h : OwnIn w lo hi v xs) (hl : lo' ≤ lo) : OwnIn w lo' hi v xs := ⟨Own.mono (w := w) h.1 hl, h.2.1, fun k hk => ⟨Nat.le_trans hl (h.2.2 k hk).1, (h.2.2 k hk).2⟩⟩
theorem OwnM.two {w : World} {B C : Nat} {n : Int} {u u' : Value} {xs ys : List Int} (h : OwnIn w B C u xs) (h' : Own w C u' ys) (hB : B ≤ C) : OwnM w B (.agg #[.int .i64 n, u, u']) n xs ys := by
  refine ⟨rfl, h.1, h'.mono hB, fun k hk hk' => ?_⟩
  have h1 := h.blk k hk
  have h2 := h'.inn.blk k hk'
  omega
theorem OwnM.two' {w : World} {B C : Nat} {n : Int} {u u' : Value} {xs ys : List Int} (h : Own w C u xs) (h' : OwnIn w B C u' ys) (hB : B ≤ C) : OwnM w B (.agg #[.int .i64 n, u, u']) n xs ys := by
  refine ⟨rfl, h.mono hB, h'.1, fun k hk hk' => ?_⟩
  have h1 := h'.blk k hk'
  have h2 := h.inn.blk k hk
  omega
theorem OwnIn.upto {w : World} {B : Nat} {v : Value} {xs : List Int} (h : Own w B v xs) : OwnIn w B w.heap.size v xs := h.inn

/-- Two blocks have turned, both in a range. -/
def Gb (w w' : World) (lo hi : Nat) : Prop := ∃ wm b1 b2, w.grownBy wm b1 ∧ wm.grownBy w' b2 ∧ (∀ k, b1 = some k → lo ≤ k ∧ k < hi) ∧ (∀ k, b2 = some k → lo ≤ k ∧ k < hi)
theorem OwnIn.othG {w w' : World} {lo hi lo' hi' : Nat} {v : Value} {xs : List Int} (h : OwnIn w lo hi v xs) (g : Gb w w' lo' hi') (hd : hi ≤ lo' ∨ hi' ≤ lo) : OwnIn w' lo hi v xs := by
  obtain ⟨wm, b1, b2, g1, g2, u1, u2⟩ := g
  exact (h.oth u1 g1 hd).oth u2 g2 hd
theorem InM.othG {w w' : World} {lo hi lo' hi' : Nat} {v : Value} {n : Int} {xs ys : List Int} (h : InM w lo hi v n xs ys) (g : Gb w w' lo' hi') (hd : hi ≤ lo' ∨ hi' ≤ lo) : InM w' lo hi v n xs ys := ⟨h.1, h.2.1.othG g hd, h.2.2.1.othG g hd, h.2.2.2⟩

/-- A model lies in the block b. -/
def Bm (w : World) (b : Nat) (n : Int) (a : Option Addr) (len cap : Nat) (c : Option Addr) (m d : Nat) : Prop := b < w.heap.size ∧ w.cell? ⟨b, 0, none⟩ = some (.int .i64 n) ∧ w.cell? ⟨b, 1, none⟩ = some (.slice a len cap) ∧ w.cell? ⟨b, 2, none⟩ = some (.slice c m d)
theorem Bm.below {w w' : World} {C b : Nat} {n : Int} {a : Option Addr} {len cap : Nat} {c : Option Addr} {m d : Nat} (h : Bm w b n a len cap c m d) (hb : Below C w w') (hC : b < C) : Bm w' b n a len cap c m d :=
  ⟨Nat.lt_of_lt_of_le h.1 hb.size, (hb.cell (p := ⟨b, 0, none⟩) hC).trans h.2.1, (hb.cell (p := ⟨b, 1, none⟩) hC).trans h.2.2.1, (hb.cell (p := ⟨b, 2, none⟩) hC).trans h.2.2.2⟩
theorem Bm.keep {w w' : World} {b : Nat} {n : Int} {a : Option Addr} {len cap : Nat} {c : Option Addr} {m d : Nat} (h : Bm w b n a len cap c m d) (hb : Below w.heap.size w w') : Bm w' b n a len cap c m d := h.below hb h.1
theorem Bm.oth {w w' : World} {b lo' hi' : Nat} {r : Option Nat} {n : Int} {a : Option Addr} {len cap : Nat} {c : Option Addr} {m d : Nat} (h : Bm w b n a len cap c m d) (hu : ∀ k, r = some k → lo' ≤ k ∧ k < hi') (hg : w.grownBy w' r) (hd : b < lo' ∨ hi' ≤ b) : Bm w' b n a len cap c m d :=
  have hne : some b ≠ r := fun e => by have := hu b e.symm; omega
  ⟨Nat.lt_of_lt_of_le h.1 hg.size, hg.cell h.2.1 hne, hg.cell h.2.2.1 hne, hg.cell h.2.2.2 hne⟩
theorem Bm.othG {w w' : World} {b lo' hi' : Nat} {n : Int} {a : Option Addr} {len cap : Nat} {c : Option Addr} {m d : Nat} (h : Bm w b n a len cap c m d) (g : Gb w w' lo' hi') (hd : b < lo' ∨ hi' ≤ b) : Bm w' b n a len cap c m d := by
  obtain ⟨wm, b1, b2, g1, g2, u1, u2⟩ := g
  exact (h.oth u1 g1 hd).oth u2 g2 hd
theorem Bm.new (w : World) (n : Int) (a : Option Addr) (len cap : Nat) (c : Option Addr) (m d : Nat) (T : TypeId) : Bm (w.alloc (.cells #[.int .i64 n, .slice a len cap, .slice c m d] T)) w.heap.size n a len cap c m d := ⟨by simp, World.cell?_alloc_at _ _ _ _ rfl, World.cell?_alloc_at _ _ _ _ rfl, World.cell?_alloc_at _ _ _ _ rfl⟩
theorem boxM {w : World} (n : Int) (a : Option Addr) (len cap : Nat) (c : Option Addr) (m d : Nat) (T : TypeId) : ∃ W : World, W = w.alloc (.cells #[.int .i64 n, .slice a len cap, .slice c m d] T) ∧ Below w.heap.size w W ∧ Bm W w.heap.size n a len cap c m d ∧ W.heap.size = w.heap.size + 1 :=
  ⟨_, rfl, (alloc_keep _ _).1, Bm.new _ _ _ _ _ _ _ _ _, by simp⟩

def szM (left : Int) (l m : Nat) : Int := if left < l then -1 else szG (left - l) m
theorem szM_no {left : Int} {l m : Nat} (h : left < l) : szM left l m = -1 := if_pos h
theorem szM_go {left : Int} {l m : Nat} (h : ¬ left < l) : szM left l m = szG (left - l) m := if_neg h
theorem szM_or (left : Int) (l m : Nat) : szM left l m = -1 ∨ ((l : Int) + m ≤ left ∧ szM left l m = left - l - m) := by
  by_cases h : left < l
  · exact .inl (szM_no h)
  · rw [szM_go h]
    by_cases h2 : left - l < m
    · exact .inl (szG_no h2)
    · exact .inr ⟨by omega, szG_yes h2⟩

theorem frz_new (w : World) (cs : Array Value) (T : TypeId) (o : Nat) : (w.alloc (.cells cs T)).frozen? ⟨w.heap.size, o, none⟩ = false := by simp
theorem OwnIn.oth2 {w w' : World} {lo hi : Nat} {v u : Value} {xs : List Int} (h : OwnIn w lo hi v xs) (hg : w.grownBy w' u.ownBlock) (ne : ∀ k, u.ownBlock = some k → ¬ v.ownBlock = some k) : OwnIn w' lo hi v xs := by
  refine ⟨World.ownsRow.kept h.1 hg ?_, Nat.le_trans h.2.1 hg.size, h.2.2⟩
  cases hv : v.ownBlock with
  | none => exact .inl rfl
  | some k => right; intro e; exact ne k e.symm hv

end Go.Proofs.YtnoaaklkbfbdbaaDoor

/- Contracts of what asks whether a model is one, of the model and of the program. Conditions: those in the theorems. -/
namespace Go.Proofs.YtnoaaklkbfbdbaaDoor
open Go.RowKit

def isM (n : Int) (xs ys : List Int) : Bool := frB n xs && decide ((ys.length : Int) = 6) && mksTo n ys ys.length
theorem isM_no1 {n : Int} {xs ys : List Int} (h : frB n xs = false) : isM n xs ys = false := by rw [isM, h]; rfl
theorem isM_no2 {n : Int} {xs ys : List Int} (h : ¬ (ys.length : Int) = 6) : isM n xs ys = false := by rw [isM, decide_eq_false h, Bool.and_false]; rfl
theorem isM_eq {n : Int} {xs ys : List Int} {b : Bool} (h1 : frB n xs = true) (h2 : (ys.length : Int) = 6) (h3 : mksTo n ys ys.length = b) : isM n xs ys = b := by rw [isM, h1, decide_eq_true h2, h3]; rfl
theorem isM_ok {n : Int} {xs ys : List Int} (h : isM n xs ys = true) : frB n xs = true ∧ n = xs.length ∧ xs.length ≤ 8 ∧ mksTo xs.length xs xs.length = true ∧ ys.length = 6 ∧ mksTo xs.length ys ys.length = true := by
  unfold isM at h
  rw [Bool.and_eq_true, Bool.and_eq_true, decide_eq_true_eq] at h
  obtain ⟨⟨h1, h2⟩, h3⟩ := h
  obtain ⟨h4, h5, h6, -⟩ := frB_ok h1
  exact ⟨h1, h4, h5, h6, by omega, by rw [← h4]; exact h3⟩

theorem mks_no {n : Int} {xs : List Int} {k l : Nat} (hk : k < l) (h : mskB n (nth xs k) = false) : mksTo n xs l = false := by
  induction l with
  | zero => omega
  | succ l ih =>
    rw [mksTo]
    by_cases e : k = l
    · subst e; rw [h, Bool.and_false]
    · rw [ih (by omega)]; rfl

end Go.Proofs.YtnoaaklkbfbdbaaDoor
