/- 3 texts in one: Pm, Sm, SmI. -/
import Derived.Test.YthopleeehbkjaaaJn13
import Derived.Test.YthopleeehbkjaaaTrV
import Derived.Test.YthopleeehbkjaaaJn11
import Derived.Test.YthopleeehbkjaaaSum
import Derived.Test.YthopleeehbkjaaaJn17
/- Contracts of PartOfModel of the model and of the program, at every argument. Conditions: those in the theorems. -/
namespace Go.Proofs.Ythopleeehbkjaaa
open Go.RowKit

def RM (w : World) (B : Nat) (n c : Int) (xs ys : List Int) (e : Ending) : Prop := ∃ v, e = .returned (.tuple #[v, .int .i64 c]) ∧ OwnM w B v n xs ys
theorem ownM_nil (w : World) (B : Nat) : OwnM w B (.agg #[.int .i64 0, .slice none 0 0, .slice none 0 0]) 0 [] [] := ⟨rfl, World.ownsRow_nil _ _ _ _, World.ownsRow_nil _ _ _ _, fun k h => by cases h⟩
theorem RM.bad {w : World} {B : Nat} {c c' n : Int} {xs ys : List Int} (h : c = c') (hn : n = 0) (hx : xs = []) (hy : ys = []) : RM w B n c' xs ys (.returned (.tuple #[.agg #[.int .i64 0, .slice none 0 0, .slice none 0 0], .int .i64 c])) := by
  subst h hn hx hy
  exact ⟨_, rfl, ownM_nil _ _⟩
theorem RM.good {w : World} {B B' : Nat} {c n n' : Int} {v : Value} {xs xs' ys ys' : List Int} (h : c = 0) (hn : n = n') (hx : xs = xs') (hy : ys = ys') (ho : OwnM w B' v n' xs' ys') (hB : B ≤ B') : RM w B n c xs ys (.returned (.tuple #[v, .int .i64 0])) := by
  subst h hn hx hy
  exact ⟨_, rfl, ho.mono hB⟩

def pmC (n : Int) (xs ys : List Int) (m : Int) : Int := if isM n xs ys then (if mskB n m then 0 else 2) else 1
def pmL (n : Int) (xs ys : List Int) (m : Int) : List Int := if pmC n xs ys m = 0 then arV xs (memTo m.toNat xs.length) else []
def pmV (n : Int) (xs ys : List Int) (m : Int) : List Int := if pmC n xs ys m = 0 then mvV ys (memTo m.toNat xs.length) else []
theorem pmC_1 {n m : Int} {xs ys : List Int} (h : isM n xs ys = false) : pmC n xs ys m = 1 := by rw [pmC, h]; rfl
theorem pmC_2 {n m : Int} {xs ys : List Int} (h : isM n xs ys = true) (h2 : mskB n m = false) : pmC n xs ys m = 2 := by rw [pmC, h, h2]; rfl
theorem pmC_0 {n m : Int} {xs ys : List Int} (h : isM n xs ys = true) (h2 : mskB n m = true) : pmC n xs ys m = 0 := by rw [pmC, h, h2]; rfl
theorem pm_bad {n m : Int} {xs ys : List Int} {c : Int} (h : pmC n xs ys m = c) (hc : ¬ c = 0) : pmL n xs ys m = [] ∧ pmV n xs ys m = [] := by
  rw [pmL, pmV, h, if_neg hc, if_neg hc]; exact ⟨rfl, rfl⟩
theorem pm_ok {n m : Int} {xs ys : List Int} (h : pmC n xs ys m = 0) : pmL n xs ys m = arV xs (memTo m.toNat xs.length) ∧ pmV n xs ys m = mvV ys (memTo m.toNat xs.length) := ⟨if_pos h, if_pos h⟩
theorem PartOfModel_len (n : Int) (xs ys : List Int) (m : Int) : (pmL n xs ys m).length ≤ 1048576 ∧ (pmV n xs ys m).length ≤ 1048576 := by
  by_cases h : pmC n xs ys m = 0
  · obtain ⟨e1, e2⟩ := pm_ok h
    rw [e1, e2]
    cases h1 : isM n xs ys
    · rw [pmC_1 h1] at h; cases h
    · obtain ⟨-, -, h8, -, h6, -⟩ := isM_ok h1
      have := memTo_len m.toNat xs.length
      rw [arV, tab_len, mvV_len]
      omega
  · obtain ⟨e1, e2⟩ := pm_bad rfl h
    rw [e1, e2]
    simp

end Go.Proofs.Ythopleeehbkjaaa

/- Contracts of SumModels of the model and of the program, at every argument. Conditions: those in the theorems. -/
namespace Go.Proofs.Ythopleeehbkjaaa
open Go.RowKit

theorem boxMM (w : World) (n0 : Int) (a0 : Option Addr) (l0 c0 : Nat) (b0 : Option Addr) (m0 d0 : Nat) (n1 : Int) (a1 : Option Addr) (l1 c1 : Nat) (b1 : Option Addr) (m1 d1 : Nat) : ∃ W : World, W = ((w.alloc (.cells #[.int .i64 n0, .slice a0 l0 c0, .slice b0 m0 d0] 32)).alloc (.cells #[.int .i64 n1, .slice a1 l1 c1, .slice b1 m1 d1] 32)).alloc (.cells #[.int .i64 0, .slice none 0 0, .slice none 0 0] 32) ∧
    Hid (Below w.heap.size w W) ∧ Hid (Bm W w.heap.size n0 a0 l0 c0 b0 m0 d0) ∧ Hid (Bm W (w.heap.size + 1) n1 a1 l1 c1 b1 m1 d1) ∧ Hid (BzM W (w.heap.size + 1 + 1)) ∧ W.heap.size = w.heap.size + 1 + 1 + 1 := by
  refine ⟨_, rfl, Lib.hid ((((Below.refl w.heap.size w).alloc (Nat.le_refl _) _).alloc (by simp) _).alloc (by simp; omega) _), Lib.hid (((Bm.new w n0 a0 l0 c0 b0 m0 d0 _).keep (alloc_keep _ _).1).keep (alloc_keep _ _).1), ?_, ?_, by simp⟩
  · have := (Bm.new (w.alloc (.cells #[.int .i64 n0, .slice a0 l0 c0, .slice b0 m0 d0] 32)) n1 a1 l1 c1 b1 m1 d1 32).keep (alloc_keep _ (.cells #[.int .i64 0, .slice none 0 0, .slice none 0 0] 32)).1
    exact Lib.hid (by simpa using this)
  · have := BzM.new ((w.alloc (.cells #[.int .i64 n0, .slice a0 l0 c0, .slice b0 m0 d0] 32)).alloc (.cells #[.int .i64 n1, .slice a1 l1 c1, .slice b1 m1 d1] 32))
    exact Lib.hid (by simpa using this)

def smF (n : Int) (ys zs : List Int) (t : Nat) : Int := bits .or .i64 (nth ys t) (wrap64 (nth zs t * 2 ^ n.toNat))
def sdC (n0 : Int) (xs0 ys0 : List Int) (n1 : Int) (xs1 ys1 : List Int) : Int := if isM n0 xs0 ys0 && isM n1 xs1 ys1 then (if 8 < n0 + n1 then 3 else 0) else 1
def sdL (n0 : Int) (xs0 ys0 : List Int) (n1 : Int) (xs1 ys1 : List Int) : List Int := if sdC n0 xs0 ys0 n1 xs1 ys1 = 0 then smTo xs0 xs1 n0 xs1.length else []
def sdV (n0 : Int) (xs0 ys0 : List Int) (n1 : Int) (xs1 ys1 : List Int) : List Int := if sdC n0 xs0 ys0 n1 xs1 ys1 = 0 then tab ys0.length (smF n0 ys0 ys1) else []
theorem sdC_1 {n0 n1 : Int} {xs0 ys0 xs1 ys1 : List Int} (h : (isM n0 xs0 ys0 && isM n1 xs1 ys1) = false) : sdC n0 xs0 ys0 n1 xs1 ys1 = 1 := by rw [sdC, h]; rfl
theorem sdC_3 {n0 n1 : Int} {xs0 ys0 xs1 ys1 : List Int} (h : (isM n0 xs0 ys0 && isM n1 xs1 ys1) = true) (h2 : 8 < n0 + n1) : sdC n0 xs0 ys0 n1 xs1 ys1 = 3 := by rw [sdC, h, if_pos rfl, if_pos h2]
theorem sdC_0 {n0 n1 : Int} {xs0 ys0 xs1 ys1 : List Int} (h : (isM n0 xs0 ys0 && isM n1 xs1 ys1) = true) (h2 : ¬ 8 < n0 + n1) : sdC n0 xs0 ys0 n1 xs1 ys1 = 0 := by rw [sdC, h, if_pos rfl, if_neg h2]
theorem sd_bad {n0 n1 c : Int} {xs0 ys0 xs1 ys1 : List Int} (h : sdC n0 xs0 ys0 n1 xs1 ys1 = c) (hc : ¬ c = 0) : sdL n0 xs0 ys0 n1 xs1 ys1 = [] ∧ sdV n0 xs0 ys0 n1 xs1 ys1 = [] := by
  rw [sdL, sdV, h, if_neg hc, if_neg hc]; exact ⟨rfl, rfl⟩
theorem sd_ok {n0 n1 : Int} {xs0 ys0 xs1 ys1 : List Int} (h : sdC n0 xs0 ys0 n1 xs1 ys1 = 0) : sdL n0 xs0 ys0 n1 xs1 ys1 = smTo xs0 xs1 n0 xs1.length ∧ sdV n0 xs0 ys0 n1 xs1 ys1 = tab ys0.length (smF n0 ys0 ys1) := ⟨if_pos h, if_pos h⟩
theorem SumModels_len (n0 : Int) (xs0 ys0 : List Int) (n1 : Int) (xs1 ys1 : List Int) : (sdL n0 xs0 ys0 n1 xs1 ys1).length ≤ 1048576 ∧ (sdV n0 xs0 ys0 n1 xs1 ys1).length ≤ 1048576 := by
  by_cases h : sdC n0 xs0 ys0 n1 xs1 ys1 = 0
  · obtain ⟨e1, e2⟩ := sd_ok h
    rw [e1, e2]
    cases hb : (isM n0 xs0 ys0 && isM n1 xs1 ys1)
    · rw [sdC_1 hb] at h; cases h
    · rw [Bool.and_eq_true] at hb
      obtain ⟨-, -, h8, -, h6, -⟩ := isM_ok hb.1
      obtain ⟨-, -, h8', -, -, -⟩ := isM_ok hb.2
      rw [smTo_len, tab_len]
      omega
  · obtain ⟨e1, e2⟩ := sd_bad rfl h
    rw [e1, e2]
    simp
theorem OwnIn.upg {w : World} {lo hi hi' : Nat} {v : Value} {xs : List Int} (h : OwnIn w lo hi v xs) (hh : hi ≤ hi' ∧ hi' ≤ w.heap.size) : OwnIn w lo hi' v xs := ⟨h.1, hh.2, fun k hk => ⟨(h.2.2 k hk).1, Nat.lt_of_lt_of_le (h.2.2 k hk).2 hh.1⟩⟩
theorem shl_spell' {n : Int} (h0 : 0 ≤ n) (h1 : n ≤ 8) (y : Int) : IntKind.i64.wrap (y * 2 ^ min n.toNat 64) = wrap64 (y * 2 ^ n.toNat) := by
  rw [Nat.min_eq_left (by omega)]
  unfold wrap64
  exact IntKind.wrap_i64 _

set_option maxHeartbeats 4000000 in
set_option maxRecDepth 100000 in
theorem specSumModels_any (n0 n1 : Int) (xs0 ys0 xs1 ys1 : List Int) (a0 : Option Addr) (c0 : Nat) (b0 : Option Addr) (d0 : Nat) (a1 : Option Addr) (c1 : Nat) (b1 : Option Addr) (d1 : Nat) (w : World) (hl0 : xs0.length ≤ 1048576) (hm0 : ys0.length ≤ 1048576) (hl1 : xs1.length ≤ 1048576) (hm1 : ys1.length ≤ 1048576) (h0 : At w a0 xs0.length xs0) (h0' : At w b0 ys0.length ys0) (h1 : At w a1 xs1.length xs1) (h1' : At w b1 ys1.length ys1) (hc0 : a0 = none → c0 = 0) :
    Calls Try.prog 37 #[.agg #[.int .i64 n0, .slice a0 xs0.length c0, .slice b0 ys0.length d0], .agg #[.int .i64 n1, .slice a1 xs1.length c1, .slice b1 ys1.length d1]] w fun e w' => RM w' w.heap.size (sdL n0 xs0 ys0 n1 xs1 ys1).length (sdC n0 xs0 ys0 n1 xs1 ys1) (sdL n0 xs0 ys0 n1 xs1 ys1) (sdV n0 xs0 ys0 n1 xs1 ys1) e ∧ Below w.heap.size w w' := by
  obtain ⟨W, hW, HB, X0, X1, Z, hWs⟩ := boxMM w n0 a0 xs0.length c0 b0 ys0.length d0 n1 a1 xs1.length c1 b1 ys1.length d1
  have H0 := Lib.hid (h0.keep HB.out (Nat.le_refl _))
  have H0' := Lib.hid (h0'.keep HB.out (Nat.le_refl _))
  have H1 := Lib.hid (h1.keep HB.out (Nat.le_refl _))
  have H1' := Lib.hid (h1'.keep HB.out (Nat.le_refl _))
  have N0 := Lib.hid hc0
  have hz0 : w.heap.size + 1 + 1 + 1 ≤ W.heap.size := by omega
  have HW := Lib.hid hW
  clear h0 h0' h1 h1' hW hc0
  cases hf0 : isM n0 xs0 ys0
  · have F0 := Lib.hid hf0
    have C := Lib.hid (sdC_1 (show (isM n0 xs0 ys0 && isM n1 xs1 ys1) = false by rw [hf0]; rfl))
    have L := Lib.hid (sd_bad C.out (by decide))
    clear hf0
    go_enter Try.func37, Try.ntmps37
    go_wp2_with fail
    rw [← HW.out]
    refine (l06Is_any n0 xs0 ys0 _ _ _ _ _ _ _ hl0 hm0 H0.out H0'.out).mono ?_
    rw [F0.out]
    rintro e w1 ⟨rfl, hb⟩
    have T1 := Lib.hid hb
    clear hb
    have B1 := Lib.hid (HB.out.trans (T1.out.mono HB.out.size))
    obtain ⟨lt2, z0, z1, z2, z3, z4, z5⟩ := (Z.out.keep T1.out).all
    go_wp2
    exact bodyPost_ret (v := .tuple #[.agg #[.int .i64 0, .slice none 0 0, .slice none 0 0], .int .i64 1]) (by simp [results, Try.results37, go_sem, z0, z1, z2]) rfl ⟨RM.bad C.out.symm (by rw [L.out.1]; rfl) L.out.1 L.out.2, ((B1.out.setCell (by show _ ≤ _; simp; omega) _).setCell (by show _ ≤ _; simp; omega) _).setCell (by show _ ≤ _; simp; omega) _⟩
  · obtain ⟨e1, e2, -⟩ := isM_rel hf0
    have hn0 : 0 ≤ n0 := by omega
    have hn8 : n0 ≤ 8 := by omega
    have hl08 : xs0.length ≤ 8 := e2
    have hy0 : ys0.length ≤ 30 := by obtain ⟨-, -, -, -, h6, -⟩ := isM_ok hf0; omega
    have F0 := Lib.hid hf0
    cases hf1 : isM n1 xs1 ys1
    · have F1 := Lib.hid hf1
      have C := Lib.hid (sdC_1 (show (isM n0 xs0 ys0 && isM n1 xs1 ys1) = false by rw [hf0, hf1]; rfl))
      have L := Lib.hid (sd_bad C.out (by decide))
      clear hf0 hf1 e1 e2
      go_enter Try.func37, Try.ntmps37
      go_wp2_with fail
      rw [← HW.out]
      refine (l06Is_any n0 xs0 ys0 _ _ _ _ _ _ _ hl0 hm0 H0.out H0'.out).mono ?_
      rw [F0.out]
      rintro e w1 ⟨rfl, hb⟩
      have T1 := Lib.hid hb
      obtain ⟨lt, x0, x1, x2⟩ := X1.out.keep hb
      have Q1 := Lib.hid (H1.out.keep hb (Nat.le_refl _))
      have Q1' := Lib.hid (H1'.out.keep hb (Nat.le_refl _))
      clear hb
      go_wp2_with fail
      clear x0 x1 x2
      refine (l06Is_any n1 xs1 ys1 _ _ _ _ _ _ _ hl1 hm1 Q1.out Q1'.out).mono ?_
      rw [F1.out]
      rintro e w2 ⟨rfl, hb⟩
      have T2 := Lib.hid (T1.out.trans (hb.mono T1.out.size))
      clear hb
      have B2 := Lib.hid (HB.out.trans (T2.out.mono HB.out.size))
      obtain ⟨lt2, z0, z1, z2, z3, z4, z5⟩ := (Z.out.keep T2.out).all
      go_wp2
      exact bodyPost_ret (v := .tuple #[.agg #[.int .i64 0, .slice none 0 0, .slice none 0 0], .int .i64 1]) (by simp [results, Try.results37, go_sem, z0, z1, z2]) rfl ⟨RM.bad C.out.symm (by rw [L.out.1]; rfl) L.out.1 L.out.2, ((B2.out.setCell (by show _ ≤ _; simp; omega) _).setCell (by show _ ≤ _; simp; omega) _).setCell (by show _ ≤ _; simp; omega) _⟩
    · obtain ⟨e3, e4, -⟩ := isM_rel hf1
      have hn10 : 0 ≤ n1 := by omega
      have hn18 : n1 ≤ 8 := by omega
      have hl18 : xs1.length ≤ 8 := e4
      have HYY := Lib.hid (show ys1.length = ys0.length by obtain ⟨-, -, -, -, h6, -⟩ := isM_ok hf0; obtain ⟨-, -, -, -, h6', -⟩ := isM_ok hf1; omega)
      have F1 := Lib.hid hf1
      have FF := Lib.hid (show frB n0 xs0 = true ∧ frB n1 xs1 = true from ⟨(isM_ok hf0).1, (isM_ok hf1).1⟩)
      by_cases h8 : 8 < n0 + n1
      · have C := Lib.hid (sdC_3 (show (isM n0 xs0 ys0 && isM n1 xs1 ys1) = true by rw [hf0, hf1]; rfl) h8)
        have L := Lib.hid (sd_bad C.out (by decide))
        have SC := Lib.hid (smC_3 (show (frB n0 xs0 && frB n1 xs1) = true by rw [FF.out.1, FF.out.2]; rfl) h8)
        clear hf0 hf1 e1 e2 e3 e4
        go_enter Try.func37, Try.ntmps37
        go_wp2_with fail
        rw [← HW.out]
        refine (l06Is_any n0 xs0 ys0 _ _ _ _ _ _ _ hl0 hm0 H0.out H0'.out).mono ?_
        rw [F0.out]
        rintro e w1 ⟨rfl, hb⟩
        have T1 := Lib.hid hb
        obtain ⟨lt, x0, x1, x2⟩ := X1.out.keep hb
        have Q1 := Lib.hid (H1.out.keep hb (Nat.le_refl _))
        have Q1' := Lib.hid (H1'.out.keep hb (Nat.le_refl _))
        clear hb
        go_wp2_with fail
        clear x0 x1 x2
        refine (l06Is_any n1 xs1 ys1 _ _ _ _ _ _ _ hl1 hm1 Q1.out Q1'.out).mono ?_
        rw [F1.out]
        rintro e w2 ⟨rfl, hb⟩
        have T2 := Lib.hid (T1.out.trans (hb.mono T1.out.size))
        clear hb
        have B2 := Lib.hid (HB.out.trans (T2.out.mono HB.out.size))
        obtain ⟨lt2, z0, z1, z2, z3, z4, z5⟩ := (Z.out.keep T2.out).all
        obtain ⟨lt0, x0, x1, x2⟩ := X0.out.keep T2.out
        obtain ⟨lt1, y0, y1, y2⟩ := X1.out.keep T2.out
        go_wp2
        exact bodyPost_ret (v := .tuple #[.agg #[.int .i64 0, .slice none 0 0, .slice none 0 0], .int .i64 3]) (by simp [results, Try.results37, go_sem, z0, z1, z2]) rfl ⟨RM.bad C.out.symm (by rw [L.out.1]; rfl) L.out.1 L.out.2, ((B2.out.setCell (by show _ ≤ _; simp; omega) _).setCell (by show _ ≤ _; simp; omega) _).setCell (by show _ ≤ _; simp; omega) _⟩
      · have C := Lib.hid (sdC_0 (show (isM n0 xs0 ys0 && isM n1 xs1 ys1) = true by rw [hf0, hf1]; rfl) h8)
        have L := Lib.hid (sd_ok C.out)
        have SC := Lib.hid (smC_0 (show (frB n0 xs0 && frB n1 xs1) = true by rw [FF.out.1, FF.out.2]; rfl) h8)
        have SL := Lib.hid (show smL n0 xs0 n1 xs1 = smTo xs0 xs1 n0 xs1.length by rw [smL, SC.out]; rfl)
        have hsl : (smTo xs0 xs1 n0 xs1.length).length ≤ 16 := by rw [smTo_len]; omega
        clear hf0 hf1 e1 e2 e3 e4
        go_enter Try.func37, Try.ntmps37
        go_wp2_with fail
        rw [← HW.out]
        refine (l06Is_any n0 xs0 ys0 _ _ _ _ _ _ _ hl0 hm0 H0.out H0'.out).mono ?_
        rw [F0.out]
        rintro e w1 ⟨rfl, hb⟩
        have T1 := Lib.hid hb
        obtain ⟨lt, x0, x1, x2⟩ := X1.out.keep hb
        have Q1 := Lib.hid (H1.out.keep hb (Nat.le_refl _))
        have Q1' := Lib.hid (H1'.out.keep hb (Nat.le_refl _))
        clear hb
        go_wp2_with fail
        clear x0 x1 x2
        refine (l06Is_any n1 xs1 ys1 _ _ _ _ _ _ _ hl1 hm1 Q1.out Q1'.out).mono ?_
        rw [F1.out]
        rintro e w2 ⟨rfl, hb⟩
        have T2 := Lib.hid (T1.out.trans (hb.mono T1.out.size))
        clear hb
        obtain ⟨lt0, x0, x1, x2⟩ := X0.out.keep T2.out
        obtain ⟨lt1, y0, y1, y2⟩ := X1.out.keep T2.out
        go_wp2
        clear x0 x1 x2 y0 y1 y2
        go_loopw [6, 7] (fun v i wr => ∃ t : Nat, t ≤ ys0.length ∧ i = .int .i64 t ∧ wr.ownsRow w2.heap.size 2 1 v t ((upTo (smF n0 ys0 ys1) t).map (Value.int .i64)) ∧ Hid (Below w2.heap.size w2 wr)) (fun _ i _ => ys0.length - (intOf i).toNat)
        case atStart => exact ⟨0, Nat.zero_le _, rfl, World.ownsRow_lit w2 #[] 0 (Nat.le_refl _) (by unfold maxLen; omega) rfl, Lib.hid ((Below.refl _ _).alloc (Nat.le_refl _) _)⟩
        case round =>
          obtain ⟨t, ht, rfl, hown, B⟩ := hrel
          have HO := Lib.hid hown
          clear hown
          have hs3 := T2.out.size
          have hsz := B.out.size
          have BW := Lib.hid (T2.out.trans (B.out.mono hs3))
          have HA := Lib.hid (H0'.out.keep BW.out (Nat.le_refl _))
          have HC := Lib.hid (H1'.out.keep BW.out (Nat.le_refl _))
          obtain ⟨lt0, x0, x1, x2⟩ := X0.out.keep BW.out
          obtain ⟨lt1, y0, y1, y2⟩ := X1.out.keep BW.out
          by_cases hlt : t < ys0.length
          · obtain ⟨p, po, rfl, hb1, hc1⟩ := HA.out.2.resolve_left (by omega)
            have hcell := hc1 t hlt
            obtain ⟨q, qo, rfl, hb2, hc2⟩ := HC.out.2.resolve_left (by have := HYY.out; omega)
            have hlt2 : t < ys1.length := by have := HYY.out; omega
            have hcell2 := hc2 t hlt2
            have EF := Lib.hid (show bits .or .i64 (nth ys0 t) (IntKind.i64.wrap (nth ys1 t * 2 ^ min (IntKind.u64.wrap n0).toNat 64)) = smF n0 ys0 ys1 t by rw [shl_spell hn0 hn8]; rfl)
            clear hc1 hc2
            go_wp2
            go_region_law (first | (refine step_app1 rfl _ _ rfl w2.heap.size _ t _ rfl (HO.out.drew.alloc _) ⟨wr.heap.size, 0, none⟩ 1 _ rfl (World.cell?_alloc_at _ _ _ _ rfl) (by omega) (by simp; omega) ?_; intro v' w1' hown1 hgr1))
            all_goals
              have hbel := Lib.hid (below_app B.out (((Below.refl _ _).alloc hsz _).drew) hsz HO.out hgr1)
              clear hgr1 x0 x1 x2 y0 y1 y2 hcell hcell2
              go_wp2
              go_roundw
              case rel => exact ⟨t + 1, hlt, by go_num, by rw [upTo, List.map_append, ← EF.out]; exact hown1, hbel⟩
              case measure => simp [intOf]; omega
          · obtain rfl : t = ys0.length := by omega
            have O5 := Lib.hid (own_up HO.out)
            obtain ⟨a5, k5, e5, -, -, -, -⟩ := O5.out.at
            rw [upTo_len] at e5
            subst e5
            have Z5 := Lib.hid (Z.out.keep BW.out)
            have HF0 := Lib.hid (H0.out.keep BW.out (Nat.le_refl _))
            have HF1 := Lib.hid (H1.out.keep BW.out (Nat.le_refl _))
            have B5 := Lib.hid (HB.out.trans (BW.out.mono HB.out.size))
            go_wp2_with fail
            clear x0 x1 x2 y0 y1 y2
            refine (l05Sum_any n0 n1 xs0 xs1 _ _ _ _ _ _ _ hn0 hn8 hl08 hl18 HF0.out HF1.out N0.out).mono ?_
            rintro e w5 ⟨v5, rfl, ho, hb⟩
            obtain ⟨a6, c6, rfl⟩ := ho.form
            obtain ⟨lt2, z0, z1, z2, z3, z4, z5⟩ := (Z5.out.keep hb).all
            have B6 := Lib.hid (B5.out.trans (hb.mono B5.out.size))
            have O6 := Lib.hid (O5.out.inn.below hb (Nat.le_refl _))
            have O7 := Lib.hid ho
            have hlr : w2.heap.size ≤ wr.heap.size := hsz
            have hww : W.heap.size ≤ w2.heap.size := hs3
            clear hb O5 ho
            go_wp2
            have e7 : tab ys0.length (smF n0 ys0 ys1) = upTo (smF n0 ys0 ys1) ys0.length := by rw [upTo_tab]
            exact bodyPost_ret (v := .tuple #[.agg #[.int .i64 (smTo xs0 xs1 n0 xs1.length).length, .slice a6 (smTo xs0 xs1 n0 xs1.length).length c6, .slice a5 ys0.length k5], .int .i64 0]) (by simp [results, Try.results37, go_sem, z0, z1, z2]) rfl ⟨RM.good C.out (by rw [L.out.1]) L.out.1 (L.out.2.trans e7) ((OwnM.two' (n := (smTo xs0 xs1 n0 xs1.length).length) O7.out.2 O6.out hlr).out3 (by omega)) (by omega), ((B6.out.setCell (by show _ ≤ _; simp; omega) _).setCell (by show _ ≤ _; simp; omega) _).setCell (by show _ ≤ _; simp; omega) _⟩

end Go.Proofs.Ythopleeehbkjaaa

/- The contract of SumModels of the program, at every argument; both told by values. Conditions: those in the theorems. -/
namespace Go.Proofs.Ythopleeehbkjaaa
open Go.RowKit

set_option maxHeartbeats 4000000 in
set_option maxRecDepth 100000 in
theorem plusM_any (n0 n1 : Int) (xs0 ys0 xs1 ys1 : List Int) (a0 : Option Addr) (c0 : Nat) (b0 : Option Addr) (d0 : Nat) (a1 : Option Addr) (c1 : Nat) (b1 : Option Addr) (d1 : Nat) (w : World) (hn0 : 0 ≤ n0) (hn8 : n0 ≤ 8) (h80 : xs0.length ≤ 8) (h81 : xs1.length ≤ 8) (h6 : ys0.length = 6) (h6' : ys1.length = 6) (h0 : At w a0 xs0.length xs0) (h0' : At w b0 ys0.length ys0) (h1 : At w a1 xs1.length xs1) (h1' : At w b1 ys1.length ys1) :
    Calls Try.prog 75 #[.agg #[.int .i64 n0, .slice a0 xs0.length c0, .slice b0 ys0.length d0], .agg #[.int .i64 n1, .slice a1 xs1.length c1, .slice b1 ys1.length d1]] w fun e w' => ∃ v, e = .returned v ∧ OwnM w' w.heap.size v (smTo xs0 xs1 n0 xs1.length).length (smTo xs0 xs1 n0 xs1.length) (tab ys0.length (smF n0 ys0 ys1)) ∧ Below w.heap.size w w' := by
  obtain ⟨W, hW, HB, X0, X1, Z, hWs⟩ := boxMM w n0 a0 xs0.length c0 b0 ys0.length d0 n1 a1 xs1.length c1 b1 ys1.length d1
  have H0 := Lib.hid (h0.keep HB.out (Nat.le_refl _))
  have H0' := Lib.hid (h0'.keep HB.out (Nat.le_refl _))
  have H1 := Lib.hid (h1.keep HB.out (Nat.le_refl _))
  have H1' := Lib.hid (h1'.keep HB.out (Nat.le_refl _))
  have hz0 : w.heap.size + 1 + 1 + 1 ≤ W.heap.size := by omega
  have WS := Lib.hid hWs
  have HW := Lib.hid hW
  have Y6 := Lib.hid h6
  have Y6' := Lib.hid h6'
  have hmk : ∀ W : World, (Instr.makeSlice 22 (.int .i64 6) (.int .i64 6)).run Try.prog W = .ok (.slice (some ⟨W.heap.size, 0, none⟩) 6 6) (W.alloc (.cells (madeCells #[.int .i64 0] 6) 2)) := fun (W : World) => run_make_row' (P := Try.prog) 22 2 (.int .i64 0) 8 Try.underlying22 info64 rfl .i64 .i64 6 (by omega) (by omega) W
  have hr0 := World.rowIs_made W (.int .i64 0) 6 2
  have HR0 := Lib.hid hr0
  have HBV := Lib.hid ((Below.refl W.heap.size W).alloc (Nat.le_refl _) (.cells (madeCells #[.int .i64 0] 6) 2))
  clear h0 h0' h1 h1' hW h6 h6' hr0 hWs
  go_enter Try.func75, Try.ntmps75
  go_wp2
  clear hmk
  rw [← HW.out]
  rw [show w.heap.size + 1 + 1 + 1 = W.heap.size from WS.out.symm]
  go_loopw [10] (fun i wr => ∃ k : Nat, k ≤ 6 ∧ i = .int .i64 k ∧ wr.rowIs W.heap.size 2 6 (fun t => .int .i64 (upS (smF n0 ys0 ys1) k t)) ∧ Hid (Below W.heap.size W wr)) (fun i _ => 6 - (intOf i).toNat)
  case atStart => exact ⟨0, Nat.zero_le _, rfl, HR0.out.congr fun t _ => by rw [upS_start], HBV⟩
  case round =>
    obtain ⟨k, hk, rfl, hrow, B⟩ := hrel
    have HROW := Lib.hid hrow
    by_cases hlt : k < 6
    · have HA := Lib.hid (H0'.out.keep B.out (Nat.le_refl _))
      have HC := Lib.hid (H1'.out.keep B.out (Nat.le_refl _))
      obtain ⟨lt0, x0, x1, x2⟩ := X0.out.keep B.out
      obtain ⟨lt1, y0, y1, y2⟩ := X1.out.keep B.out
      have hlt1 : k < ys0.length := by have := Y6.out; omega
      have hlt2 : k < ys1.length := by have := Y6'.out; omega
      obtain ⟨p, po, rfl, hb1, hc1⟩ := HA.out.2.resolve_left (by omega)
      have hcell := hc1 k hlt1
      obtain ⟨q, qo, rfl, hb2, hc2⟩ := HC.out.2.resolve_left (by omega)
      have hcell2 := hc2 k hlt2
      have hcg : wr.cell? ⟨W.heap.size, k, none⟩ = some (.int .i64 (upS (smF n0 ys0 ys1) k k)) := hrow.cell hlt
      have hfg : wr.frozen? ⟨W.heap.size, k, none⟩ = false := hrow.frozen k
      clear hc1 hc2 hrow
      go_wp2
      go_region
      all_goals
        go_wp2
        go_roundw
        case rel => exact ⟨k + 1, hlt, by go_num, row_setI HROW.out.drew (fun t => upS_set rfl t), Lib.hid ((B.out.drew).setCell (p := ⟨W.heap.size, k, none⟩) (Nat.le_refl _) _)⟩
        case measure => simp [intOf]; omega
    · obtain rfl : k = 6 := by omega
      have O5 := Lib.hid (own_of_row (B := W.heap.size) (Nat.le_refl _) (by omega) (hrow.congr fun t ht => by rw [upS_all ht]))
      have B5 := Lib.hid (HB.out.trans (B.out.mono HB.out.size))
      obtain ⟨lt0, x0, x1, x2⟩ := X0.out.keep B.out
      obtain ⟨lt1, y0, y1, y2⟩ := X1.out.keep B.out
      clear hrow
      go_wp2_with fail
      clear x0 x1 x2 y0 y1 y2
      refine (plusF_any n0 n1 xs0 xs1 _ _ _ _ _ hn0 hn8 h80 h81 (H0.out.keep B.out (Nat.le_refl _)) (H1.out.keep B.out (Nat.le_refl _))).mono ?_
      rintro e w3 ⟨v3, rfl, ho, hb⟩
      obtain ⟨a3, k3, rfl⟩ := ho.form
      have T3 := Lib.hid (B.out.trans (hb.mono B.out.size))
      have B6 := Lib.hid (HB.out.trans (T3.out.mono HB.out.size))
      have O6 := Lib.hid (O5.out.inn.below hb (Nat.le_refl _))
      have O7 := Lib.hid ho
      have hsz : W.heap.size ≤ wr.heap.size := B.out.size
      obtain ⟨lt2, z0, z1, z2, z3, z4, z5⟩ := (Z.out.keep T3.out).all
      have E6 := Lib.hid (show tab 6 (smF n0 ys0 ys1) = tab ys0.length (smF n0 ys0 ys1) by rw [Y6.out])
      have L6 := Lib.hid (show (tab 6 (smF n0 ys0 ys1)).length = 6 from tab_len _ _)
      clear ho hb
      go_wp2
      exact bodyPost_ret (v := .agg #[.int .i64 (smTo xs0 xs1 n0 xs1.length).length, .slice a3 (smTo xs0 xs1 n0 xs1.length).length k3, .slice (some ⟨W.heap.size, 0, none⟩) 6 6]) (by simp [results, Try.results75, go_sem, z0, z1, z2]) rfl ⟨_, rfl, by rw [← E6.out]; exact ((OwnM.two' (n := (smTo xs0 xs1 n0 xs1.length).length) O7.out.2 O6.out hsz).out3 (by omega)).mono (by omega), ((B6.out.setCell (by show w.heap.size ≤ _; simp; omega) _).setCell (by show w.heap.size ≤ _; simp; omega) _).setCell (by show w.heap.size ≤ _; simp; omega) _⟩

set_option maxHeartbeats 4000000 in
set_option maxRecDepth 100000 in
theorem implSumModels_any (n0 n1 : Int) (xs0 ys0 xs1 ys1 : List Int) (a0 : Option Addr) (c0 : Nat) (b0 : Option Addr) (d0 : Nat) (a1 : Option Addr) (c1 : Nat) (b1 : Option Addr) (d1 : Nat) (w : World) (hl0 : xs0.length ≤ 1048576) (hm0 : ys0.length ≤ 1048576) (hl1 : xs1.length ≤ 1048576) (hm1 : ys1.length ≤ 1048576) (h0 : At w a0 xs0.length xs0) (h0' : At w b0 ys0.length ys0) (h1 : At w a1 xs1.length xs1) (h1' : At w b1 ys1.length ys1) :
    Calls Try.prog 38 #[.agg #[.int .i64 n0, .slice a0 xs0.length c0, .slice b0 ys0.length d0], .agg #[.int .i64 n1, .slice a1 xs1.length c1, .slice b1 ys1.length d1]] w fun e w' => RM w' w.heap.size (sdL n0 xs0 ys0 n1 xs1 ys1).length (sdC n0 xs0 ys0 n1 xs1 ys1) (sdL n0 xs0 ys0 n1 xs1 ys1) (sdV n0 xs0 ys0 n1 xs1 ys1) e ∧ Below w.heap.size w w' := by
  obtain ⟨W, hW, HB, X0, X1, Z, hWs⟩ := boxMM w n0 a0 xs0.length c0 b0 ys0.length d0 n1 a1 xs1.length c1 b1 ys1.length d1
  have H0 := Lib.hid (h0.keep HB.out (Nat.le_refl _))
  have H0' := Lib.hid (h0'.keep HB.out (Nat.le_refl _))
  have H1 := Lib.hid (h1.keep HB.out (Nat.le_refl _))
  have H1' := Lib.hid (h1'.keep HB.out (Nat.le_refl _))
  have CM := Lib.hid (areM2_made n0 n1 xs0 ys0 xs1 ys1 a0 _ c0 b0 _ d0 a1 _ c1 b1 _ d1 W hl0 hm0 hl1 hm1 H0.out H0'.out H1.out H1'.out hWs)
  have hz0 : w.heap.size + 1 + 1 + 1 ≤ W.heap.size := by omega
  have HW := Lib.hid hW
  clear h0 h0' h1 h1' hW hWs
  obtain ⟨lt0, x0, x1, x2⟩ := X0.out
  obtain ⟨lt1, y0, y1, y2⟩ := X1.out
  cases hf : (isM n0 xs0 ys0 && isM n1 xs1 ys1)
  · have F := Lib.hid hf
    have C := Lib.hid (sdC_1 hf)
    have L := Lib.hid (sd_bad C.out (by decide))
    clear hf
    go_enter Try.func38, Try.ntmps38
    go_wp2_with fail
    clear x0 x1 x2 y0 y1 y2
    rw [← HW.out]
    refine CM.out.mono ?_
    rw [F.out]
    rintro e w1 ⟨rfl, T1'⟩
    have T1 := Lib.hid T1'
    clear T1'
    have B1 := Lib.hid (HB.out.trans (T1.out.mono HB.out.size))
    obtain ⟨lt2, z0, z1, z2, z3, z4, z5⟩ := (Z.out.keep T1.out).all
    go_wp2
    exact bodyPost_ret (v := .tuple #[.agg #[.int .i64 0, .slice none 0 0, .slice none 0 0], .int .i64 1]) (by simp [results, Try.results38, go_sem, z0, z1, z2]) rfl ⟨RM.bad C.out.symm (by rw [L.out.1]; rfl) L.out.1 L.out.2, ((B1.out.setCell (by show _ ≤ _; simp; omega) _).setCell (by show _ ≤ _; simp; omega) _).setCell (by show _ ≤ _; simp; omega) _⟩
  · have F := Lib.hid hf
    have hff := hf
    rw [Bool.and_eq_true] at hff
    obtain ⟨hf0, hf1⟩ := hff
    obtain ⟨e1, e2, -⟩ := isM_rel hf0
    obtain ⟨e3, e4, -⟩ := isM_rel hf1
    have hn0 : 0 ≤ n0 := by omega
    have hn8 : n0 ≤ 8 := by omega
    have hn10 : 0 ≤ n1 := by omega
    have hn18 : n1 ≤ 8 := by omega
    have Y6 := Lib.hid (show ys0.length = 6 by obtain ⟨-, -, -, -, h6, -⟩ := isM_ok hf0; exact h6)
    have Y6' := Lib.hid (show ys1.length = 6 by obtain ⟨-, -, -, -, h6, -⟩ := isM_ok hf1; exact h6)
    by_cases h8 : 8 < n0 + n1
    · have C := Lib.hid (sdC_3 hf h8)
      have L := Lib.hid (sd_bad C.out (by decide))
      clear hf hf0 hf1 e1 e3
      go_enter Try.func38, Try.ntmps38
      go_wp2_with fail
      clear x0 x1 x2 y0 y1 y2
      rw [← HW.out]
      refine CM.out.mono ?_
      rw [F.out]
      rintro e w1 ⟨rfl, T1'⟩
      have T1 := Lib.hid T1'
      clear T1'
      have B1 := Lib.hid (HB.out.trans (T1.out.mono HB.out.size))
      obtain ⟨lt2, z0, z1, z2, z3, z4, z5⟩ := (Z.out.keep T1.out).all
      obtain ⟨lt0, x0, x1, x2⟩ := X0.out.keep T1.out
      obtain ⟨lt1, y0, y1, y2⟩ := X1.out.keep T1.out
      go_wp2
      exact bodyPost_ret (v := .tuple #[.agg #[.int .i64 0, .slice none 0 0, .slice none 0 0], .int .i64 3]) (by simp [results, Try.results38, go_sem, z0, z1, z2]) rfl ⟨RM.bad C.out.symm (by rw [L.out.1]; rfl) L.out.1 L.out.2, ((B1.out.setCell (by show _ ≤ _; simp; omega) _).setCell (by show _ ≤ _; simp; omega) _).setCell (by show _ ≤ _; simp; omega) _⟩
    · have C := Lib.hid (sdC_0 hf h8)
      have L := Lib.hid (sd_ok C.out)
      clear hf hf0 hf1 e1 e3
      go_enter Try.func38, Try.ntmps38
      go_wp2_with fail
      clear x0 x1 x2 y0 y1 y2
      rw [← HW.out]
      refine CM.out.mono ?_
      rw [F.out]
      rintro e w1 ⟨rfl, T1'⟩
      have T1 := Lib.hid T1'
      clear T1'
      obtain ⟨lt0, x0, x1, x2⟩ := X0.out.keep T1.out
      obtain ⟨lt1, y0, y1, y2⟩ := X1.out.keep T1.out
      go_wp2_with fail
      clear x0 x1 x2 y0 y1 y2
      refine (plusM_any n0 n1 xs0 ys0 xs1 ys1 _ _ _ _ _ _ _ _ _ hn0 hn8 e2 e4 Y6.out Y6'.out (H0.out.keep T1.out (Nat.le_refl _)) (H0'.out.keep T1.out (Nat.le_refl _)) (H1.out.keep T1.out (Nat.le_refl _)) (H1'.out.keep T1.out (Nat.le_refl _))).mono ?_
      rintro e w3 ⟨v3, rfl, ho, hb⟩
      obtain ⟨a3, k3, b3, j3, rfl⟩ := ho.form
      have T3 := Lib.hid (T1.out.trans (hb.mono T1.out.size))
      have B3 := Lib.hid (HB.out.trans (T3.out.mono HB.out.size))
      have O3 := Lib.hid ho
      have hs1 : W.heap.size ≤ w1.heap.size := T1.out.size
      obtain ⟨lt2, z0, z1, z2, z3, z4, z5⟩ := (Z.out.keep T3.out).all
      clear ho hb
      go_wp2
      exact bodyPost_ret (v := .tuple #[.agg #[.int .i64 (smTo xs0 xs1 n0 xs1.length).length, .slice a3 (smTo xs0 xs1 n0 xs1.length).length k3, .slice b3 (tab ys0.length (smF n0 ys0 ys1)).length j3], .int .i64 0]) (by simp [results, Try.results38, go_sem, z0, z1, z2]) rfl ⟨RM.good C.out (by rw [L.out.1]) L.out.1 L.out.2 (O3.out.out3 (by omega)) (by omega), ((B3.out.setCell (by show _ ≤ _; simp; omega) _).setCell (by show _ ≤ _; simp; omega) _).setCell (by show _ ≤ _; simp; omega) _⟩

theorem specSumModels_v (n0 : Int) (xs0 ys0 : List Int) (n1 : Int) (xs1 ys1 : List Int) (v0 : Value) (lo0 hi0 : Nat) (v1 : Value) (lo1 hi1 : Nat) (w : World) (hl0 : xs0.length ≤ 1048576) (hm0 : ys0.length ≤ 1048576) (hl1 : xs1.length ≤ 1048576) (hm1 : ys1.length ≤ 1048576) (h0 : InM w lo0 hi0 v0 n0 xs0 ys0) (h1 : InM w lo1 hi1 v1 n1 xs1 ys1) :
    Calls Try.prog 37 #[v0, v1] w fun e w' => ∃ v, e = .returned (.tuple #[v, .int .i64 (sdC n0 xs0 ys0 n1 xs1 ys1)]) ∧ OwnM w' w.heap.size v (sdL n0 xs0 ys0 n1 xs1 ys1).length (sdL n0 xs0 ys0 n1 xs1 ys1) (sdV n0 xs0 ys0 n1 xs1 ys1) ∧ Below w.heap.size w w' := by
  obtain ⟨a, cap, b, d, rfl, hat, hat', hn, -⟩ := h0.at
  obtain ⟨a', cap', b', d', rfl, hat2, hat2', -, -⟩ := h1.at
  exact (specSumModels_any n0 n1 xs0 ys0 xs1 ys1 a cap b d a' cap' b' d' w hl0 hm0 hl1 hm1 hat hat' hat2 hat2' hn).mono fun e w' ⟨⟨v, e1, o⟩, b⟩ => ⟨v, e1, o, b⟩
theorem implSumModels_v (n0 : Int) (xs0 ys0 : List Int) (n1 : Int) (xs1 ys1 : List Int) (v0 : Value) (lo0 hi0 : Nat) (v1 : Value) (lo1 hi1 : Nat) (w : World) (hl0 : xs0.length ≤ 1048576) (hm0 : ys0.length ≤ 1048576) (hl1 : xs1.length ≤ 1048576) (hm1 : ys1.length ≤ 1048576) (h0 : InM w lo0 hi0 v0 n0 xs0 ys0) (h1 : InM w lo1 hi1 v1 n1 xs1 ys1) :
    Calls Try.prog 38 #[v0, v1] w fun e w' => ∃ v, e = .returned (.tuple #[v, .int .i64 (sdC n0 xs0 ys0 n1 xs1 ys1)]) ∧ OwnM w' w.heap.size v (sdL n0 xs0 ys0 n1 xs1 ys1).length (sdL n0 xs0 ys0 n1 xs1 ys1) (sdV n0 xs0 ys0 n1 xs1 ys1) ∧ Below w.heap.size w w' := by
  obtain ⟨a, cap, b, d, rfl, hat, hat', hn, -⟩ := h0.at
  obtain ⟨a', cap', b', d', rfl, hat2, hat2', -, -⟩ := h1.at
  exact (implSumModels_any n0 n1 xs0 ys0 xs1 ys1 a cap b d a' cap' b' d' w hl0 hm0 hl1 hm1 hat hat' hat2 hat2').mono fun e w' ⟨⟨v, e1, o⟩, b⟩ => ⟨v, e1, o, b⟩

end Go.Proofs.Ythopleeehbkjaaa
