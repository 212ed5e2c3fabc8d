/- 5 texts in one: SiP, SiQ, SiR, SiV, SiW. -/
import Derived.Test.YtecjmibnoldpgabJn18
import Derived.Test.YtecjmibnoldpgabJn02
/- Contracts of the program's functions of chapter 7 over two models and a link: what checks them; what is kept of a link. Conditions: those in the theorems. -/
namespace Go.Proofs.Ytecjmibnoldpgab
open Go.RowKit

set_option maxHeartbeats 1000000 in
theorem areModels2_any (n0 n1 : Int) (xs0 ys0 xs1 ys1 : List Int) (a0 : Option Addr) (l0 c0 : Nat) (b0 : Option Addr) (m0 d0 : Nat) (a1 : Option Addr) (l1 c1 : Nat) (b1 : Option Addr) (m1 d1 : Nat) (b : Nat) (w : World) (hl0 : l0 ≤ 1048576) (hm0 : m0 ≤ 1048576) (hl1 : l1 ≤ 1048576) (hm1 : m1 ≤ 1048576) (h0 : At w a0 l0 xs0) (h0' : At w b0 m0 ys0) (h1 : At w a1 l1 xs1) (h1' : At w b1 m1 ys1) (hb0 : b < w.heap.size)
    (e0 : w.cell? ⟨b, 0, none⟩ = some (.int .i64 n0)) (e1 : w.cell? ⟨b, 1, none⟩ = some (.slice a0 l0 c0)) (e2 : w.cell? ⟨b, 2, none⟩ = some (.slice b0 m0 d0)) (e3 : w.cell? ⟨b, 3, none⟩ = some (.int .i64 n1)) (e4 : w.cell? ⟨b, 4, none⟩ = some (.slice a1 l1 c1)) (e5 : w.cell? ⟨b, 5, none⟩ = some (.slice b1 m1 d1)) :
    Calls Try.prog 43 #[.slice (some ⟨b, 0, none⟩) 2 2] w fun e w' => e = .returned (.bool (isM n0 xs0 ys0 && isM n1 xs1 ys1)) ∧ Below w.heap.size w w' := by
  obtain ⟨W, hW, hb, -, hWs⟩ := boxM (w := w) n0 a0 l0 c0 b0 m0 d0 32
  have HB := Lib.hid hb
  have H0 := Lib.hid (h0.keep hb (Nat.le_refl _))
  have H0' := Lib.hid (h0'.keep hb (Nat.le_refl _))
  have H1 := Lib.hid (h1.keep hb (Nat.le_refl _))
  have H1' := Lib.hid (h1'.keep hb (Nat.le_refl _))
  have E3 := Lib.hid ((hb.cell (p := ⟨b, 3, none⟩) hb0).trans e3)
  have E4 := Lib.hid ((hb.cell (p := ⟨b, 4, none⟩) hb0).trans e4)
  have E5 := Lib.hid ((hb.cell (p := ⟨b, 5, none⟩) hb0).trans e5)
  have hsz := hb.size
  have HW := Lib.hid hW
  clear h0 h0' h1 h1' hb hW e3 e4 e5
  cases hf0 : isM n0 xs0 ys0
  · have F0 := Lib.hid hf0
    clear hf0
    go_enter Try.func43, Try.ntmps43
    go_wp2
    refine wp_loop_rounds 3 ?_
    rw [rounds_succ]
    go_wp2_with fail
    rw [← HW.out]
    refine (implIsModel_any n0 xs0 ys0 _ _ _ _ _ _ _ hl0 hm0 H0.out H0'.out).mono ?_
    rw [F0.out]
    rintro e w1 ⟨rfl, hb⟩
    have B1 := Lib.hid (HB.out.trans (hb.mono HB.out.size))
    clear hb
    go_wp2
    go_ret
    exact ⟨rfl, B1.out⟩
  · have F0 := Lib.hid hf0
    cases hf1 : isM n1 xs1 ys1
    all_goals
      have F1 := Lib.hid hf1
      clear hf0 hf1
      go_enter Try.func43, Try.ntmps43
      go_wp2
      refine wp_loop_rounds 3 ?_
      rw [rounds_succ]
      go_wp2_with fail
      rw [← HW.out]
      refine (implIsModel_any n0 xs0 ys0 _ _ _ _ _ _ _ hl0 hm0 H0.out H0'.out).mono ?_
      rw [F0.out]
      rintro e w1 ⟨rfl, hb⟩
      have B1 := Lib.hid (HB.out.trans (hb.mono HB.out.size))
      have f3 := (hb.cell (p := ⟨b, 3, none⟩) (Nat.lt_of_lt_of_le hb0 hsz)).trans E3.out
      have f4 := (hb.cell (p := ⟨b, 4, none⟩) (Nat.lt_of_lt_of_le hb0 hsz)).trans E4.out
      have f5 := (hb.cell (p := ⟨b, 5, none⟩) (Nat.lt_of_lt_of_le hb0 hsz)).trans E5.out
      obtain ⟨V, hV, hbV, -, hVs⟩ := boxM (w := w1) n1 a1 l1 c1 b1 m1 d1 32
      have H11 := Lib.hid ((H1.out.keep hb (Nat.le_refl _)).keep hbV (Nat.le_refl _))
      have H11' := Lib.hid ((H1'.out.keep hb (Nat.le_refl _)).keep hbV (Nat.le_refl _))
      have B1' := Lib.hid (B1.out.trans (hbV.mono B1.out.size))
      have HV := Lib.hid hV
      clear hb e0 e1 e2 hbV hV hVs
      go_wp2
      rw [rounds_succ]
      go_wp2_with fail
      clear f3 f4 f5
      rw [← HV.out]
      refine (implIsModel_any n1 xs1 ys1 _ _ _ _ _ _ _ hl1 hm1 H11.out H11'.out).mono ?_
      rw [F1.out]
      rintro e w2 ⟨rfl, hb⟩
      have B2 := Lib.hid (B1'.out.trans (hb.mono B1'.out.size))
      clear hb
      go_wp2
      first | (rw [rounds_succ]; go_wp2; go_ret; exact ⟨rfl, B2.out⟩) | (go_ret; exact ⟨rfl, B2.out⟩)

theorem cells6 (W : World) (n0 n1 : Int) (a0 : Option Addr) (l0 c0 : Nat) (b0 : Option Addr) (m0 d0 : Nat) (a1 : Option Addr) (l1 c1 : Nat) (b1 : Option Addr) (m1 d1 : Nat) : ∃ W' : World, W' = W.alloc (.cells #[.int .i64 n0, .slice a0 l0 c0, .slice b0 m0 d0, .int .i64 n1, .slice a1 l1 c1, .slice b1 m1 d1] 32) ∧ Below W.heap.size W W' ∧ W.heap.size < W'.heap.size ∧
    W'.cell? ⟨W.heap.size, 0, none⟩ = some (.int .i64 n0) ∧ W'.cell? ⟨W.heap.size, 1, none⟩ = some (.slice a0 l0 c0) ∧ W'.cell? ⟨W.heap.size, 2, none⟩ = some (.slice b0 m0 d0) ∧ W'.cell? ⟨W.heap.size, 3, none⟩ = some (.int .i64 n1) ∧ W'.cell? ⟨W.heap.size, 4, none⟩ = some (.slice a1 l1 c1) ∧ W'.cell? ⟨W.heap.size, 5, none⟩ = some (.slice b1 m1 d1) :=
  ⟨_, rfl, (alloc_keep _ _).1, by simp, World.cell?_alloc_at _ _ _ _ rfl, World.cell?_alloc_at _ _ _ _ rfl, World.cell?_alloc_at _ _ _ _ rfl, World.cell?_alloc_at _ _ _ _ rfl, World.cell?_alloc_at _ _ _ _ rfl, World.cell?_alloc_at _ _ _ _ rfl⟩

/-- The call of areModels on two models, as its callers make it. -/
theorem areM2_made (n0 n1 : Int) (xs0 ys0 xs1 ys1 : List Int) (a0 : Option Addr) (l0 c0 : Nat) (b0 : Option Addr) (m0 d0 : Nat) (a1 : Option Addr) (l1 c1 : Nat) (b1 : Option Addr) (m1 d1 : Nat) (W : World) (hl0 : l0 ≤ 1048576) (hm0 : m0 ≤ 1048576) (hl1 : l1 ≤ 1048576) (hm1 : m1 ≤ 1048576) (h0 : At W a0 l0 xs0) (h0' : At W b0 m0 ys0) (h1 : At W a1 l1 xs1) (h1' : At W b1 m1 ys1) {k : Nat} (hk : W.heap.size = k) :
    Calls Try.prog 43 #[.slice (some ⟨k, 0, none⟩) 2 2] (W.alloc (.cells #[.int .i64 n0, .slice a0 l0 c0, .slice b0 m0 d0, .int .i64 n1, .slice a1 l1 c1, .slice b1 m1 d1] 32)) fun e w' => e = .returned (.bool (isM n0 xs0 ys0 && isM n1 xs1 ys1)) ∧ Below W.heap.size W w' := by
  subst hk
  obtain ⟨V, hV, bV, hVs, d0, d1, d2, d3, d4, d5⟩ := cells6 W n0 n1 a0 l0 c0 b0 m0 d0 a1 l1 c1 b1 m1 d1
  rw [← hV]
  exact (areModels2_any n0 n1 xs0 ys0 xs1 ys1 a0 l0 c0 b0 m0 _ a1 l1 c1 b1 m1 _ _ V hl0 hm0 hl1 hm1 (h0.keep bV (Nat.le_refl _)) (h0'.keep bV (Nat.le_refl _)) (h1.keep bV (Nat.le_refl _)) (h1'.keep bV (Nat.le_refl _)) hVs d0 d1 d2 d3 d4 d5).mono fun e w' ⟨e1, hb⟩ => ⟨e1, bV.trans (hb.mono bV.size)⟩

end Go.Proofs.Ytecjmibnoldpgab

/- Contracts of checkLink, simulated and isSimulation of the program. Conditions: those in the theorems. -/
namespace Go.Proofs.Ytecjmibnoldpgab
open Go.RowKit

def lkC (n0 : Int) (xs0 ys0 : List Int) (n1 : Int) (xs1 ys1 ls : List Int) : Int := if isM n0 xs0 ys0 && isM n1 xs1 ys1 then (if (ls.length : Int) = n0 then (if mksTo n1 ls ls.length then 0 else 1) else 1) else 1

theorem own_zero {w : World} {B : Nat} {v : Value} {xs : List Int} (h : Own w B v xs) (h0 : 0 < xs.length) : ∃ g c, v = .slice (some ⟨g, 0, none⟩) xs.length c ∧ B ≤ g := by
  obtain ⟨-, ⟨-, e⟩ | ⟨g, c, cur, e, hB, -⟩⟩ := h
  · omega
  · exact ⟨g, c, e, hB⟩
theorem own_cell {w : World} {B g c n : Nat} {F : Nat → Int} (h : Own w B (.slice (some ⟨g, 0, none⟩) n c) (tab n F)) {j : Nat} (hj : j < n) : w.cell? ⟨g, j, none⟩ = some (.int .i64 (F j)) ∧ w.frozen? ⟨g, j, none⟩ = false := by
  unfold Own at h
  rw [tab_len] at h
  exact ⟨(World.ownsRow.cellAt h j (by omega)).trans (tab_get hj), World.ownsRow.frozenAt h j⟩
theorem own_set {w : World} {B g c n : Nat} {F G : Nat → Int} {z : Int} {j : Nat} (h : Own w B (.slice (some ⟨g, 0, none⟩) n c) (tab n F)) (e : ∀ t, (if t = j then z else F t) = G t) : Own (w.setCell ⟨g, j, none⟩ (.int .i64 z)) B (.slice (some ⟨g, 0, none⟩) n c) (tab n G) := by
  unfold Own at h ⊢
  rw [tab_len] at h ⊢
  rw [← tab_set e]
  exact (World.ownsRow.stored h j _).1
theorem own_blk {w : World} {B g c n : Nat} {xs : List Int} (h : Own w B (.slice (some ⟨g, 0, none⟩) n c) xs) : B ≤ g ∧ g < w.heap.size := by
  obtain ⟨-, ⟨e, -⟩ | ⟨g', c', cur, e, hB, hh, -⟩⟩ := h
  · cases e
  · cases e; exact ⟨hB, (Array.getElem?_eq_some_iff.1 hh).1⟩

/-- A row of which the entries below x are done, that at x is s, the others are as they were. -/
def ktF (F G : Nat → Int) (x : Nat) (s : Int) (t : Nat) : Int := if t < x then F t else if t = x then s else G t
theorem kt_at (F G : Nat → Int) (x : Nat) (s : Int) : ktF F G x s x = s := by unfold ktF; rw [if_neg (by omega), if_pos rfl]
theorem kt_set {F G : Nat → Int} {x : Nat} {s z s' : Int} (h : z = s') (t : Nat) : (if t = x then z else ktF F G x s t) = ktF F G x s' t := by
  subst h
  unfold ktF
  by_cases e : t = x
  · subst e; rw [if_pos rfl, if_neg (by omega), if_pos rfl]
  · rw [if_neg e, if_neg e, if_neg e]
theorem kt_next {F G : Nat → Int} {x : Nat} : ktF F G x (F x) = ktF F G (x + 1) (G (x + 1)) := by
  funext t
  unfold ktF
  by_cases h : t < x
  · rw [if_pos h, if_pos (by omega)]
  · by_cases e : t = x
    · subst e; rw [if_neg h, if_pos rfl, if_pos (by omega)]
    · rw [if_neg h, if_neg e, if_neg (by omega)]
      split
      · rename_i e2; rw [e2]
      · rfl
theorem kt_start {F G : Nat → Int} : ktF F G 0 (G 0) = G := by
  funext t
  unfold ktF
  rw [if_neg (by omega)]
  split
  · rename_i e; rw [e]
  · rfl
theorem kt_all {F G : Nat → Int} {n : Nat} : tab n (ktF F G n (G n)) = tab n F := by
  unfold tab
  refine List.map_congr_left fun t ht => ?_
  have := List.mem_range.1 ht
  unfold ktF
  rw [if_pos this]

end Go.Proofs.Ytecjmibnoldpgab

/- Contracts of simulated and isSimulation of the program. Conditions: those in the theorems. -/
namespace Go.Proofs.Ytecjmibnoldpgab
open Go.RowKit

end Go.Proofs.Ytecjmibnoldpgab

/- Contracts of IsSimulation and IsBisimulation of the model and of the program. Conditions: those in the theorems. -/
namespace Go.Proofs.Ytecjmibnoldpgab
open Go.RowKit

theorem Mo.lk {n0 n1 : Int} {xs ys ps zs ls : List Int} (h0 : isM n0 xs ys = true) (h1 : isM n1 ps zs = true) (hl : (ls.length : Int) = n0) (hm : mksTo n1 ls ls.length = true) : Lk xs ys ps zs ls := by
  obtain ⟨e1, e2, e3, e4⟩ := isM_rel h0
  obtain ⟨f1, f2, f3, f4⟩ := isM_rel h1
  obtain ⟨-, -, -, -, y6, -⟩ := isM_ok h0
  obtain ⟨-, -, -, -, z6, -⟩ := isM_ok h1
  subst f1
  refine ⟨e2, f2, e3, f3, e4, f4, by omega, by omega, fun i => ?_⟩
  by_cases hi : i < ls.length
  · exact (mksTo_iff (by omega) ls ls.length).1 hm i hi
  · rw [nth_high (by omega)]; exact InMk.zero _

def lnkB (n0 n1 : Int) (ls : List Int) : Bool := decide ((ls.length : Int) = n0) && mksTo n1 ls ls.length
theorem lkC_of (n0 : Int) (xs0 ys0 : List Int) (n1 : Int) (xs1 ys1 ls : List Int) : lkC n0 xs0 ys0 n1 xs1 ys1 ls = if isM n0 xs0 ys0 && isM n1 xs1 ys1 && lnkB n0 n1 ls then 0 else 1 := by
  unfold lkC lnkB
  cases (isM n0 xs0 ys0 && isM n1 xs1 ys1)
  · rfl
  · by_cases h : (ls.length : Int) = n0
    · simp [h]
    · simp [h]

def siB (b : Bool) (n0 : Int) (xs ys : List Int) (n1 : Int) (ps zs ls : List Int) : Bool := isM n0 xs ys && isM n1 ps zs && lnkB n0 n1 ls && (if b then insB ls (tab xs.length (stV xs ys ps zs ls)) ls.length else insB ls (tab xs.length (belV xs ys ps zs ls)) ls.length)
theorem si_bad {b : Bool} {n0 n1 : Int} {xs ys ps zs ls : List Int} (h : (isM n0 xs ys && isM n1 ps zs && lnkB n0 n1 ls) = false) : Ending.returned (.tuple #[.bool false, .int .i64 1]) = .returned (.tuple #[.bool (siB b n0 xs ys n1 ps zs ls), .int .i64 (lkC n0 xs ys n1 ps zs ls)]) := by
  rw [siB, lkC_of, h]; rfl
theorem si_ok {b : Bool} {n0 n1 : Int} {xs ys ps zs ls : List Int} {z : Bool} (h : (isM n0 xs ys && isM n1 ps zs && lnkB n0 n1 ls) = true) (hz : z = if b then insB ls (tab xs.length (stV xs ys ps zs ls)) ls.length else insB ls (tab xs.length (belV xs ys ps zs ls)) ls.length) : Ending.returned (.tuple #[.bool z, .int .i64 0]) = .returned (.tuple #[.bool (siB b n0 xs ys n1 ps zs ls), .int .i64 (lkC n0 xs ys n1 ps zs ls)]) := by
  rw [siB, lkC_of, h, hz]; rfl

end Go.Proofs.Ytecjmibnoldpgab

/- Contracts of IsSimulation and IsBisimulation of the model and of the program, told by values. Conditions: those in the theorems. -/
namespace Go.Proofs.Ytecjmibnoldpgab
open Go.RowKit

theorem own_mem {w : World} {lo hi : Nat} {v : Value} {xs : List Int} (h : OwnIn w lo hi v xs) : ∃ a c, v = .slice a xs.length c ∧ At w a xs.length xs := by
  obtain ⟨a, c, e, hat, -⟩ := Own.at h.1
  exact ⟨a, c, e, hat⟩


end Go.Proofs.Ytecjmibnoldpgab
