/- 2 texts in one: Fjb, Fk. -/
import Derived.Deep.DrawnRows
import Derived.Test.YtpccocmiadpgiaaJn07
/- The program's reader of formulas: the method that joins the last two parts. Conditions: those in the theorems. -/
namespace Go.Proofs.Ytpccocmiadpgiaa
open Go.RowKit
attribute [local go_sem ↓] Go.wp_at_zero Go.wp_at_succ

set_option maxHeartbeats 8000000 in
theorem joinBin_any (R lo ex : Nat) (W : List Int) (P : List Fm) (a b : Fm) (m : Int) (hm : m = 2 ∨ m = 3 ∨ m = 4) (w : World) (hl : P.length ≤ 4096) (hlo : lo ≤ w.heap.size) (hs : a.sz + b.sz ≤ 4096) (h : Fl w R lo ex W (b :: a :: P)) :
    Calls Try.prog 80 #[.pointer (some ⟨R, 0, none⟩), .int .i64 m] w fun e w' => (∃ v, e = .returned v) ∧ Fl w' R lo ex W (.bi m a b :: P) ∧ BX R lo w w' := by
  obtain ⟨vW, vP, us, hR, hRl, hW, hP, hPa⟩ := h
  obtain ⟨c0, c1, c2, f0, f1, f2⟩ := fl_cells hR
  obtain ⟨g, cP, rfl, hgl⟩ := row_some hP (by simp)
  simp only [List.length_cons] at hP c2 hR ⊢
  obtain ⟨L, hL⟩ : ∃ L, L = P.length + 1 := ⟨_, rfl⟩
  rw [← hL] at hP c2 hR
  have hul : us.length = L + 1 := by have := hP.1; simpa using this
  have hcA := hP.cellAt P.length (by omega)
  rw [atV_some (by omega)] at hcA
  have hcB := hP.cellAt L (by omega)
  rw [atV_some (by omega)] at hcB
  have hfro : w.frozen? ⟨g, P.length, none⟩ = false := hP.frozenAt _
  obtain ⟨aA, cA, hvA, atA, -⟩ := hPa.pop.top.at
  obtain ⟨aB, cB, hvB, atB, -⟩ := hPa.top.at
  have e1 : atV (us.take (a :: P).length) P.length = atV us P.length := by unfold atV; simp [List.getD_eq_getElem?_getD]
  have e2 : (a :: P).length = L := by rw [hL]; rfl
  rw [e1] at hvA
  rw [e2] at hvB
  rw [hvA] at hcA
  rw [hvB] at hcB
  have hsa := Fm.enc_len a
  have hsb := Fm.enc_len b
  have hpa := a.sz_pos
  have hpb := b.sz_pos
  obtain ⟨nA, hnA⟩ : ∃ n, n = a.enc.length := ⟨_, rfl⟩
  obtain ⟨nB, hnB⟩ : ∃ n, n = b.enc.length := ⟨_, rfl⟩
  have hn1 : nA + nB ≤ 4096 := by omega
  have hnA0 : 0 < nA := by omega
  have hnB0 : 0 < nB := by omega
  rw [← hnA] at hcA atA
  rw [← hnB] at hcB atB
  have hRw : R < w.heap.size := (Array.getElem?_eq_some_iff.1 hR).1
  obtain ⟨n, hn⟩ : ∃ n, n = P.length := ⟨_, rfl⟩
  rw [← hn] at hL hl hcA hfro
  subst hL
  have hcap : n + 1 + 1 ≤ cP := by
    rcases hP.2 with ⟨e, -⟩ | ⟨g', cap, cur, hv, -, -, hcc, -⟩
    · cases e
    · cases hv; exact hcc
  have hcI : (n : Int) + 1 ≤ (cP : Int) := by omega
  have HR := Lib.hid hR
  have HW := Lib.hid hW
  have HP := Lib.hid hP
  have HPa := Lib.hid hPa
  have AA := Lib.hid atA
  have AB := Lib.hid atB
  have HN := Lib.hid hn
  have hi0 : (0 : Int) ≤ (n : Int) := by omega
  have hi9 : IntKind.i64.wrap (n : Int) = (n : Int) := by rw [IntKind.wrap_i64]; omega
  have hi1 : (n : Int) < (n : Int) + 1 + 1 := by omega
  have hi2 : (n : Int) + 1 < (n : Int) + 1 + 1 := by omega
  have hi3 : (0 : Int) ≤ (n : Int) + 1 := by omega
  have hi6 : (n : Int) ≤ (n : Int) + 1 := by omega
  have hi7 : n < n + 1 + 1 := by omega
  have hi8 : n ≤ n + 1 := by omega
  have hi4 : ((n : Int) + 1).toNat = n + 1 := by omega
  have hi5 : IntKind.i64.wrap ((n : Int) + 1 - 1) = (n : Int) := by rw [IntKind.wrap_i64]; omega
  have NN : ∀ (k : Int) (q : Nat), Calls Try.prog 33 #[.int .i64 k, .slice (some ⟨w.heap.size, 0, none⟩) 2 2] ((w.drewN q).alloc (.cells #[.slice aA nA cA, .slice aB nB cB] 32)) fun e w1 => ∃ a1 n1 c1x, e = .returned (.slice a1 n1 c1x) ∧ Hid (OwnN w1 w.heap.size (.slice a1 n1 c1x) ((k, 0) :: (a.enc ++ b.enc)) ∧ Below w.heap.size w w1) ∧ w1.cell? ⟨g, n, none⟩ = some (atV us n) ∧ w1.frozen? ⟨g, n, none⟩ = false ∧ w1.cell? ⟨R, 2, none⟩ = some (.slice (some ⟨g, 0, none⟩) (n + 1 + 1) cP) := fun k q => by
    refine (join2_any k a.enc b.enc aA aB nA nB cA cB w.heap.size (w.drewN q) (by omega) hnA0 hnB0 (show AtN (w.drewN q) aA nA a.enc from AA.out) (show AtN (w.drewN q) aB nB b.enc from AB.out) 32 rfl).mono ?_
    rintro e w1 ⟨v1, rfl, ho, hb⟩
    have hb1 : Below w.heap.size w w1 := (below_drewN' (Below.refl w.heap.size w) q).trans hb
    obtain ⟨a1, c1x, rfl, -⟩ := ho.at
    obtain ⟨-, h2, h3⟩ := made_row (k := n) HP.out (by omega) hb1
    exact ⟨_, _, _, rfl, (show _ ∧ _ from ⟨ho, hb1⟩), h2, h3, (hb1.cell (p := ⟨R, 2, none⟩) hRw).trans c2⟩
  clear hR hW hP hPa hul hn atA atB hnA hnB hvA hvB e1 e2 hsa hsb hpa hpb hs
  have hm2 : ¬ m = -2 := by omega
  have PC := Lib.hid (show prt m = 2 by rcases hm with rfl | rfl | rfl <;> rfl)
  clear hm
  go_enter Try.func80, Try.ntmps80
  go_wp2_with fail
  refine (partCount_any _ _).mono ?_
  rw [PC.out]
  rintro e w' ⟨rfl, rfl⟩
  go_wp2
  go_region_with (go_at_call 33; refine (NN _ 1).mono ?_; rintro e w1 ⟨a1, n1, c1x, rfl, hh1, hc1, hf1, hc2⟩)
  all_goals
    have Z := fl_bin (f := .bi _ a b) (L := n + 1) (by rw [HN.out]) HR.out hRl HW.out HP.out HPa.out hlo hh1.out.2 hh1.out.1
    rw [← HN.out] at Z
    obtain ⟨z1, z2, z3, z4⟩ := Z
    have Z1 := Lib.hid z1
    have Z2 := Lib.hid z2
    clear z1 z2 hh1 hc1 hf1 hc2
    go_wp2
    go_end0
    exact ⟨⟨_, rfl⟩, Z1.out, Z2.out⟩

end Go.Proofs.Ytpccocmiadpgiaa

/- The program's reader of formulas: the methods that join parts. Conditions: those in the theorems. -/
namespace Go.Proofs.Ytpccocmiadpgiaa
open Go.RowKit

theorem jp_not (b : Fm) (P : List Fm) : jp (-2) (b :: P) = .bi 4 b .fa :: P := by cases P <;> simp [jp]
theorem jp_un {m : Int} (h : m = 5 ∨ m = 6) (b : Fm) (P : List Fm) : jp m (b :: P) = .un m b :: P := by
  rcases h with rfl | rfl <;> cases P <;> simp [jp]
theorem jp_bin {m : Int} (h : m = 2 ∨ m = 3 ∨ m = 4) (a b : Fm) (P : List Fm) : jp m (b :: a :: P) = .bi m a b :: P := by
  rcases h with rfl | rfl | rfl <;> simp [jp]
theorem nb_le (W : List Int) : nb W ≤ W.length := by
  induction W with
  | nil => exact Nat.le_refl _
  | cons m W ih => rw [nb, List.length_cons]; split <;> omega

theorem joinParts_any (R lo ex n : Nat) (m : Int) (W : List Int) (P : List Fm) (w : World) (hn : n ≤ 200) (hwp : WP 1 n (m :: W) P) (hm : m ≠ -1) (hlo : lo ≤ w.heap.size) (h : Fl w R lo ex W P) :
    Calls Try.prog 80 #[.pointer (some ⟨R, 0, none⟩), .int .i64 m] w fun e w' => (∃ v, e = .returned v) ∧ Fl w' R lo ex W (jp m P) ∧ BX R lo w w' := by
  obtain ⟨h1, h2, h3, h4⟩ := hwp
  have hk := nb_le W
  simp only [List.length_cons] at h4
  rcases h1 m (List.mem_cons_self ..) with e | e | e
  · subst e
    match P, h2, h4, h with
    | [], h2, _, _ => simp [nb] at h2
    | b :: P', h2, h4, h =>
      rw [jp_not]
      have e1 : (if ((-2 : Int) = 2 ∨ (-2 : Int) = 3 ∨ (-2 : Int) = 4) then 1 else 0) = 0 := by decide
      simp only [nb, e1, List.length_cons] at h2
      simp only [ms'] at h4
      exact joinNot_any R lo ex W P' b w (by omega) hlo (by omega) h
  · exact absurd e hm
  · rcases e with e | e | e | e | e
    · match P, h2, h4, h with
      | [], h2, _, _ => simp [nb, e] at h2
      | [a], h2, _, _ => simp [nb, e] at h2
      | b :: a :: P', h2, h4, h =>
        rw [jp_bin (.inl e)]
        simp only [nb, if_pos (show m = 2 ∨ m = 3 ∨ m = 4 from .inl e), List.length_cons] at h2
        simp only [ms'] at h4
        exact joinBin_any R lo ex W P' a b m (.inl e) w (by omega) hlo (by omega) h
    · match P, h2, h4, h with
      | [], h2, _, _ => simp [nb, e] at h2
      | [a], h2, _, _ => simp [nb, e] at h2
      | b :: a :: P', h2, h4, h =>
        rw [jp_bin (.inr (.inl e))]
        simp only [nb, if_pos (show m = 2 ∨ m = 3 ∨ m = 4 from .inr (.inl e)), List.length_cons] at h2
        simp only [ms'] at h4
        exact joinBin_any R lo ex W P' a b m (.inr (.inl e)) w (by omega) hlo (by omega) h
    · match P, h2, h4, h with
      | [], h2, _, _ => simp [nb, e] at h2
      | [a], h2, _, _ => simp [nb, e] at h2
      | b :: a :: P', h2, h4, h =>
        rw [jp_bin (.inr (.inr e))]
        simp only [nb, if_pos (show m = 2 ∨ m = 3 ∨ m = 4 from .inr (.inr e)), List.length_cons] at h2
        simp only [ms'] at h4
        exact joinBin_any R lo ex W P' a b m (.inr (.inr e)) w (by omega) hlo (by omega) h
    · match P, h2, h4, h with
      | [], h2, _, _ => simp [nb, e] at h2
      | b :: P', h2, h4, h =>
        rw [jp_un (.inl e)]
        simp only [nb, if_neg (show ¬ (m = 2 ∨ m = 3 ∨ m = 4) by omega), List.length_cons] at h2
        simp only [ms'] at h4
        exact joinUn_any R lo ex W P' b m (.inl e) w (by omega) hlo (by omega) h
    · match P, h2, h4, h with
      | [], h2, _, _ => simp [nb, e] at h2
      | b :: P', h2, h4, h =>
        rw [jp_un (.inr e)]
        simp only [nb, if_neg (show ¬ (m = 2 ∨ m = 3 ∨ m = 4) by omega), List.length_cons] at h2
        simp only [ms'] at h4
        exact joinUn_any R lo ex W P' b m (.inr e) w (by omega) hlo (by omega) h

theorem bindOf_any (m : Int) (w : World) : Calls Try.prog 79 #[.int .i64 m] w fun e w' => e = .returned (.int .i64 (bnd m)) ∧ w = w' := by
  by_cases e1 : m = -1
  · subst e1
    go_enter Try.func79, Try.ntmps79
    go_wp2
    go_ret
    exact ⟨rfl, rfl⟩
  by_cases e2 : m = 4
  · subst e2
    go_enter Try.func79, Try.ntmps79
    go_wp2
    go_ret
    exact ⟨rfl, rfl⟩
  by_cases e3 : m = 3
  · subst e3
    go_enter Try.func79, Try.ntmps79
    go_wp2
    go_ret
    exact ⟨rfl, rfl⟩
  by_cases e4 : m = 2
  · subst e4
    go_enter Try.func79, Try.ntmps79
    go_wp2
    go_ret
    exact ⟨rfl, rfl⟩
  by_cases e5 : m = 5
  · subst e5
    go_enter Try.func79, Try.ntmps79
    go_wp2
    go_ret
    exact ⟨rfl, rfl⟩
  by_cases e6 : m = 6
  · subst e6
    go_enter Try.func79, Try.ntmps79
    go_wp2
    go_ret
    exact ⟨rfl, rfl⟩
  by_cases e7 : m = -2
  · subst e7
    go_enter Try.func79, Try.ntmps79
    go_wp2
    go_ret
    exact ⟨rfl, rfl⟩
  have E : bnd m = 5 := by simp [bnd, e1, e2, e3, e4, e5, e6, e7]
  go_enter Try.func79, Try.ntmps79
  go_wp2
  go_ret
  exact ⟨by rw [E]; rfl, rfl⟩

end Go.Proofs.Ytpccocmiadpgiaa
