/- Contracts of the program's normalOf at every formula. Conditions: those in the theorems. -/
import Derived.Test.YtbhgedabcclimaaNnS
import Derived.BigRegion
namespace Go.Proofs.Ytbhgedabcclimaa
open Go.RowKit

theorem slClone_any (xs : List Nd) (b off len cap : Nat) (w : World) (hl : len ≤ 4194304) (h : AtN w (some ⟨b, off, none⟩) len xs) :
    Calls Try.prog 76 #[.slice (some ⟨b, off, none⟩) len cap] w fun e w' => ∃ v, e = .returned v ∧ OwnN w' w.heap.size v xs ∧ Below w.heap.size w w' := by
  have H := Lib.hid h
  clear h
  have b0 : Below w.heap.size w (w.alloc (.cells #[] 61)) := (Below.refl _ _).alloc (Nat.le_refl _) _
  have B0 := Lib.hid b0
  have L0 : Hid (OwnN (w.alloc (.cells #[] 61)) w.heap.size (.slice (some ⟨w.heap.size, 0, none⟩) 0 0) []) := World.ownsRow_lit w #[] 0 (Nat.le_refl _) (by decide) rfl
  clear b0
  have qT : ∀ (w : World) (a : Option Addr) (n c n' c' : Nat), (binOp .eql 26 (.slice a n c) (.slice none n' c')).run Try.prog w = .ok (.bool a.isNone) w := fun w a n c n' c' => Lib.run_eql_slice_nil w _ _ a n c n' c' Try.underlying26
  go_enter Try.func76, Try.ntmps76
  go_wp2_with (at_builtin; refine list_appN0 rfl _ _ rfl w.heap.size _ [] rfl L0.out xs b off len cap rfl (H.out.keep B0.out (Nat.le_refl _)) (by simp; omega) B0.out.size ?_)
  intro v1 w1 ho1 hg1
  have b1 : Below w.heap.size w w1 := below_appN (Below.refl _ _) B0.out (Nat.le_refl _) L0.out hg1
  have B1 := Lib.hid b1
  have O1 := Lib.hid ho1
  clear b1 ho1 hg1
  go_wp2
  go_ret
  exact ⟨_, rfl, O1.out, B1.out⟩

def dlV (k : Int) : Int := if k = 2 then 3 else if k = 3 then 2 else if k = 5 then 6 else 5
theorem dualKind_any (k : Int) (w : World) : Calls Try.prog 136 #[.int .i64 k] w fun e w' => e = .returned (.int .i64 (dlV k)) ∧ w = w' := by
  by_cases h2 : k = 2
  · subst h2
    go_enter Try.func136, Try.ntmps136
    go_wp2
    go_ret
    exact ⟨rfl, rfl⟩
  · by_cases h3 : k = 3
    · subst h3
      go_enter Try.func136, Try.ntmps136
      go_wp2
      go_ret
      exact ⟨rfl, rfl⟩
    · by_cases h5 : k = 5
      · subst h5
        go_enter Try.func136, Try.ntmps136
        go_wp2
        go_ret
        exact ⟨rfl, rfl⟩
      · have hd : dlV k = 5 := by rw [dlV, if_neg h2, if_neg h3, if_neg h5]
        rw [hd]
        clear hd
        go_enter Try.func136, Try.ntmps136
        go_wp2
        go_ret
        exact ⟨rfl, rfl⟩
def nkV (k : Int) (p : Bool) : Int := if p then (if k = 4 then 3 else k) else (if k = 4 then 2 else dlV k)
theorem normalKind_any (k : Int) (p : Bool) (w : World) : Calls Try.prog 125 #[.int .i64 k, .bool p] w fun e w' => e = .returned (.int .i64 (nkV k p)) ∧ w = w' := by
  by_cases h4 : k = 4
  · subst h4
    cases p
    all_goals
      go_enter Try.func125, Try.ntmps125
      go_wp2_with (go_at_call 136; refine (dualKind_any _ _).mono ?_; rintro e w' ⟨rfl, rfl⟩)
      go_ret
      exact ⟨rfl, rfl⟩
  · have h4' : (k == 4) = false := by simpa using h4
    cases p
    all_goals
      go_enter Try.func125, Try.ntmps125
      go_wp2_with (go_at_call 136; refine (dualKind_any _ _).mono ?_; rintro e w' ⟨rfl, rfl⟩)
      go_ret
      exact ⟨ret_int (by simp [nkV, h4]), rfl⟩

theorem normalOfAtom_any (xs : List Nd) (p : Bool) (b off len cap : Nat) (w : World) (hl : len ≤ 4096) (h0 : 0 < len) (h : AtN w (some ⟨b, off, none⟩) len xs) :
    Calls Try.prog 124 #[.slice (some ⟨b, off, none⟩) len cap, .bool p] w fun e w' => ∃ v, e = .returned v ∧ OwnN w' w.heap.size v (if p then xs else (4, 0) :: (xs ++ [(1, 0)])) ∧ Below w.heap.size w w' := by
  have H := Lib.hid h
  clear h
  cases p
  · go_enter Try.func124, Try.ntmps124
    go_wp2_with fail
    refine (notNodes_any xs _ _ _ _ (by omega) h0 H.out).mono ?_
    rintro e w1 ⟨v1, rfl, ho1, hb1⟩
    have O1 := Lib.hid ho1
    have B1 := Lib.hid hb1
    clear ho1 hb1
    go_wp2
    go_ret
    exact ⟨_, rfl, O1.out, B1.out⟩
  · go_enter Try.func124, Try.ntmps124
    go_wp2_with fail
    refine (slClone_any xs _ _ _ _ _ (by omega) H.out).mono ?_
    rintro e w1 ⟨v1, rfl, ho1, hb1⟩
    have O1 := Lib.hid ho1
    have B1 := Lib.hid hb1
    clear ho1 hb1
    go_wp2
    go_ret
    exact ⟨_, rfl, O1.out, B1.out⟩

/-- What normalOf does at a formula. -/
def NofC (f : Fm) : Prop := ∀ (p : Bool) (b off len cap : Nat) (w : World), len ≤ 4096 → AtF w b off len cap f →
    Calls Try.prog 96 #[.slice (some ⟨b, off, none⟩) len cap, .bool p] w fun e w' => ∃ v, e = .returned v ∧ OwnN w' w.heap.size v (f.nn p).enc ∧ Below w.heap.size w w'
theorem NofC.nd {f : Fm} (h : NofC f) (p : Bool) (b off len cap : Nat) (w : World) (hl : len ≤ 4096) (ha : AtF w b off len cap f) :
    Calls Try.prog 96 #[.slice (some ⟨b, off, none⟩) len cap, .bool p] w fun e w' => ∃ a' n' c', e = .returned (.slice a' n' c') ∧ 0 < n' ∧ n' ≤ 12288 ∧ Hid (OwnN w' w.heap.size (.slice a' n' c') (f.nn p).enc ∧ AtN w' a' n' (f.nn p).enc ∧ Below w.heap.size w w') := by
  have hlen := ha.len
  refine (h p b off len cap w hl ha).mono ?_
  rintro e w1 ⟨v1, rfl, ho, hb⟩
  obtain ⟨a1, c1, rfl, at1, -⟩ := ho.at
  have h1 := Fm.enc_len (f.nn p)
  have h2 := (f.nn p).sz_pos
  have h3 := f.nn_sz p
  exact ⟨a1, _, c1, rfl, by omega, by omega, (show _ ∧ _ ∧ _ from ⟨ho, at1, hb⟩)⟩
theorem nof_va (s : Int) : NofC (.va s) := by
  intro p b off len cap w hl h
  obtain ⟨hb, c1, c2⟩ := h.head
  have hlen := h.len
  have h0 : 0 < len := by rw [hlen]; exact Fm.sz_pos _
  replace c1 : w.cell? ⟨b, off, none⟩ = some (.int .i64 0) := c1
  have H := Lib.hid h.1
  have E := Lib.hid (show (if p = true then Fm.enc (.va s) else (4, 0) :: (Fm.enc (.va s) ++ [(1, 0)])) = (Fm.nn (.va s) p).enc by cases p <;> rfl)
  clear h hlen c2
  go_enter Try.func96, Try.ntmps96
  go_wp2_with fail
  refine (partCount_any _ _).mono ?_
  rw [show prt 0 = 0 from rfl]
  rintro e w' ⟨rfl, rfl⟩
  go_wp2_with fail
  refine (normalOfAtom_any _ p _ _ _ _ _ hl h0 H.out).mono ?_
  rw [E.out]
  rintro e w1 ⟨v1, rfl, ho1, hb1⟩
  have O1 := Lib.hid ho1
  have B1 := Lib.hid hb1
  clear ho1 hb1
  go_wp2
  go_ret
  exact ⟨_, rfl, O1.out, B1.out⟩
theorem nof_fa : NofC .fa := by
  intro p b off len cap w hl h
  obtain ⟨hb, c1, c2⟩ := h.head
  have hlen := h.len
  have h0 : 0 < len := by rw [hlen]; exact Fm.sz_pos _
  replace c1 : w.cell? ⟨b, off, none⟩ = some (.int .i64 1) := c1
  have H := Lib.hid h.1
  have E := Lib.hid (show (if p = true then Fm.enc .fa else (4, 0) :: (Fm.enc .fa ++ [(1, 0)])) = (Fm.nn .fa p).enc by cases p <;> rfl)
  clear h hlen c2
  go_enter Try.func96, Try.ntmps96
  go_wp2_with fail
  refine (partCount_any _ _).mono ?_
  rw [show prt 1 = 0 from rfl]
  rintro e w' ⟨rfl, rfl⟩
  go_wp2_with fail
  refine (normalOfAtom_any _ p _ _ _ _ _ hl h0 H.out).mono ?_
  rw [E.out]
  rintro e w1 ⟨v1, rfl, ho1, hb1⟩
  have O1 := Lib.hid ho1
  have B1 := Lib.hid hb1
  clear ho1 hb1
  go_wp2
  go_ret
  exact ⟨_, rfl, O1.out, B1.out⟩
set_option maxHeartbeats 2000000 in
theorem nof_un (k : Int) (g : Fm) (hk : k = 5 ∨ k = 6) (ih : NofC g) : NofC (.un k g) := by
  intro p b off len cap w hl h
  obtain ⟨hb, c1, c2⟩ := h.head
  have hlen := h.len
  have hsz : (Fm.un k g).sz = 1 + g.sz := rfl
  have hgp := g.sz_pos
  have h0 : 1 < len := by omega
  have h1 := h.2.1
  have h2 := h.2.2
  unfold maxLen at h2
  replace c1 : w.cell? ⟨b, off, none⟩ = some (.int .i64 k) := c1
  have G := Lib.hid h.under
  have IH := Lib.hid (ih.nd p b (off + 2) (len - 1) (cap - 1) w (by omega) G.out)
  have Q := Lib.hid (show prt k = 1 by rcases hk with rfl | rfl <;> rfl)
  have M := Lib.hid (show (k == 5 || k == 6) = true by rcases hk with rfl | rfl <;> rfl)
  have E := Lib.hid (show (Fm.un k g).nn p = .un (nkV k p) (g.nn p) by rcases hk with rfl | rfl <;> cases p <;> rfl)
  rw [E.out]
  clear h hlen hsz ih c2 hk
  go_enter Try.func96, Try.ntmps96
  go_wp2_with fail
  refine (partCount_any _ _).mono ?_
  rw [Q.out]
  rintro e w' ⟨rfl, rfl⟩
  go_wp2_with fail
  refine (normalKind_any _ _ _).mono ?_
  rintro e w' ⟨rfl, rfl⟩
  go_wp2_with fail
  refine (isModal_any _ _).mono ?_
  rw [M.out]
  rintro e w' ⟨rfl, rfl⟩
  go_wp2_with fail
  refine IH.out.mono ?_
  rintro e w1 ⟨a1, n1, c1', rfl, hn0, hn1, hh1⟩
  go_wp2_with fail
  refine (join1_any _ _ a1 n1 c1' w1.heap.size w1 (by omega) hn0 hh1.out.2.1 _ rfl).mono ?_
  rintro e w2 ⟨v2, rfl, ho2, hb2⟩
  have B2 := Lib.hid (hh1.out.2.2.trans (hb2.mono hh1.out.2.2.size))
  have O2 := Lib.hid (ho2.mono hh1.out.2.2.size)
  clear ho2 hb2 hh1
  go_wp2
  go_ret
  exact ⟨_, rfl, O2.out, B2.out⟩
set_option maxHeartbeats 8000000 in
theorem nof_bi (k : Int) (g d : Fm) (hk : k = 2 ∨ k = 3) (hok : (Fm.bi k g d).ok) (hg : g.ok) (ihg : NofC g) (ihd : NofC d) : NofC (.bi k g d) := by
  intro p b off len cap w hl h
  obtain ⟨hb, c1, c2⟩ := h.head
  have hlen := h.len
  have hcap := h.2.1
  have hsz : (Fm.bi k g d).sz = 1 + g.sz + d.sz := rfl
  have hgp := g.sz_pos
  have hdp := d.sz_pos
  have h0 : 0 < len := by omega
  have hcm := h.2.2
  unfold maxLen at hcm
  replace c1 : w.cell? ⟨b, off, none⟩ = some (.int .i64 k) := c1
  obtain ⟨e, he⟩ : ∃ e, e = 1 + g.sz := ⟨_, rfl⟩
  have he1 : 1 < e := by omega
  have he2 : e < len := by omega
  have hce : ¬ cap = e := by omega
  have FL := Lib.hid (show AtF w b (off + 2) (e - 1) (cap - 1) g by have := h.left; rwa [show g.sz = e - 1 by omega] at this)
  have FR := Lib.hid (show AtF w b (off + e * 2) (len - e) (cap - e) d by have := h.right; rwa [← he, show d.sz = len - e by omega] at this)
  have H := Lib.hid h.1
  have PE := Lib.hid (show pe (Fm.bi k g d).enc (len - 1) 1 1 = (e : Int) by
    have hx := pe_end g hg (xs := (Fm.bi k g d).enc) (i := 1) (r := d.enc) (by simp [Fm.enc])
    rw [Fm.enc_len, ← hlen] at hx
    rw [hx, he])
  have NG := Lib.hid (isNegAt_any (Fm.bi k g d).enc b off len cap w (by omega) h.1 (.bi k g d) hok 0 [] (by simp))
  have IG := Lib.hid ihg
  have ID := Lib.hid ihd
  clear h hlen hsz c2 ihg ihd he
  have Q := Lib.hid (show prt k = 2 by rcases hk with rfl | rfl <;> rfl)
  have M := Lib.hid (show (k == 5 || k == 6) = false by rcases hk with rfl | rfl <;> rfl)
  have N := Lib.hid (show (Fm.bi k g d).isNeg = false by rcases hk with rfl | rfl <;> rfl)
  have E := Lib.hid (show (Fm.bi k g d).nn p = .bi (nkV k p) (g.nn p) (d.nn p) by rw [Fm.nn, if_neg (by omega)]; rcases hk with rfl | rfl <;> cases p <;> rfl)
  have h4 : (k == 4) = false := by rcases hk with rfl | rfl <;> rfl
  rw [E.out]
  clear hk NG
  go_enter Try.func96, Try.ntmps96
  go_wp2_with fail
  refine (partCount_any _ _).mono ?_
  rw [Q.out]
  rintro r w' ⟨rfl, rfl⟩
  go_wp2_with fail
  refine (normalKind_any _ _ _).mono ?_
  rintro r w' ⟨rfl, rfl⟩
  go_wp2_with fail
  refine (isModal_any _ _).mono ?_
  rw [M.out]
  rintro r w' ⟨rfl, rfl⟩
  go_wp2_with fail
  refine (partEnd_any _ _ _ _ 1 e _ (by omega) (by omega) H.out PE.out (by omega)).mono ?_
  rintro r w' ⟨rfl, rfl⟩
  go_wp2_with fail
  go_region
  all_goals
    have BD := Lib.hid ((Below.refl w.heap.size w).drew)
    have ND := Lib.hid (isNegAt_any (Fm.bi k g d).enc b off len cap w.drew (by omega) (H.out.keep BD.out (Nat.le_refl _)) (.bi k g d) hok 0 [] (by simp))
    go_wp2_with fail
    refine ND.out.mono ?_
    rw [N.out]
    rintro r w' ⟨rfl, rfl⟩
    go_wp2_with fail
    refine (IG.out.nd p b (off + 2) (e - 1) (cap - 1) _ (by omega) (FL.out.keep BD.out (Nat.le_refl _))).mono ?_
    rintro r w1 ⟨a1, n1, c1', rfl, hn1, hm1, hh1⟩
    have B1 := Lib.hid (BD.out.trans (hh1.out.2.2.mono BD.out.size))
    go_wp2_with fail
    refine (ID.out.nd p b (off + e * 2) (len - e) (cap - e) _ (by omega) (FR.out.keep B1.out (Nat.le_refl _))).mono ?_
    rintro r w2 ⟨a2, n2, c2', rfl, hn2, hm2, hh2⟩
    have B2 := Lib.hid (B1.out.trans (hh2.out.2.2.mono B1.out.size))
    go_wp2_with fail
    refine (join2_any _ _ _ a1 a2 n1 n2 c1' c2' w2.heap.size w2 (by omega) hn1 hn2 (hh1.out.2.1.keep hh2.out.2.2 (Nat.le_refl _)) hh2.out.2.1 _ rfl).mono ?_
    rintro r w3 ⟨v3, rfl, ho3, hb3⟩
    have B3 := Lib.hid (B2.out.trans (hb3.mono B2.out.size))
    have O3 := Lib.hid (ho3.mono B2.out.size)
    clear ho3 hb3 hh1 hh2
    go_wp2
    go_ret
    exact ⟨_, rfl, O3.out, B3.out⟩
set_option maxHeartbeats 8000000 in
theorem nof_imp (g d : Fm) (hok : (Fm.bi 4 g d).ok) (hg : g.ok) (hd : d.isFa = false) (ihg : NofC g) (ihd : NofC d) : NofC (.bi 4 g d) := by
  intro p b off len cap w hl h
  obtain ⟨hb, c1, c2⟩ := h.head
  have hlen := h.len
  have hcap := h.2.1
  have hsz : (Fm.bi 4 g d).sz = 1 + g.sz + d.sz := rfl
  have hgp := g.sz_pos
  have hdp := d.sz_pos
  have h0 : 0 < len := by omega
  have hcm := h.2.2
  unfold maxLen at hcm
  replace c1 : w.cell? ⟨b, off, none⟩ = some (.int .i64 4) := c1
  obtain ⟨e, he⟩ : ∃ e, e = 1 + g.sz := ⟨_, rfl⟩
  have he1 : 1 < e := by omega
  have he2 : e < len := by omega
  have hce : ¬ cap = e := by omega
  have FL := Lib.hid (show AtF w b (off + 2) (e - 1) (cap - 1) g by have := h.left; rwa [show g.sz = e - 1 by omega] at this)
  have FR := Lib.hid (show AtF w b (off + e * 2) (len - e) (cap - e) d by have := h.right; rwa [← he, show d.sz = len - e by omega] at this)
  have H := Lib.hid h.1
  have PE := Lib.hid (show pe (Fm.bi 4 g d).enc (len - 1) 1 1 = (e : Int) by
    have hx := pe_end g hg (xs := (Fm.bi 4 g d).enc) (i := 1) (r := d.enc) (by simp [Fm.enc])
    rw [Fm.enc_len, ← hlen] at hx
    rw [hx, he])
  have NG := Lib.hid (isNegAt_any (Fm.bi 4 g d).enc b off len cap w (by omega) h.1 (.bi 4 g d) hok 0 [] (by simp))
  have IG := Lib.hid ihg
  have ID := Lib.hid ihd
  clear h hlen hsz c2 ihg ihd he
  have Q := Lib.hid (show prt 4 = 2 from rfl)
  have M := Lib.hid (show ((4 : Int) == 5 || (4 : Int) == 6) = false from rfl)
  have N := Lib.hid (show (Fm.bi 4 g d).isNeg = false by show ((4 : Int) == 4 && d.isFa) = false; rw [hd]; rfl)
  rw [show (Fm.bi 4 g d).nn p = .bi (nkV 4 p) (g.nn (!p)) (d.nn p) by rw [nn_imp g d p hd]; cases p <;> rfl]
  clear NG hd
  go_enter Try.func96, Try.ntmps96
  go_wp2_with fail
  refine (partCount_any _ _).mono ?_
  rw [Q.out]
  rintro r w' ⟨rfl, rfl⟩
  go_wp2_with fail
  refine (normalKind_any _ _ _).mono ?_
  rintro r w' ⟨rfl, rfl⟩
  go_wp2_with fail
  refine (isModal_any _ _).mono ?_
  rw [M.out]
  rintro r w' ⟨rfl, rfl⟩
  go_wp2_with fail
  refine (partEnd_any _ _ _ _ 1 e _ (by omega) (by omega) H.out PE.out (by omega)).mono ?_
  rintro r w' ⟨rfl, rfl⟩
  go_wp2_with fail
  go_region
  all_goals
    have BD := Lib.hid ((Below.refl w.heap.size w).drew)
    have ND := Lib.hid (isNegAt_any (Fm.bi 4 g d).enc b off len cap w.drew (by omega) (H.out.keep BD.out (Nat.le_refl _)) (.bi 4 g d) hok 0 [] (by simp))
    go_wp2_with fail
    refine ND.out.mono ?_
    rw [N.out]
    rintro r w' ⟨rfl, rfl⟩
    go_wp2_with fail
    refine (IG.out.nd (!p) b (off + 2) (e - 1) (cap - 1) _ (by omega) (FL.out.keep BD.out (Nat.le_refl _))).mono ?_
    rintro r w1 ⟨a1, n1, c1', rfl, hn1, hm1, hh1⟩
    have B1 := Lib.hid (BD.out.trans (hh1.out.2.2.mono BD.out.size))
    go_wp2_with fail
    refine (ID.out.nd p b (off + e * 2) (len - e) (cap - e) _ (by omega) (FR.out.keep B1.out (Nat.le_refl _))).mono ?_
    rintro r w2 ⟨a2, n2, c2', rfl, hn2, hm2, hh2⟩
    have B2 := Lib.hid (B1.out.trans (hh2.out.2.2.mono B1.out.size))
    go_wp2_with fail
    refine (join2_any _ _ _ a1 a2 n1 n2 c1' c2' w2.heap.size w2 (by omega) hn1 hn2 (hh1.out.2.1.keep hh2.out.2.2 (Nat.le_refl _)) hh2.out.2.1 _ rfl).mono ?_
    rintro r w3 ⟨v3, rfl, ho3, hb3⟩
    have B3 := Lib.hid (B2.out.trans (hb3.mono B2.out.size))
    have O3 := Lib.hid (ho3.mono B2.out.size)
    clear ho3 hb3 hh1 hh2
    go_wp2
    go_ret
    exact ⟨_, rfl, O3.out, B3.out⟩
set_option maxHeartbeats 8000000 in
theorem nof_no (g d : Fm) (hd0 : d = .fa) (hok : (Fm.bi 4 g d).ok) (hg : g.ok) (ihg : NofC g) (ihd : NofC d) : NofC (.bi 4 g d) := by
  intro p b off len cap w hl h
  obtain ⟨hb, c1, c2⟩ := h.head
  have hlen := h.len
  have hcap := h.2.1
  have hsz : (Fm.bi 4 g d).sz = 1 + g.sz + d.sz := rfl
  have hgp := g.sz_pos
  have hdp := d.sz_pos
  have h0 : 0 < len := by omega
  have hcm := h.2.2
  unfold maxLen at hcm
  replace c1 : w.cell? ⟨b, off, none⟩ = some (.int .i64 4) := c1
  obtain ⟨e, he⟩ : ∃ e, e = 1 + g.sz := ⟨_, rfl⟩
  have he1 : 1 < e := by omega
  have he2 : e < len := by omega
  have hce : ¬ cap = e := by omega
  have FL := Lib.hid (show AtF w b (off + 2) (e - 1) (cap - 1) g by have := h.left; rwa [show g.sz = e - 1 by omega] at this)
  have FR := Lib.hid (show AtF w b (off + e * 2) (len - e) (cap - e) d by have := h.right; rwa [← he, show d.sz = len - e by omega] at this)
  have H := Lib.hid h.1
  have PE := Lib.hid (show pe (Fm.bi 4 g d).enc (len - 1) 1 1 = (e : Int) by
    have hx := pe_end g hg (xs := (Fm.bi 4 g d).enc) (i := 1) (r := d.enc) (by simp [Fm.enc])
    rw [Fm.enc_len, ← hlen] at hx
    rw [hx, he])
  have NG := Lib.hid (isNegAt_any (Fm.bi 4 g d).enc b off len cap w (by omega) h.1 (.bi 4 g d) hok 0 [] (by simp))
  have IG := Lib.hid ihg
  have ID := Lib.hid ihd
  clear h hlen hsz c2 ihg ihd he
  have Q := Lib.hid (show prt 4 = 2 from rfl)
  have M := Lib.hid (show ((4 : Int) == 5 || (4 : Int) == 6) = false from rfl)
  have N := Lib.hid (show (Fm.bi 4 g d).isNeg = true by rw [hd0]; rfl)
  rw [show (Fm.bi 4 g d).nn p = g.nn (!p) by rw [hd0]; exact nn_no g p]
  clear NG hd0
  go_enter Try.func96, Try.ntmps96
  go_wp2_with fail
  refine (partCount_any _ _).mono ?_
  rw [Q.out]
  rintro r w' ⟨rfl, rfl⟩
  go_wp2_with fail
  refine (normalKind_any _ _ _).mono ?_
  rintro r w' ⟨rfl, rfl⟩
  go_wp2_with fail
  refine (isModal_any _ _).mono ?_
  rw [M.out]
  rintro r w' ⟨rfl, rfl⟩
  go_wp2_with fail
  refine (partEnd_any _ _ _ _ 1 e _ (by omega) (by omega) H.out PE.out (by omega)).mono ?_
  rintro r w' ⟨rfl, rfl⟩
  go_wp2_with fail
  go_region
  all_goals
    have BD := Lib.hid ((Below.refl w.heap.size w).drew)
    have ND := Lib.hid (isNegAt_any (Fm.bi 4 g d).enc b off len cap w.drew (by omega) (H.out.keep BD.out (Nat.le_refl _)) (.bi 4 g d) hok 0 [] (by simp))
    go_wp2_with fail
    refine ND.out.mono ?_
    rw [N.out]
    rintro r w' ⟨rfl, rfl⟩
    go_wp2_with fail
    refine (IG.out.nd (!p) b (off + 2) (e - 1) (cap - 1) _ (by omega) (FL.out.keep BD.out (Nat.le_refl _))).mono ?_
    rintro r w1 ⟨a1, n1, c1', rfl, hn1, hm1, hh1⟩
    go_wp2
    go_ret
    exact ⟨_, rfl, hh1.out.1, BD.out.trans hh1.out.2.2⟩
theorem nof_all (f : Fm) (hf : f.ok) : NofC f := by
  induction f with
  | va s => exact nof_va s
  | fa => exact nof_fa
  | un k a ih => exact nof_un k a hf.1 (ih hf.2)
  | bi k a b iha ihb =>
    by_cases hk : k = 4
    · subst hk
      cases hb : b.isFa
      · exact nof_imp a b hf hf.2.1 hb (iha hf.2.1) (ihb hf.2.2)
      · have : b = .fa := by
          cases b with
          | fa => rfl
          | _ => cases hb
        exact nof_no a b this hf hf.2.1 (iha hf.2.1) (ihb hf.2.2)
    · exact nof_bi k a b (by have := hf.1; omega) hf hf.2.1 (iha hf.2.1) (ihb hf.2.2)

end Go.Proofs.Ytbhgedabcclimaa
