/- Contracts of the model's l03Normal at every formula. Conditions: those in the theorems. -/
import Derived.Test.YtbhgedabcclimaaNn
import Derived.Test.YtbhgedabcclimaaPut
import Derived.Test.YtbhgedabcclimaaNeg
namespace Go.Proofs.Ytbhgedabcclimaa
open Go.RowKit

/-- What l03Normal does at a formula. -/
def NormC (f : Fm) : Prop := ∀ (p : Bool) (b off len cap : Nat) (w : World), len ≤ 4096 → AtF w b off len cap f →
    Calls Try.prog 95 #[.slice (some ⟨b, off, none⟩) len cap, .bool p] w fun e w' => ∃ v, e = .returned v ∧ OwnN w' w.heap.size v (f.nn p).enc ∧ Below w.heap.size w w'
theorem NormC.nd {f : Fm} (h : NormC f) (p : Bool) (b off len cap : Nat) (w : World) (hl : len ≤ 4096) (ha : AtF w b off len cap f) :
    Calls Try.prog 95 #[.slice (some ⟨b, off, none⟩) len cap, .bool p] w fun e w' => ∃ a' n' c', e = .returned (.slice a' n' c') ∧ 0 < n' ∧ n' ≤ 12288 ∧ Hid (OwnN w' w.heap.size (.slice a' n' c') (f.nn p).enc ∧ AtN w' a' n' (f.nn p).enc ∧ Below w.heap.size w w') := by
  have hlen := ha.len
  refine (h p b off len cap w hl ha).mono ?_
  rintro e w1 ⟨v1, rfl, ho, hb⟩
  obtain ⟨a1, c1, rfl, at1, -⟩ := ho.at
  have h1 := Fm.enc_len (f.nn p)
  have h2 := (f.nn p).sz_pos
  have h3 := f.nn_sz p
  exact ⟨a1, _, c1, rfl, by omega, by omega, (show _ ∧ _ ∧ _ from ⟨ho, at1, hb⟩)⟩
theorem l02Left_c (k : Int) (f g : Fm) (hf : f.ok) (b off len cap : Nat) (w : World) (hl : len ≤ 1048576) (h : AtF w b off len cap (.bi k f g)) :
    Calls Try.prog 116 #[.slice (some ⟨b, off, none⟩) len cap] w fun e w' => e = .returned (.slice (some ⟨b, off + 2, none⟩) f.sz (cap - 1)) ∧ w = w' := l02Left_any k f g hf b off len cap w hl h
theorem norm_va (s : Int) : NormC (.va s) := by
  intro p b off len cap w hl h
  obtain ⟨hb, c1, c2⟩ := h.head
  have hlen := h.len
  have h0 : 0 < len := by rw [hlen]; exact Fm.sz_pos _
  replace c1 : w.cell? ⟨b, off, none⟩ = some (.int .i64 0) := c1
  have H := Lib.hid h.1
  clear h hlen c2
  cases p
  · go_enter Try.func95, Try.ntmps95
    go_wp2_with fail
    refine (l02Not_any [(0, s)] _ _ _ _ (by omega) h0 H.out).mono ?_
    rintro e w1 ⟨v1, rfl, ho1, hb1⟩
    have O1 := Lib.hid ho1
    have B1 := Lib.hid hb1
    clear ho1 hb1
    go_wp2
    go_ret
    exact ⟨_, rfl, O1.out, B1.out⟩
  · go_enter Try.func95, Try.ntmps95
    go_wp2_with fail
    refine (l02Own0_any [(0, s)] _ _ _ _ _ (by omega) H.out).mono ?_
    rintro e w1 ⟨v1, rfl, ho1, hb1⟩
    have O1 := Lib.hid ho1
    have B1 := Lib.hid hb1
    clear ho1 hb1
    go_wp2
    go_ret
    exact ⟨_, rfl, O1.out, B1.out⟩
theorem norm_fa : NormC .fa := by
  intro p b off len cap w hl h
  obtain ⟨hb, c1, c2⟩ := h.head
  have hlen := h.len
  have h0 : 0 < len := by rw [hlen]; exact Fm.sz_pos _
  replace c1 : w.cell? ⟨b, off, none⟩ = some (.int .i64 1) := c1
  have H := Lib.hid h.1
  clear h hlen c2
  clear H
  cases p
  · go_enter Try.func95, Try.ntmps95
    go_wp2_with fail
    refine (l02True_any _).mono ?_
    rintro e w1 ⟨v1, rfl, ho1, hb1⟩
    have O1 := Lib.hid ho1
    have B1 := Lib.hid hb1
    clear ho1 hb1
    go_wp2
    go_ret
    exact ⟨_, rfl, O1.out, B1.out⟩
  · go_enter Try.func95, Try.ntmps95
    go_wp2_with fail
    refine (l02False_any _).mono ?_
    rintro e w1 ⟨v1, rfl, ho1, hb1⟩
    have O1 := Lib.hid ho1
    have B1 := Lib.hid hb1
    clear ho1 hb1
    go_wp2
    go_ret
    exact ⟨_, rfl, O1.out, B1.out⟩
set_option maxHeartbeats 2000000 in
theorem norm_un (k : Int) (g : Fm) (hk : k = 5 ∨ k = 6) (ih : NormC g) : NormC (.un k g) := by
  intro p b off len cap w hl h
  obtain ⟨hb, c1, c2⟩ := h.head
  have hlen := h.len
  have hsz : (Fm.un k g).sz = 1 + g.sz := rfl
  have hgp := g.sz_pos
  have h0 : 1 < len := by omega
  have h1 := h.2.1
  have h2 := h.2.2
  unfold maxLen at h2
  replace c1 : w.cell? ⟨b, off, none⟩ = some (.int .i64 k) := c1
  have G := Lib.hid h.under
  have IH := Lib.hid (ih.nd p b (off + 2) (len - 1) (cap - 1) w (by omega) G.out)
  clear h hlen hsz ih c2
  rcases hk with rfl | rfl
  all_goals
    cases p
    all_goals
      go_enter Try.func95, Try.ntmps95
      go_wp2_with fail
      refine IH.out.mono ?_
      rintro e w1 ⟨a1, n1, c1', rfl, hn0, hn1, hh1⟩
      go_wp2_with fail
      refine (l02Pre_any _ _ a1 n1 c1' _ (by omega) hn0 hh1.out.2.1).mono ?_
      rintro e w2 ⟨v2, rfl, ho2, hb2⟩
      have B2 := Lib.hid (hh1.out.2.2.trans (hb2.mono hh1.out.2.2.size))
      have O2 := Lib.hid (ho2.mono hh1.out.2.2.size)
      clear ho2 hb2 hh1
      go_wp2
      go_ret
      exact ⟨_, rfl, O2.out, B2.out⟩
set_option maxHeartbeats 4000000 in
theorem norm_bi (k : Int) (g d : Fm) (hk : k = 2 ∨ k = 3) (hg : g.ok) (ihg : NormC g) (ihd : NormC d) : NormC (.bi k g d) := by
  intro p b off len cap w hl h
  obtain ⟨hb, c1, c2⟩ := h.head
  have hlen := h.len
  have hsz : (Fm.bi k g d).sz = 1 + g.sz + d.sz := rfl
  have hgp := g.sz_pos
  have hdp := d.sz_pos
  have h0 : 0 < len := by omega
  have hl2 : g.sz + d.sz + 1 ≤ 4096 := by omega
  replace c1 : w.cell? ⟨b, off, none⟩ = some (.int .i64 k) := c1
  have HF := Lib.hid h
  have FL := Lib.hid h.left
  have FR := Lib.hid h.right
  have IG := Lib.hid ihg
  have ID := Lib.hid ihd
  clear h hlen hsz c2 ihg ihd
  rcases hk with rfl | rfl
  · cases p
    · go_enter Try.func95, Try.ntmps95
      go_wp2_with fail
      refine (l02Left_any 2 g d hg b off len cap _ (by omega) HF.out).mono ?_
      rintro e w' ⟨rfl, rfl⟩
      go_wp2_with fail
      refine (IG.out.nd false b (off + 2) g.sz (cap - 1) _ (by omega) FL.out).mono ?_
      rintro e w1 ⟨a1, n1, c1', rfl, hn1, hm1, hh1⟩
      go_wp2_with fail
      refine (l02Right_any 2 g d hg b off len cap _ (by omega) (HF.out.keep hh1.out.2.2 (Nat.le_refl _))).mono ?_
      rintro e w' ⟨rfl, rfl⟩
      go_wp2_with fail
      refine (ID.out.nd false b (off + (1 + g.sz) * 2) d.sz (cap - (1 + g.sz)) _ (by omega) (FR.out.keep hh1.out.2.2 (Nat.le_refl _))).mono ?_
      rintro e w2 ⟨a2, n2, c2', rfl, hn2, hm2, hh2⟩
      go_wp2_with fail
      refine (l02Pair_any _ _ _ a1 a2 n1 n2 c1' c2' _ (by omega) hn1 hn2 (hh1.out.2.1.keep hh2.out.2.2 (Nat.le_refl _)) hh2.out.2.1).mono ?_
      rintro e w3 ⟨v3, rfl, ho3, hb3⟩
      have B2 := Lib.hid (hh1.out.2.2.trans (hh2.out.2.2.mono hh1.out.2.2.size))
      have B3 := Lib.hid (B2.out.trans (hb3.mono B2.out.size))
      have O3 := Lib.hid (ho3.mono B2.out.size)
      clear ho3 hb3 hh1 hh2
      go_wp2
      go_ret
      exact ⟨_, rfl, O3.out, B3.out⟩
    · go_enter Try.func95, Try.ntmps95
      go_wp2_with fail
      refine (l02Left_any 2 g d hg b off len cap _ (by omega) HF.out).mono ?_
      rintro e w' ⟨rfl, rfl⟩
      go_wp2_with fail
      refine (IG.out.nd true b (off + 2) g.sz (cap - 1) _ (by omega) FL.out).mono ?_
      rintro e w1 ⟨a1, n1, c1', rfl, hn1, hm1, hh1⟩
      go_wp2_with fail
      refine (l02Right_any 2 g d hg b off len cap _ (by omega) (HF.out.keep hh1.out.2.2 (Nat.le_refl _))).mono ?_
      rintro e w' ⟨rfl, rfl⟩
      go_wp2_with fail
      refine (ID.out.nd true b (off + (1 + g.sz) * 2) d.sz (cap - (1 + g.sz)) _ (by omega) (FR.out.keep hh1.out.2.2 (Nat.le_refl _))).mono ?_
      rintro e w2 ⟨a2, n2, c2', rfl, hn2, hm2, hh2⟩
      go_wp2_with fail
      refine (l02Pair_any _ _ _ a1 a2 n1 n2 c1' c2' _ (by omega) hn1 hn2 (hh1.out.2.1.keep hh2.out.2.2 (Nat.le_refl _)) hh2.out.2.1).mono ?_
      rintro e w3 ⟨v3, rfl, ho3, hb3⟩
      have B2 := Lib.hid (hh1.out.2.2.trans (hh2.out.2.2.mono hh1.out.2.2.size))
      have B3 := Lib.hid (B2.out.trans (hb3.mono B2.out.size))
      have O3 := Lib.hid (ho3.mono B2.out.size)
      clear ho3 hb3 hh1 hh2
      go_wp2
      go_ret
      exact ⟨_, rfl, O3.out, B3.out⟩
  · cases p
    · go_enter Try.func95, Try.ntmps95
      go_wp2_with fail
      refine (l02Left_any 3 g d hg b off len cap _ (by omega) HF.out).mono ?_
      rintro e w' ⟨rfl, rfl⟩
      go_wp2_with fail
      refine (IG.out.nd false b (off + 2) g.sz (cap - 1) _ (by omega) FL.out).mono ?_
      rintro e w1 ⟨a1, n1, c1', rfl, hn1, hm1, hh1⟩
      go_wp2_with fail
      refine (l02Right_any 3 g d hg b off len cap _ (by omega) (HF.out.keep hh1.out.2.2 (Nat.le_refl _))).mono ?_
      rintro e w' ⟨rfl, rfl⟩
      go_wp2_with fail
      refine (ID.out.nd false b (off + (1 + g.sz) * 2) d.sz (cap - (1 + g.sz)) _ (by omega) (FR.out.keep hh1.out.2.2 (Nat.le_refl _))).mono ?_
      rintro e w2 ⟨a2, n2, c2', rfl, hn2, hm2, hh2⟩
      go_wp2_with fail
      refine (l02Pair_any _ _ _ a1 a2 n1 n2 c1' c2' _ (by omega) hn1 hn2 (hh1.out.2.1.keep hh2.out.2.2 (Nat.le_refl _)) hh2.out.2.1).mono ?_
      rintro e w3 ⟨v3, rfl, ho3, hb3⟩
      have B2 := Lib.hid (hh1.out.2.2.trans (hh2.out.2.2.mono hh1.out.2.2.size))
      have B3 := Lib.hid (B2.out.trans (hb3.mono B2.out.size))
      have O3 := Lib.hid (ho3.mono B2.out.size)
      clear ho3 hb3 hh1 hh2
      go_wp2
      go_ret
      exact ⟨_, rfl, O3.out, B3.out⟩
    · go_enter Try.func95, Try.ntmps95
      go_wp2_with fail
      refine (l02Left_any 3 g d hg b off len cap _ (by omega) HF.out).mono ?_
      rintro e w' ⟨rfl, rfl⟩
      go_wp2_with fail
      refine (IG.out.nd true b (off + 2) g.sz (cap - 1) _ (by omega) FL.out).mono ?_
      rintro e w1 ⟨a1, n1, c1', rfl, hn1, hm1, hh1⟩
      go_wp2_with fail
      refine (l02Right_any 3 g d hg b off len cap _ (by omega) (HF.out.keep hh1.out.2.2 (Nat.le_refl _))).mono ?_
      rintro e w' ⟨rfl, rfl⟩
      go_wp2_with fail
      refine (ID.out.nd true b (off + (1 + g.sz) * 2) d.sz (cap - (1 + g.sz)) _ (by omega) (FR.out.keep hh1.out.2.2 (Nat.le_refl _))).mono ?_
      rintro e w2 ⟨a2, n2, c2', rfl, hn2, hm2, hh2⟩
      go_wp2_with fail
      refine (l02Pair_any _ _ _ a1 a2 n1 n2 c1' c2' _ (by omega) hn1 hn2 (hh1.out.2.1.keep hh2.out.2.2 (Nat.le_refl _)) hh2.out.2.1).mono ?_
      rintro e w3 ⟨v3, rfl, ho3, hb3⟩
      have B2 := Lib.hid (hh1.out.2.2.trans (hh2.out.2.2.mono hh1.out.2.2.size))
      have B3 := Lib.hid (B2.out.trans (hb3.mono B2.out.size))
      have O3 := Lib.hid (ho3.mono B2.out.size)
      clear ho3 hb3 hh1 hh2
      go_wp2
      go_ret
      exact ⟨_, rfl, O3.out, B3.out⟩
theorem nn_imp (g d : Fm) (p : Bool) (hd : d.isFa = false) : (Fm.bi 4 g d).nn p = .bi (if p then 3 else 2) (g.nn (!p)) (d.nn p) := by rw [Fm.nn, if_pos rfl, hd]; rfl
set_option maxHeartbeats 4000000 in
theorem norm_imp (g d : Fm) (hg : g.ok) (hdo : d.ok) (hd : d.isFa = false) (ihg : NormC g) (ihd : NormC d) : NormC (.bi 4 g d) := by
  intro p b off len cap w hl h
  obtain ⟨hb, c1, c2⟩ := h.head
  have hlen := h.len
  have hsz : (Fm.bi 4 g d).sz = 1 + g.sz + d.sz := rfl
  have hgp := g.sz_pos
  have hdp := d.sz_pos
  have h0 : 0 < len := by omega
  have hl2 : g.sz + d.sz + 1 ≤ 4096 := by omega
  replace c1 : w.cell? ⟨b, off, none⟩ = some (.int .i64 4) := c1
  have HF := Lib.hid h
  have FL := Lib.hid h.left
  have FR := Lib.hid h.right
  have IG := Lib.hid ihg
  have ID := Lib.hid ihd
  clear h hlen hsz c2 ihg ihd
  rw [nn_imp g d p hd]
  obtain ⟨hb1, cL, cL2⟩ := FL.out.head
  obtain ⟨hb2, cR, cR2⟩ := FR.out.head
  have hR : (d.kind == 1) = false := by rw [kind_fa hdo]; exact hd
  clear hb1 hb2 cL2 cR2 hd hdo
  cases hL : (g.kind == 1)
  all_goals
    cases p
    · go_enter Try.func95, Try.ntmps95
      go_wp2_with fail
      refine (l02Left_any 4 g d hg b off len cap _ (by omega) HF.out).mono ?_
      rintro e w' ⟨rfl, rfl⟩
      go_wp2_with fail
      refine (l02Right_any 4 g d hg b off len cap _ (by omega) HF.out).mono ?_
      rintro e w' ⟨rfl, rfl⟩
      go_wp2_with fail
      refine (IG.out.nd true b (off + 2) g.sz (cap - 1) _ (by omega) FL.out).mono ?_
      rintro e w1 ⟨a1, n1, c1', rfl, hn1, hm1, hh1⟩
      go_wp2_with fail
      refine (ID.out.nd false b (off + (1 + g.sz) * 2) d.sz (cap - (1 + g.sz)) _ (by omega) (FR.out.keep hh1.out.2.2 (Nat.le_refl _))).mono ?_
      rintro e w2 ⟨a2, n2, c2', rfl, hn2, hm2, hh2⟩
      go_wp2_with fail
      refine (l02Pair_any _ _ _ a1 a2 n1 n2 c1' c2' _ (by omega) hn1 hn2 (hh1.out.2.1.keep hh2.out.2.2 (Nat.le_refl _)) hh2.out.2.1).mono ?_
      rintro e w3 ⟨v3, rfl, ho3, hb3⟩
      have B2 := Lib.hid (hh1.out.2.2.trans (hh2.out.2.2.mono hh1.out.2.2.size))
      have B3 := Lib.hid (B2.out.trans (hb3.mono B2.out.size))
      have O3 := Lib.hid (ho3.mono B2.out.size)
      clear ho3 hb3 hh1 hh2
      go_wp2
      go_ret
      exact ⟨_, rfl, O3.out, B3.out⟩
    · go_enter Try.func95, Try.ntmps95
      go_wp2_with fail
      refine (l02Left_any 4 g d hg b off len cap _ (by omega) HF.out).mono ?_
      rintro e w' ⟨rfl, rfl⟩
      go_wp2_with fail
      refine (l02Right_any 4 g d hg b off len cap _ (by omega) HF.out).mono ?_
      rintro e w' ⟨rfl, rfl⟩
      go_wp2_with fail
      refine (IG.out.nd false b (off + 2) g.sz (cap - 1) _ (by omega) FL.out).mono ?_
      rintro e w1 ⟨a1, n1, c1', rfl, hn1, hm1, hh1⟩
      go_wp2_with fail
      refine (ID.out.nd true b (off + (1 + g.sz) * 2) d.sz (cap - (1 + g.sz)) _ (by omega) (FR.out.keep hh1.out.2.2 (Nat.le_refl _))).mono ?_
      rintro e w2 ⟨a2, n2, c2', rfl, hn2, hm2, hh2⟩
      go_wp2_with fail
      refine (l02Pair_any _ _ _ a1 a2 n1 n2 c1' c2' _ (by omega) hn1 hn2 (hh1.out.2.1.keep hh2.out.2.2 (Nat.le_refl _)) hh2.out.2.1).mono ?_
      rintro e w3 ⟨v3, rfl, ho3, hb3⟩
      have B2 := Lib.hid (hh1.out.2.2.trans (hh2.out.2.2.mono hh1.out.2.2.size))
      have B3 := Lib.hid (B2.out.trans (hb3.mono B2.out.size))
      have O3 := Lib.hid (ho3.mono B2.out.size)
      clear ho3 hb3 hh1 hh2
      go_wp2
      go_ret
      exact ⟨_, rfl, O3.out, B3.out⟩
theorem nn_no (g : Fm) (p : Bool) : (Fm.bi 4 g .fa).nn p = g.nn (!p) := by rw [Fm.nn, if_pos rfl]; rfl
set_option maxHeartbeats 4000000 in
theorem norm_no (g d : Fm) (hd0 : d = .fa) (hg : g.ok) (ihg : NormC g) (ihd : NormC d) : NormC (.bi 4 g d) := by
  intro p b off len cap w hl h
  obtain ⟨hb, c1, c2⟩ := h.head
  have hlen := h.len
  have hsz : (Fm.bi 4 g d).sz = 1 + g.sz + d.sz := rfl
  have hgp := g.sz_pos
  have hdp := d.sz_pos
  have h0 : 0 < len := by omega
  have hl2 : g.sz + d.sz + 1 ≤ 4096 := by omega
  replace c1 : w.cell? ⟨b, off, none⟩ = some (.int .i64 4) := c1
  have HF := Lib.hid h
  have FL := Lib.hid h.left
  have FR := Lib.hid h.right
  have IG := Lib.hid ihg
  have ID := Lib.hid ihd
  clear h hlen hsz c2 ihg ihd
  rw [show (Fm.bi 4 g d).nn p = g.nn (!p) by rw [hd0]; exact nn_no g p]
  obtain ⟨hb1, cL, cL2⟩ := FL.out.head
  obtain ⟨hb2, cR, cR2⟩ := FR.out.head
  replace cR : w.cell? ⟨b, off + (1 + g.sz) * 2, none⟩ = some (.int .i64 1) := by rw [cR, hd0]; rfl
  clear hb1 hb2 cL2 cR2 hd0 ID
  cases hL : (g.kind == 1)
  · cases p
    all_goals
      go_enter Try.func95, Try.ntmps95
      go_wp2_with fail
      refine (l02Left_any 4 g d hg b off len cap _ (by omega) HF.out).mono ?_
      rintro e w' ⟨rfl, rfl⟩
      go_wp2_with fail
      refine (l02Right_any 4 g d hg b off len cap _ (by omega) HF.out).mono ?_
      rintro e w' ⟨rfl, rfl⟩
      go_wp2_with fail
      refine (IG.out.nd _ b (off + 2) g.sz (cap - 1) _ (by omega) FL.out).mono ?_
      rintro e w1 ⟨a1, n1, c1', rfl, hn1, hm1, hh1⟩
      go_wp2
      go_ret
      exact ⟨_, rfl, hh1.out.1, hh1.out.2.2⟩
  · have hgf : g = .fa := by
      have := kind_fa hg
      rw [hL] at this
      cases g with
      | fa => rfl
      | _ => cases this
    cases p
    · have E := Lib.hid (show (g.nn (!false)).enc = [(1, 0)] by rw [hgf]; rfl)
      rw [E.out]
      clear hgf
      go_enter Try.func95, Try.ntmps95
      go_wp2_with fail
      refine (l02Left_any 4 g d hg b off len cap _ (by omega) HF.out).mono ?_
      rintro e w' ⟨rfl, rfl⟩
      go_wp2_with fail
      refine (l02Right_any 4 g d hg b off len cap _ (by omega) HF.out).mono ?_
      rintro e w' ⟨rfl, rfl⟩
      go_wp2_with fail
      refine (l02False_any _).mono ?_
      rintro e w1 ⟨v1, rfl, ho1, hb1⟩
      have O1 := Lib.hid ho1
      have B1 := Lib.hid hb1
      clear ho1 hb1
      go_wp2
      go_ret
      exact ⟨_, rfl, O1.out, B1.out⟩
    · have E := Lib.hid (show (g.nn (!true)).enc = [(4, 0), (1, 0), (1, 0)] by rw [hgf]; rfl)
      rw [E.out]
      clear hgf
      go_enter Try.func95, Try.ntmps95
      go_wp2_with fail
      refine (l02Left_any 4 g d hg b off len cap _ (by omega) HF.out).mono ?_
      rintro e w' ⟨rfl, rfl⟩
      go_wp2_with fail
      refine (l02Right_any 4 g d hg b off len cap _ (by omega) HF.out).mono ?_
      rintro e w' ⟨rfl, rfl⟩
      go_wp2_with fail
      refine (l02True_any _).mono ?_
      rintro e w1 ⟨v1, rfl, ho1, hb1⟩
      have O1 := Lib.hid ho1
      have B1 := Lib.hid hb1
      clear ho1 hb1
      go_wp2
      go_ret
      exact ⟨_, rfl, O1.out, B1.out⟩
theorem norm_all (f : Fm) (hf : f.ok) : NormC f := by
  induction f with
  | va s => exact norm_va s
  | fa => exact norm_fa
  | un k a ih => exact norm_un k a hf.1 (ih hf.2)
  | bi k a b iha ihb =>
    by_cases hk : k = 4
    · subst hk
      cases hb : b.isFa
      · exact norm_imp a b hf.2.1 hf.2.2 hb (iha hf.2.1) (ihb hf.2.2)
      · have : b = .fa := by
          cases b with
          | fa => rfl
          | _ => cases hb
        exact norm_no a b this hf.2.1 (iha hf.2.1) (ihb hf.2.2)
    · exact norm_bi k a b (by have := hf.1; omega) hf.2.1 (iha hf.2.1) (ihb hf.2.2)

end Go.Proofs.Ytbhgedabcclimaa
