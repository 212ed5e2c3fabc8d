/- Contracts of the model's functions that tell a Sahlqvist implication. Conditions: those in the theorems. -/
import Derived.Test.YtfdoecnpnfojpaaSah
import Derived.Test.YtfdoecnpnfojpaaTrue
import Derived.Test.YtfdoecnpnfojpaaWrite
namespace Go.Proofs.Ytfdoecnpnfojpaa
open Go.RowKit

theorem trB (f : Fm) (hf : f.ok) : decide (f.enc = [(4, 0), (1, 0), (1, 0)]) = f.isTr := by
  rw [Bool.eq_iff_iff, decide_eq_true_eq]
  constructor
  · intro h
    have ht : (Fm.bi 4 .fa .fa).ok := ⟨by simp, trivial, trivial⟩
    have := (enc_inj f hf (.bi 4 .fa .fa) [] [] ht (by rw [h]; rfl)).1
    rw [this]; rfl
  · intro h
    cases f with
    | bi k a b => obtain ⟨rfl, rfl, rfl⟩ := isTr_parts h; rfl
    | va s => cases h
    | fa => cases h
    | un k a => cases h

set_option maxHeartbeats 1000000 in
theorem l10Truth_any (f : Fm) (hf : f.ok) (b off len cap : Nat) (w : World) (hl : len ≤ 1048576) (h : AtF w b off len cap f) :
    Calls Try.prog 133 #[.slice (some ⟨b, off, none⟩) len cap] w fun e w' => e = .returned (.bool f.isTr) ∧ Below w.heap.size w w' := by
  have H := Lib.hid h.1
  have T := Lib.hid (trB f hf)
  clear h
  go_enter Try.func133, Try.ntmps133
  go_wp2_with fail
  refine (l02True_all _).mono ?_
  rintro e w1 ⟨v1, rfl, ho1, hb1⟩
  obtain ⟨a1, c1, rfl, at1, -, -, -⟩ := ho1.at
  have B1 := Lib.hid hb1
  have A1 := Lib.hid at1
  clear hb1 ho1 at1
  go_wp2_with fail
  refine (l02Equal_any f.enc [(4, 0), (1, 0), (1, 0)] _ _ _ _ _ _ _ hl (by simp) (H.out.keep B1.out (Nat.le_refl _)) A1.out).mono ?_
  rw [T.out]
  rintro e w2 ⟨rfl, hb2⟩
  have B2 := Lib.hid (B1.out.trans (hb2.mono B1.out.size))
  clear hb2
  go_wp2
  go_ret
  exact ⟨rfl, B2.out⟩

set_option maxHeartbeats 1000000 in
theorem l10Boxed_any (f : Fm) (hf : f.ok) (b off len cap : Nat) (w : World) (hl : len ≤ 1048576) (h : AtF w b off len cap f) :
    Calls Try.prog 132 #[.slice (some ⟨b, off, none⟩) len cap] w fun e w' => e = .returned (.int .i64 (bxV f)) ∧ w = w' := by
  have hlen := h.len
  have hp := f.sz_pos
  obtain ⟨b', off', ha, hb, hc⟩ := h.1.2.resolve_left (by omega)
  cases ha
  have H := Lib.hid hc
  obtain ⟨h1, h2, h3⟩ := nbx_at f
  have h5 := cor_not5 f hf
  rw [← hlen] at h3
  obtain ⟨n, hn⟩ : ∃ n, n = f.nbx := ⟨_, rfl⟩
  obtain ⟨c, hcc⟩ : ∃ c, c = f.cor.kind := ⟨_, rfl⟩
  have HV := Lib.hid (show bxV f = if c = 0 then (n : Int) else -1 by rw [hcc, hn]; rfl)
  rw [← hn] at h1 h2 h3
  rw [← hcc] at h2 h5
  have H1 := Lib.hid h1
  have H2 := Lib.hid h2
  have HL := Lib.hid hlen
  clear h hc h1 h2 hn hcc hlen hp
  go_enter Try.func132, Try.ntmps132
  go_wp2
  go_loop [3] (fun i => ∃ k : Nat, k ≤ n ∧ i = .int .i64 k) (fun i => n - (intOf i).toNat)
  case atStart => exact ⟨0, Nat.zero_le _, rfl⟩
  case round =>
    obtain ⟨k, hk, rfl⟩ := hrel
    by_cases hlt : k < n
    · have c1 := (H.out k (by omega)).1
      rw [H1.out k hlt] at c1
      have hkl : k < len := by omega
      go_wp2
      go_round
      case rel => exact ⟨k + 1, by omega, by go_num⟩
      case measure => simp [intOf]; omega
    · obtain rfl : k = n := by omega
      have c1 := (H.out k (by omega)).1
      rw [H2.out] at c1
      have e5 : (c == 5) = false := by simpa using h5
      clear h5
      cases e0 : (c == 0)
      · have hv : bxV f = -1 := by rw [HV.out, if_neg (by simpa using e0)]
        have HV2 := Lib.hid hv
        clear hv
        go_wp2
        go_ret
        exact ⟨ret_int HV2.out.symm, rfl⟩
      · have hv : bxV f = k := by rw [HV.out, if_pos (by simpa using e0)]
        have HV2 := Lib.hid hv
        clear hv
        go_wp2
        go_ret
        exact ⟨ret_int HV2.out.symm, rfl⟩

theorem fro_bi {k : Int} {a b : Fm} (h2 : k ≠ 2) : (Fm.bi k a b).fro = (Fm.bi k a b).isTr := by rw [Fm.fro, if_neg h2]
theorem fro_2 {a b : Fm} : (Fm.bi 2 a b).fro = (a.fro && b.fro) := by rw [Fm.fro, if_pos rfl]
theorem pos_bi {k : Int} {a b : Fm} (h2 : k ≠ 2) (h3 : k ≠ 3) : (Fm.bi k a b).pos = (Fm.bi k a b).isTr := by rw [Fm.pos, if_neg (by omega)]
theorem pos_2 {k : Int} {a b : Fm} (h : k = 2 ∨ k = 3) : (Fm.bi k a b).pos = (a.pos && b.pos) := by rw [Fm.pos, if_pos h]

set_option maxHeartbeats 2000000 in
theorem l10Front_any (f : Fm) (hf : f.ok) : ∀ (b off len cap : Nat) (w : World), len ≤ 1048576 → AtF w b off len cap f →
    Calls Try.prog 90 #[.slice (some ⟨b, off, none⟩) len cap] w fun e w' => e = .returned (.bool f.fro) ∧ Below w.heap.size w w' := by
  induction f with
  | va s =>
    intro b off len cap w hl h
    have BX := Lib.hid (l10Boxed_any _ hf b off len cap w hl h)
    clear h
    go_enter Try.func90, Try.ntmps90
    go_wp2_with (go_at_call 132; refine BX.out.mono ?_; rw [show bxV (Fm.va s) = 0 from rfl]; rintro e w' ⟨rfl, rfl⟩)
    go_ret
    exact ⟨rfl, Below.refl _ _⟩
  | fa =>
    intro b off len cap w hl h
    obtain ⟨hb, c1, c2⟩ := h.head
    have hlen := h.len
    have h0 : 0 < len := by rw [hlen]; exact Fm.sz_pos _
    replace c1 : w.cell? ⟨b, off, none⟩ = some (.int .i64 1) := c1
    have BX := Lib.hid (l10Boxed_any _ hf b off len cap w hl h)
    have TR := Lib.hid (l10Truth_any _ hf b off len cap w hl h)
    have hB := hb
    clear h hlen c2
    go_enter Try.func90, Try.ntmps90
    go_wp2_with fail
    refine BX.out.mono ?_
    rw [show bxV Fm.fa = -1 from rfl]
    rintro e w' ⟨rfl, rfl⟩
    go_wp2_with fail
    refine TR.out.mono ?_
    rw [show Fm.fa.isTr = false from rfl]
    rintro e w1 ⟨rfl, hb1⟩
    have c3 := (hb1.cell (p := ⟨b, off, none⟩) hB).trans c1
    go_wp2
    go_ret
    exact ⟨rfl, hb1⟩
  | un k a ih =>
    intro b off len cap w hl h
    obtain ⟨hb, c1, c2⟩ := h.head
    have hlen := h.len
    have hs : (Fm.un k a).sz = 1 + a.sz := rfl
    have hap := a.sz_pos
    have h0 : 1 < len := by omega
    have h1 := h.2.1
    have h2 := h.2.2
    unfold maxLen at h2
    have BX := Lib.hid (l10Boxed_any _ hf b off len cap w hl h)
    have TR := Lib.hid (l10Truth_any _ hf b off len cap w hl h)
    have U := Lib.hid h.under
    have IH := Lib.hid (fun W (hW : Below w.heap.size w W) => ih hf.2 b (off + 2) (len - 1) (cap - 1) W (by omega) (U.out.keep hW (Nat.le_refl _)))
    have hB := hb
    rcases hf.1 with hk | hk
    · subst hk
      replace c1 : w.cell? ⟨b, off, none⟩ = some (.int .i64 5) := c1
      cases hc : (a.cor.kind == 0)
      · have e1 : (Fm.un 5 a).fro = false := by rw [Fm.fro, if_pos rfl, hc]
        have e2 : bxV (Fm.un 5 a) = -1 := by rw [bxV, Fm.cor, if_pos rfl, if_neg (by simpa using hc)]
        have E1 := Lib.hid e1
        have E2 := Lib.hid e2
        clear h hlen c2 ih hc e1 e2 hs hap
        go_enter Try.func90, Try.ntmps90
        go_wp2_with fail
        refine BX.out.mono ?_
        rw [E2.out]
        rintro e w' ⟨rfl, rfl⟩
        go_wp2_with fail
        refine TR.out.mono ?_
        rw [show (Fm.un 5 a).isTr = false from rfl]
        rintro e w1 ⟨rfl, hb1⟩
        have c3 := (hb1.cell (p := ⟨b, off, none⟩) hB).trans c1
        go_wp2
        go_ret
        exact ⟨ret_bool E1.out.symm, hb1⟩
      · have e1 : (Fm.un 5 a).fro = true := by rw [Fm.fro, if_pos rfl, hc]
        have e2 : bxV (Fm.un 5 a) = ((a.nbx + 1 : Nat) : Int) := by rw [bxV, Fm.cor, if_pos rfl, if_pos (by simpa using hc), Fm.nbx, if_pos rfl]
        have hn := (nbx_at a).2.2
        have E1 := Lib.hid e1
        have E2 := Lib.hid e2
        clear h hlen c2 ih hc e1 e2 hs
        go_enter Try.func90, Try.ntmps90
        go_wp2_with fail
        refine BX.out.mono ?_
        rw [E2.out]
        rintro e w' ⟨rfl, rfl⟩
        go_wp2
        go_ret
        exact ⟨ret_bool E1.out.symm, Below.refl _ _⟩
    · subst hk
      replace c1 : w.cell? ⟨b, off, none⟩ = some (.int .i64 6) := c1
      have e1 : (Fm.un 6 a).fro = a.fro := by rw [Fm.fro, if_neg (by omega)]
      have e2 : bxV (Fm.un 6 a) = -1 := by rw [bxV, show (Fm.un 6 a).cor = .un 6 a from by rw [Fm.cor, if_neg (by omega)], if_neg (by simp [Fm.kind])]
      have E1 := Lib.hid e1
      have E2 := Lib.hid e2
      clear h hlen c2 ih e1 e2 hs hap
      go_enter Try.func90, Try.ntmps90
      go_wp2_with fail
      refine BX.out.mono ?_
      rw [E2.out]
      rintro e w' ⟨rfl, rfl⟩
      go_wp2_with fail
      refine TR.out.mono ?_
      rw [show (Fm.un 6 a).isTr = false from rfl]
      rintro e w1 ⟨rfl, hb1⟩
      have c3 := (hb1.cell (p := ⟨b, off, none⟩) hB).trans c1
      have B1 := Lib.hid hb1
      clear hb1
      go_wp2_with fail
      refine (IH.out _ B1.out).mono ?_
      rintro e w2 ⟨rfl, hb2⟩
      have B2 := Lib.hid (B1.out.trans (hb2.mono B1.out.size))
      clear hb2
      go_wp2
      go_ret
      exact ⟨ret_bool E1.out.symm, B2.out⟩
  | bi k x y ihx ihy =>
    intro b off len cap w hl h
    obtain ⟨hb, c1, c2⟩ := h.head
    have hlen := h.len
    have hs : (Fm.bi k x y).sz = 1 + x.sz + y.sz := rfl
    have hxp := x.sz_pos
    have hyp := y.sz_pos
    have h0 : 1 < len := by omega
    have h1 := h.2.1
    have h2 := h.2.2
    unfold maxLen at h2
    have BX := Lib.hid (l10Boxed_any _ hf b off len cap w hl h)
    have TR := Lib.hid (l10Truth_any _ hf b off len cap w hl h)
    have X := Lib.hid h.left
    have Y := Lib.hid h.right
    have LE := Lib.hid (fun W (hW : Below w.heap.size w W) => l02Left_any k x y hf.2.1 b off len cap W hl (h.keep hW (Nat.le_refl _)))
    have RI := Lib.hid (fun W (hW : Below w.heap.size w W) => l02Right_any k x y hf.2.1 b off len cap W hl (h.keep hW (Nat.le_refl _)))
    have IX := Lib.hid (fun W (hW : Below w.heap.size w W) => ihx hf.2.1 b (off + 2) x.sz (cap - 1) W (by omega) (X.out.keep hW (Nat.le_refl _)))
    have IY := Lib.hid (fun W (hW : Below w.heap.size w W) => ihy hf.2.2 b (off + (1 + x.sz) * 2) y.sz (cap - (1 + x.sz)) W (by omega) (Y.out.keep hW (Nat.le_refl _)))
    have hB := hb
    have e2 : bxV (Fm.bi k x y) = -1 := by
      show (if k = 0 then _ else _) = _
      rw [if_neg (by rcases hf.1 with h | h | h <;> omega)]
    have E2 := Lib.hid e2
    replace c1 : w.cell? ⟨b, off, none⟩ = some (.int .i64 k) := c1
    cases ht : (Fm.bi k x y).isTr
    · have HT := Lib.hid ht
      by_cases h2k : k = 2
      · subst h2k
        have E1 := Lib.hid (fro_2 (a := x) (b := y))
        obtain ⟨fx, hfx⟩ : ∃ fx, fx = x.fro := ⟨_, rfl⟩
        obtain ⟨fy, hfy⟩ : ∃ fy, fy = y.fro := ⟨_, rfl⟩
        rw [← hfx] at IX E1
        rw [← hfy] at IY E1
        clear h hlen c2 ihx ihy e2 hs hxp hyp ht hfx hfy
        go_enter Try.func90, Try.ntmps90
        go_wp2_with fail
        refine BX.out.mono ?_
        rw [E2.out]
        rintro e w' ⟨rfl, rfl⟩
        go_wp2_with fail
        refine TR.out.mono ?_
        rw [HT.out]
        rintro e w1 ⟨rfl, hb1⟩
        have c3 := (hb1.cell (p := ⟨b, off, none⟩) hB).trans c1
        have B1 := Lib.hid hb1
        clear hb1
        go_wp2_with fail
        refine (LE.out _ B1.out).mono ?_
        rintro e w' ⟨rfl, rfl⟩
        go_wp2_with fail
        refine (IX.out _ B1.out).mono ?_
        rintro e w2 ⟨rfl, hb2⟩
        have B2 := Lib.hid (B1.out.trans (hb2.mono B1.out.size))
        clear hb2
        cases fx
        · go_wp2
          go_ret
          exact ⟨ret_bool (by rw [E1.out] <;> rfl), B2.out⟩
        · go_wp2_with fail
          refine (RI.out _ B2.out).mono ?_
          rintro e w' ⟨rfl, rfl⟩
          go_wp2_with fail
          refine (IY.out _ B2.out).mono ?_
          rintro e w3 ⟨rfl, hb3⟩
          have B3 := Lib.hid (B2.out.trans (hb3.mono B2.out.size))
          clear hb3
          go_wp2
          go_ret
          exact ⟨ret_bool (by rw [E1.out, Bool.true_and]), B3.out⟩
      · have E1 := Lib.hid ((fro_bi (a := x) (b := y) h2k).trans ht)
        have k1 : (k == 1) = false := by have := hf.1; simp; omega
        have k2 : (k == 2) = false := by simp; omega
        have k6 : (k == 6) = false := by have := hf.1; simp; omega
        clear h hlen c2 ihx ihy e2 hs hxp hyp ht h2k
        go_enter Try.func90, Try.ntmps90
        go_wp2_with fail
        refine BX.out.mono ?_
        rw [E2.out]
        rintro e w' ⟨rfl, rfl⟩
        go_wp2_with fail
        refine TR.out.mono ?_
        rw [HT.out]
        rintro e w1 ⟨rfl, hb1⟩
        have c3 := (hb1.cell (p := ⟨b, off, none⟩) hB).trans c1
        go_wp2
        go_ret
        exact ⟨ret_bool E1.out.symm, hb1⟩
    · have HT := Lib.hid ht
      have E1 := Lib.hid (show (Fm.bi k x y).fro = true by rw [fro_bi (by rw [(isTr_parts ht).1]; omega), ht])
      clear h hlen c2 ihx ihy e2 hs hxp hyp ht
      go_enter Try.func90, Try.ntmps90
      go_wp2_with fail
      refine BX.out.mono ?_
      rw [E2.out]
      rintro e w' ⟨rfl, rfl⟩
      go_wp2_with fail
      refine TR.out.mono ?_
      rw [HT.out]
      rintro e w1 ⟨rfl, hb1⟩
      go_wp2
      go_ret
      exact ⟨ret_bool E1.out.symm, hb1⟩

set_option maxHeartbeats 2000000 in
theorem l10Positive_any (f : Fm) (hf : f.ok) : ∀ (b off len cap : Nat) (w : World), len ≤ 1048576 → AtF w b off len cap f →
    Calls Try.prog 92 #[.slice (some ⟨b, off, none⟩) len cap] w fun e w' => e = .returned (.bool f.pos) ∧ Below w.heap.size w w' := by
  induction f with
  | va s =>
    intro b off len cap w hl h
    obtain ⟨hb, c1, c2⟩ := h.head
    have hlen := h.len
    have h0 : 0 < len := by rw [hlen]; exact Fm.sz_pos _
    replace c1 : w.cell? ⟨b, off, none⟩ = some (.int .i64 0) := c1
    clear h hlen c2
    go_enter Try.func92, Try.ntmps92
    go_wp2
    go_ret
    exact ⟨rfl, Below.refl _ _⟩
  | fa =>
    intro b off len cap w hl h
    obtain ⟨hb, c1, c2⟩ := h.head
    have hlen := h.len
    have h0 : 0 < len := by rw [hlen]; exact Fm.sz_pos _
    replace c1 : w.cell? ⟨b, off, none⟩ = some (.int .i64 1) := c1
    have TR := Lib.hid (l10Truth_any _ hf b off len cap w hl h)
    have hB := hb
    clear h hlen c2
    go_enter Try.func92, Try.ntmps92
    go_wp2_with fail
    refine TR.out.mono ?_
    rw [show Fm.fa.isTr = false from rfl]
    rintro e w1 ⟨rfl, hb1⟩
    have c3 := (hb1.cell (p := ⟨b, off, none⟩) hB).trans c1
    go_wp2
    go_ret
    exact ⟨rfl, hb1⟩
  | un k a ih =>
    intro b off len cap w hl h
    obtain ⟨hb, c1, c2⟩ := h.head
    have hlen := h.len
    have hs : (Fm.un k a).sz = 1 + a.sz := rfl
    have hap := a.sz_pos
    have h0 : 1 < len := by omega
    have h1 := h.2.1
    have h2 := h.2.2
    unfold maxLen at h2
    have TR := Lib.hid (l10Truth_any _ hf b off len cap w hl h)
    have U := Lib.hid h.under
    have IH := Lib.hid (fun W (hW : Below w.heap.size w W) => ih hf.2 b (off + 2) (len - 1) (cap - 1) W (by omega) (U.out.keep hW (Nat.le_refl _)))
    have hB := hb
    have k56 := hf.1
    clear h hlen c2 ih hs hap
    rcases k56 with hk | hk
    all_goals
      subst hk
      replace c1 := (show w.cell? ⟨b, off, none⟩ = some (.int .i64 _) from c1)
      simp only [Fm.kind] at c1
      go_enter Try.func92, Try.ntmps92
      go_wp2_with fail
      refine TR.out.mono ?_
      simp only [Fm.isTr]
      rintro e w1 ⟨rfl, hb1⟩
      have c3 := (hb1.cell (p := ⟨b, off, none⟩) hB).trans c1
      have B1 := Lib.hid hb1
      clear hb1
      go_wp2_with fail
      refine (IH.out _ B1.out).mono ?_
      rintro e w2 ⟨rfl, hb2⟩
      have B2 := Lib.hid (B1.out.trans (hb2.mono B1.out.size))
      clear hb2
      go_wp2
      go_ret
      exact ⟨rfl, B2.out⟩
  | bi k x y ihx ihy =>
    intro b off len cap w hl h
    obtain ⟨hb, c1, c2⟩ := h.head
    have hlen := h.len
    have hs : (Fm.bi k x y).sz = 1 + x.sz + y.sz := rfl
    have hxp := x.sz_pos
    have hyp := y.sz_pos
    have h0 : 1 < len := by omega
    have h1 := h.2.1
    have h2 := h.2.2
    unfold maxLen at h2
    have TR := Lib.hid (l10Truth_any _ hf b off len cap w hl h)
    have X := Lib.hid h.left
    have Y := Lib.hid h.right
    have LE := Lib.hid (fun W (hW : Below w.heap.size w W) => l02Left_any k x y hf.2.1 b off len cap W hl (h.keep hW (Nat.le_refl _)))
    have RI := Lib.hid (fun W (hW : Below w.heap.size w W) => l02Right_any k x y hf.2.1 b off len cap W hl (h.keep hW (Nat.le_refl _)))
    have IX := Lib.hid (fun W (hW : Below w.heap.size w W) => ihx hf.2.1 b (off + 2) x.sz (cap - 1) W (by omega) (X.out.keep hW (Nat.le_refl _)))
    have IY := Lib.hid (fun W (hW : Below w.heap.size w W) => ihy hf.2.2 b (off + (1 + x.sz) * 2) y.sz (cap - (1 + x.sz)) W (by omega) (Y.out.keep hW (Nat.le_refl _)))
    have hB := hb
    replace c1 : w.cell? ⟨b, off, none⟩ = some (.int .i64 k) := c1
    cases ht : (Fm.bi k x y).isTr
    · have HT := Lib.hid ht
      by_cases h2k : k = 2 ∨ k = 3
      · have E1 := Lib.hid (pos_2 (a := x) (b := y) h2k)
        obtain ⟨fx, hfx⟩ : ∃ fx, fx = x.pos := ⟨_, rfl⟩
        obtain ⟨fy, hfy⟩ : ∃ fy, fy = y.pos := ⟨_, rfl⟩
        rw [← hfx] at IX E1
        rw [← hfy] at IY E1
        clear h hlen c2 ihx ihy hs hxp hyp ht hfx hfy
        rcases h2k with hk | hk
        all_goals
          subst hk
          cases fx
          all_goals
            go_enter Try.func92, Try.ntmps92
            go_wp2_with fail
            refine TR.out.mono ?_
            rw [HT.out]
            rintro e w1 ⟨rfl, hb1⟩
            have c3 := (hb1.cell (p := ⟨b, off, none⟩) hB).trans c1
            have B1 := Lib.hid hb1
            clear hb1
            go_wp2_with fail
            refine (LE.out _ B1.out).mono ?_
            rintro e w' ⟨rfl, rfl⟩
            go_wp2_with fail
            refine (IX.out _ B1.out).mono ?_
            rintro e w2 ⟨rfl, hb2⟩
            have B2 := Lib.hid (B1.out.trans (hb2.mono B1.out.size))
            clear hb2
            first
            | (go_wp2
               go_ret
               exact ⟨ret_bool (by rw [E1.out] <;> rfl), B2.out⟩)
            | (go_wp2_with fail
               refine (RI.out _ B2.out).mono ?_
               rintro e w' ⟨rfl, rfl⟩
               go_wp2_with fail
               refine (IY.out _ B2.out).mono ?_
               rintro e w3 ⟨rfl, hb3⟩
               have B3 := Lib.hid (B2.out.trans (hb3.mono B2.out.size))
               clear hb3
               go_wp2
               go_ret
               exact ⟨ret_bool (by rw [E1.out, Bool.true_and]), B3.out⟩)
      · have E1 := Lib.hid ((pos_bi (a := x) (b := y) (k := k) (by omega) (by omega)).trans ht)
        have k0 : (k == 0) = false := by have := hf.1; simp; omega
        have k1 : (k == 1) = false := by have := hf.1; simp; omega
        have k2 : (k == 2) = false := by simp; omega
        have k3 : (k == 3) = false := by simp; omega
        have k5 : (k == 5) = false := by have := hf.1; simp; omega
        have k6 : (k == 6) = false := by have := hf.1; simp; omega
        clear h hlen c2 ihx ihy hs hxp hyp ht h2k
        go_enter Try.func92, Try.ntmps92
        go_wp2_with fail
        refine TR.out.mono ?_
        rw [HT.out]
        rintro e w1 ⟨rfl, hb1⟩
        have c3 := (hb1.cell (p := ⟨b, off, none⟩) hB).trans c1
        go_wp2
        go_ret
        exact ⟨ret_bool E1.out.symm, hb1⟩
    · have HT := Lib.hid ht
      have E1 := Lib.hid (show (Fm.bi k x y).pos = true by rw [pos_bi (by rw [(isTr_parts ht).1]; omega) (by rw [(isTr_parts ht).1]; omega), ht])
      have k0 : (k == 0) = false := by have := hf.1; simp; omega
      clear h hlen c2 ihx ihy hs hxp hyp ht
      go_enter Try.func92, Try.ntmps92
      go_wp2_with fail
      refine TR.out.mono ?_
      rw [HT.out]
      rintro e w1 ⟨rfl, hb1⟩
      go_wp2
      go_ret
      exact ⟨ret_bool E1.out.symm, hb1⟩

set_option maxHeartbeats 2000000 in
theorem l10Sahlqvist_any (f : Fm) (hf : f.ok) (b off len cap : Nat) (w : World) (hl : len ≤ 1048576) (h : AtF w b off len cap f) :
    Calls Try.prog 63 #[.slice (some ⟨b, off, none⟩) len cap] w fun e w' => e = .returned (.bool f.sah) ∧ Below w.heap.size w w' := by
  obtain ⟨hb, c1, c2⟩ := h.head
  have hlen := h.len
  have h0 : 0 < len := by rw [hlen]; exact Fm.sz_pos _
  by_cases hk : f.kind = 4
  · cases f with
    | va s => simp [Fm.kind] at hk
    | fa => simp [Fm.kind] at hk
    | un k a => exfalso; have e : k = 4 := hk; have := hf.1; omega
    | bi k x y =>
      obtain rfl : k = 4 := hk
      have hs : (Fm.bi 4 x y).sz = 1 + x.sz + y.sz := rfl
      have X := Lib.hid h.left
      have Y := Lib.hid h.right
      have LE := Lib.hid (fun W (hW : Below w.heap.size w W) => l02Left_any 4 x y hf.2.1 b off len cap W hl (h.keep hW (Nat.le_refl _)))
      have RI := Lib.hid (fun W (hW : Below w.heap.size w W) => l02Right_any 4 x y hf.2.1 b off len cap W hl (h.keep hW (Nat.le_refl _)))
      have IX := Lib.hid (fun W (hW : Below w.heap.size w W) => l10Front_any x hf.2.1 b (off + 2) x.sz (cap - 1) W (by omega) (X.out.keep hW (Nat.le_refl _)))
      have IY := Lib.hid (fun W (hW : Below w.heap.size w W) => l10Positive_any y hf.2.2 b (off + (1 + x.sz) * 2) y.sz (cap - (1 + x.sz)) W (by omega) (Y.out.keep hW (Nat.le_refl _)))
      have E1 := Lib.hid (show (Fm.bi 4 x y).sah = (x.fro && y.pos) from by show ((4 : Int) == 4 && x.fro && y.pos) = _; simp)
      obtain ⟨fx, hfx⟩ : ∃ fx, fx = x.fro := ⟨_, rfl⟩
      obtain ⟨fy, hfy⟩ : ∃ fy, fy = y.pos := ⟨_, rfl⟩
      rw [← hfx] at IX E1
      rw [← hfy] at IY E1
      replace c1 : w.cell? ⟨b, off, none⟩ = some (.int .i64 4) := c1
      clear h hlen c2 hs hfx hfy
      go_enter Try.func63, Try.ntmps63
      go_wp2_with fail
      refine (LE.out _ (Below.refl _ _)).mono ?_
      rintro e w' ⟨rfl, rfl⟩
      go_wp2_with fail
      refine (IX.out _ (Below.refl _ _)).mono ?_
      rintro e w2 ⟨rfl, hb2⟩
      have B2 := Lib.hid hb2
      clear hb2
      cases fx
      · go_wp2
        go_ret
        exact ⟨ret_bool (by rw [E1.out] <;> rfl), B2.out⟩
      · go_wp2_with fail
        refine (RI.out _ B2.out).mono ?_
        rintro e w' ⟨rfl, rfl⟩
        go_wp2_with fail
        refine (IY.out _ B2.out).mono ?_
        rintro e w3 ⟨rfl, hb3⟩
        have B3 := Lib.hid (B2.out.trans (hb3.mono B2.out.size))
        clear hb3
        go_wp2
        go_ret
        exact ⟨ret_bool (by rw [E1.out, Bool.true_and]), B3.out⟩
  · have hv : f.sah = false := by
      cases f with
      | bi k x y => show ((k == 4) && x.fro && y.pos) = false; rw [show (k == 4) = false from by (have h4 : k ≠ 4 := hk; simpa using h4)]; rfl
      | _ => rfl
    have HV := Lib.hid hv
    have k4 : (f.kind == 4) = false := by simpa using hk
    obtain ⟨k, hkk⟩ : ∃ k, k = f.kind := ⟨_, rfl⟩
    rw [← hkk] at c1 k4
    clear h hlen c2 hv hk hkk
    go_enter Try.func63, Try.ntmps63
    go_wp2
    go_ret
    exact ⟨ret_bool HV.out.symm, Below.refl _ _⟩

open Classical in
/-- Whether a list of nodes is a Sahlqvist implication, and the error. -/
noncomputable def sahR (xs : List Nd) : Bool := isB xs xs.length && (toFm xs).sah
def sahC (xs : List Nd) : Int := if isB xs xs.length then 0 else 1

theorem specIsSahlqvist_v (x0 : List Nd) (v : Value) (lo hi : Nat) (w : World) (hl : x0.length ≤ 1048576) (h : InN w lo hi v x0) :
    Calls Try.prog 21 #[v] w fun e w' => e = .returned (.tuple #[.bool (sahR x0), .int .i64 (sahC x0)]) ∧ Below w.heap.size w w' := by
  obtain ⟨a, cap, rfl, hat, hc1, hc2⟩ := h.at'
  have H := Lib.hid hat
  cases hb : isB x0 x0.length
  · have e1 : sahR x0 = false := by rw [sahR, hb, Bool.false_and]
    have e2 : sahC x0 = 1 := by rw [sahC, hb]; rfl
    have E1 := Lib.hid e1
    have E2 := Lib.hid e2
    clear h hat e1 e2
    go_enter Try.func21, Try.ntmps21
    go_wp2_with (go_at_call 48; refine (l02Is_any _ _ _ _ _ hl H.out).mono ?_; rw [hb]; rintro e w' ⟨rfl, rfl⟩)
    go_ret2
    exact ⟨(by rw [E1.out, E2.out] <;> rfl), Below.refl _ _⟩
  · have e1 : sahR x0 = (toFm x0).sah := by rw [sahR, hb, Bool.true_and]
    have e2 : sahC x0 = 0 := by rw [sahC, hb]; rfl
    obtain ⟨b, off, rfl, hf⟩ := hat.formula hb hc1 hc2
    have hok := (toFm_of hb).1
    have CL := Lib.hid (l10Sahlqvist_any _ hok b off _ cap w hl hf)
    obtain ⟨r, hr⟩ : ∃ r, r = (toFm x0).sah := ⟨_, rfl⟩
    rw [← hr] at CL e1
    have E1 := Lib.hid e1
    have E2 := Lib.hid e2
    clear h hat e1 e2 hf hok hr
    go_enter Try.func21, Try.ntmps21
    go_wp2_with (go_at_call 48; refine (l02Is_any _ _ _ _ _ hl H.out).mono ?_; rw [hb]; rintro e w' ⟨rfl, rfl⟩)
    refine CL.out.mono ?_
    rintro e w1 ⟨rfl, hb1⟩
    go_wp2
    go_ret2
    exact ⟨(by rw [E1.out, E2.out] <;> rfl), hb1⟩

end Go.Proofs.Ytfdoecnpnfojpaa
