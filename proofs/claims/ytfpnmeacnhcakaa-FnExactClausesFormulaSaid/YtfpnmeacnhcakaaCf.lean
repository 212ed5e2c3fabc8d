/- Joins of literals by the model and by the program. Conditions: those in the theorems. -/
import Derived.Test.YtfpnmeacnhcakaaCj
namespace Go.Proofs.Ytfpnmeacnhcakaa
open Go.RowKit

/-- The first n literals as formulas. -/
def lits (zs : List Int) (n : Nat) : List (List Nd) := (List.range n).map fun j => liF (nth zs j)
theorem lits_len (zs : List Int) (n : Nat) : (lits zs n).length = n := by simp [lits]
theorem lits_succ (zs : List Int) (n : Nat) : lits zs (n + 1) = lits zs n ++ [liF (nth zs n)] := by simp [lits, List.range_succ]
theorem lits_at {zs : List Int} {n j : Nat} (h : j < n) : nthL (lits zs n) j = liF (nth zs j) := by simp [lits, nthL, List.getD, h]
theorem lits_sz (zs : List Int) (n : Nat) : ∀ k, k ≤ n → szTo (lits zs n) k ≤ 3 * k := by
  intro k
  induction k with
  | zero => intro _; exact Nat.zero_le _
  | succ k ih =>
    intro hk
    have := ih (by omega)
    have h2 := liF_len (nth zs k)
    rw [szTo, lits_at (by omega)]
    omega
/-- The formula of the literals of a clause or term. -/
def joF (k : Int) (zs : List Int) : List Nd := allL k (lits zs zs.length)
theorem lits_ok {zs : List Int} {n : Nat} (h : ∀ j, j < n → 0 ≤ nth zs j ∧ nth zs j < 12) : okAll (lits zs n) n = true := by
  rw [okAll, List.all_eq_true]
  intro j hj
  have hj := List.mem_range.1 hj
  rw [lits_at hj]
  exact liF_is (h j hj).1 (h j hj).2
theorem cl_half {zs : List Int} {n : Nat} (h : clTo zs n = true) : ∀ j, j < n → (j : Int) ≤ nth zs j / 2 := by
  intro j
  induction j with
  | zero => intro hj; have := asTo_in (asTo_cl h) 0 hj; omega
  | succ j ih =>
    intro hj
    have h1 := ih (by omega)
    have h2 := clTo_lt h (j + 1) hj j (by omega)
    omega
theorem cl_six {zs : List Int} {n : Nat} (h : clTo zs n = true) : n ≤ 6 := by
  by_cases h0 : n = 0
  · omega
  · have h1 := cl_half h (n - 1) (by omega)
    have h2 := asTo_in (asTo_cl h) (n - 1) (by omega)
    omega
theorem joF_len {k : Int} {zs : List Int} (h : clTo zs zs.length = true) : (joF k zs).length ≤ 40 := by
  have h6 := cl_six h
  unfold joF
  by_cases h0 : (lits zs zs.length).length = 0
  · exact allL_empty h0
  · rw [allL_len k _ (by omega), lits_len]
    have := lits_sz zs zs.length zs.length (Nat.le_refl _)
    omega

set_option maxHeartbeats 1000000 in
theorem l04Join_any (k : Int) (zs : List Int) (a : Option Addr) (len cap : Nat) (w : World) (hl : len ≤ 6) (hin : ∀ j, j < len → 0 ≤ nth zs j ∧ nth zs j < 12) (h : At w a len zs) (hk : k = 2 ∨ k = 3) :
    Calls Try.prog 15 #[.int .i64 k, .slice a len cap] w fun e w' => ∃ v, e = .returned v ∧ OwnN w' w.heap.size v (joF k zs) ∧ Below w.heap.size w w' := by
  have H := Lib.hid h
  have IN := Lib.hid hin
  have LZ := Lib.hid h.1
  have LN := Lib.hid (lits_len zs)
  have L0 := Lib.hid (show OwnL (w.alloc (.cells #[] 24)) w.heap.size (.slice (some ⟨w.heap.size, 0, none⟩) 0 0) (lits zs 0) from ownL_row (World.ownsRow_made w #[] 0 (Nat.le_refl _) (Nat.zero_le _) rfl))
  have B0 := Lib.hid ((Below.refl w.heap.size w).alloc (Nat.le_refl _) (.cells #[] 24))
  clear h hin
  go_enter Try.func15, Try.ntmps15
  go_wp2
  go_loopw [5, 6] (fun v i wr => ∃ j : Nat, j ≤ len ∧ i = .int .i64 j ∧ OwnL wr w.heap.size v (lits zs j) ∧ Below w.heap.size w wr) (fun _ i _ => len - (intOf i).toNat)
  case atStart => exact ⟨0, Nat.zero_le _, rfl, L0.out, B0.out⟩
  case round =>
    obtain ⟨j, hj, rfl, hown, hbel⟩ := hrel
    have HO := Lib.hid hown
    have B := Lib.hid hbel
    clear hown hbel
    by_cases hlt : j < len
    · have N := Lib.hid (lits_succ zs j)
      obtain ⟨b, off, rfl, hb, hc⟩ := (H.out.keep B.out (Nat.le_refl _)).2.resolve_left (by omega)
      have hcell := hc j hlt
      have h12 := IN.out j hlt
      generalize nth zs j = l at hcell h12 N
      clear hc
      go_wp2_with fail
      refine (l04Literal_any l _ h12.1 h12.2).mono ?_
      rintro e w1 ⟨v1, rfl, ho1, hb1⟩
      obtain ⟨a2, c2, rfl, -⟩ := ho1.at
      have O1 := Lib.hid ho1
      have B1 := Lib.hid hb1
      clear ho1 hb1
      go_wp2_with (at_builtin; refine list_appLL rfl _ _ rfl w.heap.size _ _ rfl HO.out B1.out _ _ O1.out ((Below.refl _ _).alloc (Nat.le_refl _) _) ⟨w1.heap.size, 0, none⟩ 1 rfl (World.cell?_alloc_at _ _ _ _ rfl) (by rw [LN.out]; omega) B.out.size ?_; intro v2 w2 ho2 hb2)
      have O2 := Lib.hid ho2
      have B2 := Lib.hid (B.out.trans hb2)
      clear ho2 hb2
      go_roundw
      case rel => exact ⟨j + 1, hlt, by go_num, by rw [N.out]; exact O2.out, B2.out⟩
      case measure => simp [intOf]; omega
    · obtain rfl : j = len := by omega
      obtain ⟨a3, c3, rfl, hat3⟩ := HO.out.at
      have A3 := Lib.hid hat3
      have SZ := Lib.hid (lits_sz zs j j (Nat.le_refl _))
      have POS := Lib.hid (show ∀ i, i < j → 0 < (nthL (lits zs j) i).length from fun i hi => by rw [lits_at hi]; exact (liF_len _).1)
      clear hat3
      rw [LN.out] at A3 ⊢
      go_wp2_with fail
      refine (l02All_any k (lits zs j) a3 j c3 _ (by omega) (by have := SZ.out; omega) POS.out A3.out).mono ?_
      rintro e w1 ⟨v1, rfl, ho1, hb1⟩
      have O1 := Lib.hid (show OwnN w1 w.heap.size v1 (joF k zs) by unfold joF; rw [← LZ.out]; exact ho1.mono B.out.size)
      have B1 := Lib.hid (B.out.trans (hb1.mono B.out.size))
      clear ho1 hb1
      go_wp2
      go_ret
      exact ⟨_, rfl, O1.out, B1.out⟩

set_option maxHeartbeats 1000000 in
theorem joinLiterals_any (k : Int) (zs : List Int) (a : Option Addr) (len cap : Nat) (w : World) (hl : len ≤ 6) (hin : ∀ j, j < len → 0 ≤ nth zs j ∧ nth zs j < 12) (h : At w a len zs) (hk : (k == 2 || k == 3) = true) :
    Calls Try.prog 32 #[.int .i64 k, .slice a len cap] w fun e w' => ∃ v, e = .returned v ∧ OwnN w' w.heap.size v (joF k zs) ∧ Below w.heap.size w w' := by
  have H := Lib.hid h
  have IN := Lib.hid hin
  have LZ := Lib.hid h.1
  have LN := Lib.hid (lits_len zs)
  have HK := Lib.hid hk
  obtain ⟨i0, hinf, hz0, hz1, hz2⟩ := info_parts infoNN
  clear h hin hk
  go_enter Try.func32, Try.ntmps32
  go_wp2_with (at_make; refine wpList_make_own _ rfl _ _ 34 rfl w.heap.size 24 i0 (.slice none 0 0) 1 Try.underlying34 hinf hz0 hz1 _ _ _ len rfl rfl rfl ?b2 ?b3 (Nat.le_refl _) ?_)
  case b2 => rw [hz2]; omega
  case b3 => unfold maxLen; omega
  intro w0 hown0 hgrow0
  have L0 := Lib.hid (show OwnL w0 w.heap.size _ (lits zs 0) from ownL_row hown0)
  have B0 := Lib.hid ((Below.refl w.heap.size w).grown hgrow0 (Nat.le_refl _) (fun k h => by cases h))
  clear hown0 hinf hz0 hz1 hz2 hgrow0
  go_wp2
  go_loopw [5, 15] (fun v i wr => ∃ j : Nat, j ≤ len ∧ i = .int .i64 j ∧ OwnL wr w.heap.size v (lits zs j) ∧ Below w.heap.size w wr) (fun _ i _ => len - (intOf i).toNat)
  case atStart => exact ⟨0, Nat.zero_le _, rfl, L0.out, B0.out⟩
  case round =>
    obtain ⟨j, hj, rfl, hown, hbel⟩ := hrel
    have HO := Lib.hid hown
    have B := Lib.hid hbel
    clear hown hbel
    by_cases hlt : j < len
    · have N := Lib.hid (lits_succ zs j)
      obtain ⟨b, off, rfl, hb, hc⟩ := (H.out.keep B.out (Nat.le_refl _)).2.resolve_left (by omega)
      have hcell := hc j hlt
      have h12 := IN.out j hlt
      generalize nth zs j = l at hcell h12 N
      clear hc
      go_wp2_with fail
      refine (literalFormula_any l _ h12.1 h12.2).mono ?_
      rintro e w1 ⟨v1, rfl, ho1, hb1⟩
      obtain ⟨a2, c2, rfl, -⟩ := ho1.at
      have O1 := Lib.hid ho1
      have B1 := Lib.hid hb1
      clear ho1 hb1
      go_wp2_with (at_builtin; refine list_appLL rfl _ _ rfl w.heap.size _ _ rfl HO.out B1.out _ _ O1.out ((Below.refl _ _).alloc (Nat.le_refl _) _) ⟨w1.heap.size, 0, none⟩ 1 rfl (World.cell?_alloc_at _ _ _ _ rfl) (by rw [LN.out]; omega) B.out.size ?_; intro v2 w2 ho2 hb2)
      have O2 := Lib.hid ho2
      have B2 := Lib.hid (B.out.trans hb2)
      clear ho2 hb2
      go_roundw
      case rel => exact ⟨j + 1, hlt, by go_num, by rw [N.out]; exact O2.out, B2.out⟩
      case measure => simp [intOf]; omega
    · obtain rfl : j = len := by omega
      obtain ⟨a3, c3, rfl, hat3⟩ := HO.out.at
      have A3 := Lib.hid hat3
      have sz := lits_sz zs j j (Nat.le_refl _)
      obtain ⟨e1, e2⟩ := allC_good (k := k) (xss := lits zs j) (by rw [LN.out]; exact lits_ok IN.out) HK.out
      have hlen : (allL k (lits zs j)).length ≤ 40 := by
        by_cases h0 : (lits zs j).length = 0
        · exact allL_empty h0
        · rw [allL_len k _ (by omega), LN.out]; omega
      obtain ⟨l1, l2⟩ := lim_ok hlen
      rw [l1] at e1
      rw [l2] at e2
      have E1 := Lib.hid e1
      have E2 := Lib.hid e2
      clear hat3 e1 e2 l1 l2 hlen
      rw [LN.out] at A3 ⊢
      go_wp2_with fail
      refine (implJoinAll_any k (lits zs j) a3 j c3 _ (by omega) (by omega) A3.out).mono ?_
      rw [E1.out, E2.out]
      rintro e w1 ⟨v1, rfl, ho1, hb1⟩
      have O1 := Lib.hid (show OwnN w1 w.heap.size v1 (joF k zs) by unfold joF; rw [← LZ.out]; exact ho1.mono B.out.size)
      have B1 := Lib.hid (B.out.trans (hb1.mono B.out.size))
      clear ho1 hb1
      go_wp2
      go_ret
      exact ⟨_, rfl, O1.out, B1.out⟩

end Go.Proofs.Ytfpnmeacnhcakaa
