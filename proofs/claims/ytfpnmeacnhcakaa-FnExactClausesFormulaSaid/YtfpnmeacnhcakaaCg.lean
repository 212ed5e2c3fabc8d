/- ClausesFormula of the model and of the program. Conditions: those in the theorems. -/
import Derived.Test.YtfpnmeacnhcakaaCf
import Derived.Test.YtfpnmeacnhcakaaCs
namespace Go.Proofs.Ytfpnmeacnhcakaa
open Go.RowKit

theorem enc_cat (k : Int) (f g : Fm) : (Fm.bi k f g).enc = (k, 0) :: (f.enc ++ g.enc) := by simp [Fm.enc]
/-- A join of formulas is a formula. -/
theorem allTo_fm {k : Int} (hk : k = 2 ∨ k = 3) {xss : List (List Nd)} {n : Nat} (h : okAll xss n = true) : ∀ j, 1 ≤ j → j ≤ n → ∃ f : Fm, f.ok ∧ allTo k xss j = f.enc := by
  intro j
  induction j with
  | zero => intro h0; omega
  | succ j ih =>
    intro _ hj
    obtain ⟨g, g1, g2, -⟩ := is_fm (okAll_at h (show j < n by omega))
    by_cases h1 : j = 0
    · subst h1
      exact ⟨g, g1, by rw [allTo_one]; exact g2⟩
    · obtain ⟨f, f1, f2⟩ := ih (by omega) (by omega)
      refine ⟨.bi k f g, ⟨?_, f1, g1⟩, ?_⟩
      · rcases hk with rfl | rfl <;> decide
      · rw [← allTo_succ k xss j (by omega), f2, enc_cat]
        congr 2
theorem allL_fm {k : Int} (hk : k = 2 ∨ k = 3) {xss : List (List Nd)} (h : okAll xss xss.length = true) : ∃ f : Fm, f.ok ∧ allL k xss = f.enc := by
  unfold allL
  split
  · rcases hk with rfl | rfl
    · exact ⟨.bi 4 .fa .fa, ⟨by decide, trivial, trivial⟩, rfl⟩
    · exact ⟨.fa, trivial, rfl⟩
  · exact allTo_fm hk h _ (by omega) (Nat.le_refl _)
theorem joF_is {k : Int} (hk : k = 2 ∨ k = 3) {zs : List Int} (h : clTo zs zs.length = true) : isB (joF k zs) (joF k zs).length = true := by
  obtain ⟨f, f1, f2⟩ := allL_fm hk (xss := lits zs zs.length) (by rw [lits_len]; exact lits_ok (asTo_in (asTo_cl h)))
  have hl := joF_len (k := k) h
  unfold joF at hl ⊢
  rw [f2] at hl ⊢
  exact fm_is f f1 (by rw [Fm.enc_len] at hl; exact hl)

/-- The formulas of the first n clauses. -/
def cfs (k : Int) (xss : List (List Int)) (n : Nat) : List (List Nd) := (List.range n).map fun j => joF k (nthI xss j)
theorem cfs_len (k : Int) (xss : List (List Int)) (n : Nat) : (cfs k xss n).length = n := by simp [cfs]
theorem cfs_succ (k : Int) (xss : List (List Int)) (n : Nat) : cfs k xss (n + 1) = cfs k xss n ++ [joF k (nthI xss n)] := by simp [cfs, List.range_succ]
theorem cfs_at {k : Int} {xss : List (List Int)} {n j : Nat} (h : j < n) : nthL (cfs k xss n) j = joF k (nthI xss j) := by simp [cfs, nthL, List.getD, h]
theorem cfs_ok {k : Int} (hk : k = 2 ∨ k = 3) {xss : List (List Int)} {n : Nat} (h : clsTo xss n = true) : okAll (cfs k xss n) n = true := by
  rw [okAll, List.all_eq_true]
  intro j hj
  have hj := List.mem_range.1 hj
  rw [cfs_at hj]
  exact joF_is hk (clsTo_at h hj)
theorem cfs_40 {k : Int} {xss : List (List Int)} {n : Nat} (h : clsTo xss n = true) : ∀ j, j < n → (nthL (cfs k xss n) j).length ≤ 40 := fun j hj => by
  rw [cfs_at hj]; exact joF_len (clsTo_at h hj)
theorem cfs_sz {k : Int} {xss : List (List Int)} {n : Nat} (h : clsTo xss n = true) : ∀ j, j ≤ n → szTo (cfs k xss n) j ≤ 40 * j := by
  intro j
  induction j with
  | zero => intro _; exact Nat.zero_le _
  | succ j ih =>
    intro hj
    have := ih (by omega)
    have h2 := cfs_40 (k := k) h j (by omega)
    rw [szTo]
    omega
theorem joF_len4 (zs : List Int) : (joF 3 zs).length ≤ 4 * zs.length + 1 := by
  unfold joF
  by_cases h0 : (lits zs zs.length).length = 0
  · rw [allL, if_pos h0]
    show 1 ≤ _
    omega
  · rw [allL_len 3 _ (by omega), lits_len]
    have := lits_sz zs zs.length zs.length (Nat.le_refl _)
    omega
theorem cfs_sz4 (xss : List (List Int)) (n : Nat) : ∀ j, j ≤ n → szTo (cfs 3 xss n) j ≤ 4 * szJ xss j + j := by
  intro j
  induction j with
  | zero => intro _; exact Nat.zero_le _
  | succ j ih =>
    intro hj
    have := ih (by omega)
    have h2 := joF_len4 (nthI xss j)
    rw [szTo, szJ, cfs_at (show j < n by omega)]
    omega
def cfL (xss : List (List Int)) : List Nd := allL 2 (cfs 3 xss xss.length)
def cfR (xss : List (List Int)) : List Nd := if clsTo xss xss.length then lim (cfL xss) else []
def cfC (xss : List (List Int)) : Int := if clsTo xss xss.length then limC (cfL xss) else 1
theorem ClausesFormula_len (xss : List (List Int)) : (cfR xss).length ≤ 1048576 := by unfold cfR; split <;> (try have := lim_len (cfL xss)) <;> simp <;> omega
theorem cf_bad {xss : List (List Int)} (h : clsTo xss xss.length = false) : cfR xss = [] ∧ cfC xss = 1 := by unfold cfR cfC; rw [h]; exact ⟨rfl, rfl⟩
theorem cf_good {xss : List (List Int)} (h : clsTo xss xss.length = true) : cfR xss = lim (cfL xss) ∧ cfC xss = limC (cfL xss) := by unfold cfR cfC; rw [h]; exact ⟨rfl, rfl⟩
theorem cfL_big {xss : List (List Int)} (h : clsTo xss xss.length = true) (h2 : 40 < xss.length) : 40 < (cfL xss).length := by
  unfold cfL
  rw [allL_len 2 _ (by rw [cfs_len]; omega), cfs_len]
  have := szTo_ge (xss := cfs 3 xss xss.length) (n := xss.length) (fun j hj => (ok_pos (cfs_ok (.inr rfl) h) j hj).1) xss.length (Nat.le_refl _)
  omega
theorem cfL_small {xss : List (List Int)} (h2 : xss.length ≤ 40) (h : clsTo xss xss.length = true) : (cfL xss).length ≤ 4096 := by
  unfold cfL
  by_cases h0 : (cfs 3 xss xss.length).length = 0
  · have := allL_empty (k := 2) h0; omega
  · rw [allL_len 2 _ (by omega), cfs_len]
    have := cfs_sz (k := 3) h xss.length (Nat.le_refl _)
    omega

set_option maxHeartbeats 2000000 in
theorem specClausesFormula_v (x0 : List (List Int)) (v : Value) (lo hi : Nat) (w : World) (hl : x0.length ≤ 1048576 ∧ szJ x0 x0.length ≤ 1048576) (h : InII w lo hi v x0) :
    Calls Try.prog 5 #[v] w fun e w' => ∃ v', e = .returned (.tuple #[v', .int .i64 (cfC x0)]) ∧ OwnN w' w.heap.size v' (cfR x0) ∧ Below w.heap.size w w' := by
  obtain ⟨a, cap, rfl, hat⟩ := h.at
  have H := Lib.hid hat
  have LI := Lib.hid (szJ_all hl.2)
  have hl0 := hl.1
  clear h hat hl
  cases hcl : clsTo x0 x0.length
  · obtain ⟨e1, e2⟩ := cf_bad hcl
    rw [e1, e2]
    have HC := Lib.hid hcl
    clear hcl e1 e2
    go_enter Try.func5, Try.ntmps5
    go_wp2_with fail
    refine (l04All_any x0 a x0.length cap w hl0 LI.out H.out).mono ?_
    rw [HC.out]
    rintro e w1 ⟨rfl, q, rfl⟩
    go_wp2
    go_ret2
    exact ⟨_, rfl, ownN_nil _ _, below_drewN (Below.refl _ _) q⟩
  · obtain ⟨e1, e2⟩ := cf_good hcl
    rw [e1, e2]
    have HC := Lib.hid hcl
    have BIG := Lib.hid (fun h => cfL_big hcl h)
    have CA := Lib.hid (fun j (hj : j < x0.length) => clsTo_at hcl hj)
    have SZ := Lib.hid (cfs_sz (k := 3) hcl)
    have POS := Lib.hid (fun j hj => (ok_pos (cfs_ok (k := 3) (.inr rfl) hcl) j hj).1)
    clear hcl e1 e2
    by_cases h40 : 40 < x0.length
    · obtain ⟨l1, l2⟩ := lim_no (BIG.out h40)
      rw [l1, l2]
      have hh : (40 : Int) < (x0.length : Int) := by omega
      clear l1 l2
      go_enter Try.func5, Try.ntmps5
      go_wp2_with fail
      refine (l04All_any x0 a x0.length cap w hl0 LI.out H.out).mono ?_
      rw [HC.out]
      rintro e w1 ⟨rfl, q, rfl⟩
      go_wp2
      go_ret2
      exact ⟨_, rfl, ownN_nil _ _, below_drewN (Below.refl _ _) q⟩
    · have hh : ¬ (40 : Int) < (x0.length : Int) := by omega
      obtain ⟨len, hlen⟩ : ∃ len, len = x0.length := ⟨_, rfl⟩
      have LN := Lib.hid hlen
      have CL := Lib.hid (cfs_len 3 x0)
      have CFL := Lib.hid (show cfL x0 = allL 2 (cfs 3 x0 x0.length) from rfl)
      rw [← hlen] at H HC CA SZ POS LI hl0 h40 hh CFL ⊢
      clear hlen BIG
      go_enter Try.func5, Try.ntmps5
      go_wp2_with fail
      refine (l04All_any x0 a len cap w hl0 LI.out H.out).mono ?_
      rw [HC.out]
      rintro e w1 ⟨rfl, q, hw1⟩
      have B1 := Lib.hid (show Below w.heap.size w w1 by rw [hw1]; exact below_drewN (Below.refl _ _) q)
      have hs1 := B1.out.size
      clear hw1
      have L0 := Lib.hid (show OwnL (w1.alloc (.cells #[] 24)) w.heap.size (.slice (some ⟨w1.heap.size, 0, none⟩) 0 0) (cfs 3 x0 0) from ownL_row (World.ownsRow_made w1 #[] 0 hs1 (Nat.zero_le _) rfl))
      have B0 := Lib.hid (B1.out.alloc hs1 (.cells #[] 24))
      go_wp2
      go_loopw [4, 5] (fun v i wr => ∃ j : Nat, j ≤ len ∧ i = .int .i64 j ∧ OwnL wr w.heap.size v (cfs 3 x0 j) ∧ Below w.heap.size w wr) (fun _ i _ => len - (intOf i).toNat)
      case atStart => exact ⟨0, Nat.zero_le _, rfl, L0.out, B0.out⟩
      case round =>
        obtain ⟨j, hj, rfl, hown, hbel⟩ := hrel
        have HO := Lib.hid hown
        have B := Lib.hid hbel
        clear hown hbel
        by_cases hlt : j < len
        · have N := Lib.hid (cfs_succ 3 x0 j)
          obtain ⟨b, off, rfl, hb, hc⟩ := (H.out.keep B.out (Nat.le_refl _)).2.resolve_left (by omega)
          obtain ⟨a1, c1, hcell, hat1⟩ := hc j hlt
          have hcl := CA.out j hlt
          have h6 := cl_six hcl
          have A1 := Lib.hid hat1
          have IN := Lib.hid (asTo_in (asTo_cl hcl))
          generalize nthI x0 j = zs at hcell A1 IN h6 N
          generalize zs.length = m at hcell A1 IN h6
          clear hc hat1 hcl
          go_wp2_with fail
          refine (l04Join_any 3 zs a1 m c1 _ h6 IN.out A1.out (.inr rfl)).mono ?_
          rintro e w2 ⟨v1, rfl, ho1, hb1⟩
          obtain ⟨a2, c2, rfl, -⟩ := ho1.at
          have O1 := Lib.hid ho1
          have B2 := Lib.hid hb1
          clear ho1 hb1
          go_wp2_with (at_builtin; refine list_appLL rfl _ _ rfl w.heap.size _ _ rfl HO.out B2.out _ _ O1.out ((Below.refl _ _).alloc (Nat.le_refl _) _) ⟨w2.heap.size, 0, none⟩ 1 rfl (World.cell?_alloc_at _ _ _ _ rfl) (by rw [CL.out]; omega) B.out.size ?_; intro v2 w3 ho2 hb2)
          have O2 := Lib.hid ho2
          have B3 := Lib.hid (B.out.trans hb2)
          clear ho2 hb2
          go_roundw
          case rel => exact ⟨j + 1, hlt, by go_num, by rw [N.out]; exact O2.out, B3.out⟩
          case measure => simp [intOf]; omega
        · obtain rfl : j = len := by omega
          obtain ⟨a3, c3, rfl, hat3⟩ := HO.out.at
          have A3 := Lib.hid hat3
          have sz := SZ.out j (Nat.le_refl _)
          clear hat3
          rw [CL.out] at A3 ⊢
          go_wp2_with fail
          refine (l02All_any 2 (cfs 3 x0 j) a3 j c3 _ (by omega) (by omega) POS.out A3.out).mono ?_
          rintro e w2 ⟨v1, rfl, ho1, hb1⟩
          have O1 := Lib.hid (show OwnN w2 w.heap.size v1 (cfL x0) by rw [CFL.out]; exact ho1.mono B.out.size)
          have B2 := Lib.hid (B.out.trans (hb1.mono B.out.size))
          have hcl := cfL_small (by rw [← LN.out]; omega : x0.length ≤ 40) (by rw [← LN.out]; exact HC.out)
          clear ho1 hb1
          go_wp2_with fail
          refine (l02Made_any (cfL x0) v1 w.heap.size w2 (by omega) O1.out).mono ?_
          rintro e w3 ⟨v3, rfl, ho3, rfl⟩
          have O3 := Lib.hid ho3
          clear ho3
          go_wp2
          go_ret2
          exact ⟨_, rfl, O3.out, B2.out⟩

set_option maxHeartbeats 1000000 in
theorem joinAllLiterals_any (x0 : List (List Int)) (a : Option Addr) (len cap : Nat) (w : World) (hl : len ≤ 1048576) (hJ : szJ x0 len ≤ 1048576) (hcl : clsTo x0 len = true) (h : AtII w a len x0) :
    Calls Try.prog 20 #[.int .i64 2, .int .i64 3, .slice a len cap] w fun e w' => ∃ v', e = .returned (.tuple #[v', .int .i64 (limC (cfL x0))]) ∧ OwnN w' w.heap.size v' (lim (cfL x0)) ∧ Below w.heap.size w w' := by
  have H := Lib.hid h
  have LN := Lib.hid h.1
  have CL := Lib.hid (cfs_len 3 x0)
  have HC := Lib.hid hcl
  have CA := Lib.hid (fun j (hj : j < len) => clsTo_at hcl hj)
  have E := Lib.hid (show allR 2 (cfs 3 x0 len) = lim (cfL x0) ∧ allC 2 (cfs 3 x0 len) = limC (cfL x0) by
    obtain ⟨e1, e2⟩ := allC_good (k := 2) (xss := cfs 3 x0 len) (by rw [cfs_len]; exact cfs_ok (.inr rfl) hcl) rfl
    rw [e1, e2, h.1]
    exact ⟨rfl, rfl⟩)
  have SZ := Lib.hid (show ∀ j, j ≤ len → szTo (cfs 3 x0 j) j ≤ 5242880 from fun j hj => by have h1 := cfs_sz4 x0 j j (Nat.le_refl _); have h2 := szJ_mono x0 hj; omega)
  have C40 := Lib.hid (cfs_40 (k := 3) hcl)
  obtain ⟨i0, hinf, hz0, hz1, hz2⟩ := info_parts infoNN
  clear h hcl
  go_enter Try.func20, Try.ntmps20
  go_wp2_with (at_make; refine wpList_make_own _ rfl _ _ 34 rfl w.heap.size 24 i0 (.slice none 0 0) 1 Try.underlying34 hinf hz0 hz1 _ _ _ len rfl rfl rfl ?b2 ?b3 (Nat.le_refl _) ?_)
  case b2 => rw [hz2]; omega
  case b3 => unfold maxLen; omega
  intro w0 hown0 hgrow0
  have L0 := Lib.hid (show OwnL w0 w.heap.size _ (cfs 3 x0 0) from ownL_row hown0)
  have B0 := Lib.hid ((Below.refl w.heap.size w).grown hgrow0 (Nat.le_refl _) (fun k h => by cases h))
  clear hown0 hinf hz0 hz1 hz2 hgrow0
  go_wp2
  go_loopw [8, 16] (fun v i wr => ∃ j : Nat, j ≤ len ∧ i = .int .i64 j ∧ OwnL wr w.heap.size v (cfs 3 x0 j) ∧ Below w.heap.size w wr) (fun _ i _ => len - (intOf i).toNat)
  case atStart => exact ⟨0, Nat.zero_le _, rfl, L0.out, B0.out⟩
  case round =>
    obtain ⟨j, hj, rfl, hown, hbel⟩ := hrel
    have HO := Lib.hid hown
    have B := Lib.hid hbel
    clear hown hbel
    by_cases hlt : j < len
    · have N := Lib.hid (cfs_succ 3 x0 j)
      obtain ⟨b, off, rfl, hb, hc⟩ := (H.out.keep B.out (Nat.le_refl _)).2.resolve_left (by omega)
      obtain ⟨a1, c1, hcell, hat1⟩ := hc j hlt
      have hcl := CA.out j hlt
      have h6 := cl_six hcl
      have A1 := Lib.hid hat1
      have IN := Lib.hid (asTo_in (asTo_cl hcl))
      generalize nthI x0 j = zs at hcell A1 IN h6 N
      generalize zs.length = m at hcell A1 IN h6
      clear hc hat1 hcl
      go_wp2_with fail
      refine (joinLiterals_any 3 zs a1 m c1 _ h6 IN.out A1.out rfl).mono ?_
      rintro e w2 ⟨v1, rfl, ho1, hb1⟩
      obtain ⟨a2, c2, rfl, -⟩ := ho1.at
      have O1 := Lib.hid ho1
      have B2 := Lib.hid hb1
      clear ho1 hb1
      go_wp2_with (at_builtin; refine list_appLL rfl _ _ rfl w.heap.size _ _ rfl HO.out B2.out _ _ O1.out ((Below.refl _ _).alloc (Nat.le_refl _) _) ⟨w2.heap.size, 0, none⟩ 1 rfl (World.cell?_alloc_at _ _ _ _ rfl) (by rw [CL.out]; omega) B.out.size ?_; intro v2 w3 ho2 hb2)
      have O2 := Lib.hid ho2
      have B3 := Lib.hid (B.out.trans hb2)
      clear ho2 hb2
      go_roundw
      case rel => exact ⟨j + 1, hlt, by go_num, by rw [N.out]; exact O2.out, B3.out⟩
      case measure => simp [intOf]; omega
    · obtain rfl : j = len := by omega
      obtain ⟨a3, c3, rfl, hat3⟩ := HO.out.at
      have A3 := Lib.hid hat3
      have sz := SZ.out j (Nat.le_refl _)
      obtain ⟨e1, e2⟩ := E.out
      have E1 := Lib.hid e1
      have E2 := Lib.hid e2
      clear hat3 e1 e2
      rw [CL.out] at A3 ⊢
      go_wp2_with fail
      refine (implJoinAll_gen 2 (cfs 3 x0 j) a3 j c3 _ hl (by omega) (fun i hi => Nat.le_trans (C40.out i hi) (by decide)) A3.out).mono ?_
      rw [E1.out, E2.out]
      rintro e w2 ⟨v1, rfl, ho1, hb1⟩
      have O1 := Lib.hid (ho1.mono B.out.size)
      have B2 := Lib.hid (B.out.trans (hb1.mono B.out.size))
      clear ho1 hb1
      go_wp2
      go_ret2
      exact ⟨_, rfl, O1.out, B2.out⟩

set_option maxHeartbeats 1000000 in
theorem implClausesFormula_v (x0 : List (List Int)) (v : Value) (lo hi : Nat) (w : World) (hl : x0.length ≤ 1048576 ∧ szJ x0 x0.length ≤ 1048576) (h : InII w lo hi v x0) :
    Calls Try.prog 7 #[v] w fun e w' => ∃ v', e = .returned (.tuple #[v', .int .i64 (cfC x0)]) ∧ OwnN w' w.heap.size v' (cfR x0) ∧ Below w.heap.size w w' := by
  obtain ⟨a, cap, rfl, hat⟩ := h.at
  have H := Lib.hid hat
  have LI := Lib.hid (szJ_all hl.2)
  have hl0 := hl.1
  have hJ0 := hl.2
  clear h hat hl
  cases hcl : clsTo x0 x0.length
  · obtain ⟨e1, e2⟩ := cf_bad hcl
    rw [e1, e2]
    have HC := Lib.hid (clsC_no hcl)
    clear hcl e1 e2
    go_enter Try.func7, Try.ntmps7
    go_wp2_with fail
    refine (clauseSetOf_any (H' := Unit) x0 a x0.length cap w hl0 LI.out H.out).mono ?_
    rw [HC.out]
    rintro e w1 ⟨m, rfl, hb⟩
    have B1 := Lib.hid hb
    clear hb
    go_wp2
    go_ret2
    exact ⟨_, rfl, ownN_nil _ _, B1.out⟩
  · obtain ⟨e1, e2⟩ := cf_good hcl
    rw [e1, e2]
    have HC := Lib.hid (clsC_yes hcl)
    have HD := Lib.hid hcl
    clear hcl e1 e2
    go_enter Try.func7, Try.ntmps7
    go_wp2_with fail
    refine (clauseSetOf_any (H' := Unit) x0 a x0.length cap w hl0 LI.out H.out).mono ?_
    rw [HC.out]
    rintro e w1 ⟨m, rfl, hb⟩
    have B1 := Lib.hid hb
    clear hb
    go_wp2_with fail
    refine (joinAllLiterals_any x0 a x0.length cap w1 hl0 hJ0 HD.out (H.out.keep B1.out (Nat.le_refl _))).mono ?_
    rintro e w2 ⟨v2, rfl, ho, hb⟩
    have O2 := Lib.hid (ho.mono B1.out.size)
    have B2 := Lib.hid (B1.out.trans (hb.mono B1.out.size))
    clear ho hb
    go_wp2
    go_ret2
    exact ⟨_, rfl, O2.out, B2.out⟩

end Go.Proofs.Ytfpnmeacnhcakaa
