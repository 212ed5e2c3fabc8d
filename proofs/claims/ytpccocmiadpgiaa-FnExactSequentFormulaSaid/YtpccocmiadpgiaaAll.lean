/- Contracts of JoinAll: the model's and the program's. Conditions: those in the theorems. -/
import Derived.Test.YtpccocmiadpgiaaJn08
import Derived.Test.YtpccocmiadpgiaaJn02
import Derived.Test.YtpccocmiadpgiaaRep
import Derived.Test.YtpccocmiadpgiaaAreF
namespace Go.Proofs.Ytpccocmiadpgiaa
open Go.RowKit

/-- The formulas 0 .. j - 1 of a list, joined. -/
def allTo (k : Int) (xss : List (List Nd)) (j : Nat) : List Nd := List.replicate (j - 1) (k, 0) ++ catTo xss j
def allL (k : Int) (xss : List (List Nd)) : List Nd := if xss.length = 0 then (if k == 2 then [(4, 0), (1, 0), (1, 0)] else [(1, 0)]) else allTo k xss xss.length
def allR (k : Int) (xss : List (List Nd)) : List Nd := if okAll xss xss.length then (if k == 2 || k == 3 then lim (allL k xss) else []) else []
def allC (k : Int) (xss : List (List Nd)) : Int := if okAll xss xss.length then (if k == 2 || k == 3 then limC (allL k xss) else 2) else 1
theorem JoinAll_len (k : Int) (xss : List (List Nd)) : (allR k xss).length ≤ 1048576 := by unfold allR; split <;> (try split) <;> (try have := lim_len (allL k xss)) <;> simp <;> omega
theorem allTo_len (k : Int) (xss : List (List Nd)) (j : Nat) : (allTo k xss j).length = j - 1 + szTo xss j := by rw [allTo, List.length_append, List.length_replicate, catTo_len]
theorem allTo_one (k : Int) (xss : List (List Nd)) : allTo k xss 1 = nthL xss 0 := by simp [allTo, catTo]
theorem allTo_succ (k : Int) (xss : List (List Nd)) (j : Nat) (h : 1 ≤ j) : (k, 0) :: (allTo k xss j ++ nthL xss j) = allTo k xss (j + 1) := by
  rw [allTo, allTo, catTo, show j + 1 - 1 = j - 1 + 1 by omega, List.replicate_succ, List.cons_append, List.append_assoc]
theorem szTo_ge {xss : List (List Nd)} {n : Nat} (hp : ∀ j, j < n → 0 < (nthL xss j).length) : ∀ j, j ≤ n → j ≤ szTo xss j
  | 0, _ => Nat.zero_le _
  | j + 1, h => by have := szTo_ge hp j (by omega); have := hp j (by omega); rw [szTo]; omega
theorem ok_pos {xss : List (List Nd)} {n : Nat} (h : okAll xss n = true) : ∀ j, j < n → 0 < (nthL xss j).length ∧ (nthL xss j).length ≤ 40 := fun _ hj => is_pos (okAll_at h hj)

set_option maxHeartbeats 1000000 in
theorem l02All_any (k : Int) (xss : List (List Nd)) (a : Option Addr) (len cap : Nat) (w : World) (hl : len ≤ 4096) (hs : szTo xss len ≤ 4096) (hp : ∀ j, j < len → 0 < (nthL xss j).length) (h : AtNN w a len xss) :
    Calls Try.prog 28 #[.int .i64 k, .slice a len cap] w fun e w' => ∃ v, e = .returned v ∧ OwnN w' w.heap.size v (allL k xss) ∧ Below w.heap.size w w' := by
  have hlx := h.1
  unfold allL
  rw [← hlx]
  have H := Lib.hid h
  have P := Lib.hid hp
  have S := Lib.hid hs
  clear h hp hs hlx
  by_cases h0 : len = 0
  · subst h0
    rw [if_pos rfl]
    by_cases hk : k = 2
    · subst hk
      go_enter Try.func28, Try.ntmps28
      go_wp2_with fail
      refine (l02True_all _).mono ?_
      rintro e w1 ⟨v1, rfl, ho1, hb1⟩
      go_wp2
      go_ret
      exact ⟨_, rfl, ho1, hb1⟩
    · rw [if_neg (by simpa using hk)]
      go_enter Try.func28, Try.ntmps28
      go_wp2_with fail
      refine (l02False_any _).mono ?_
      rintro e w1 ⟨v1, rfl, ho1, hb1⟩
      go_wp2
      go_ret
      exact ⟨_, rfl, ho1, hb1⟩
  · rw [if_neg h0]
    obtain ⟨b, off, rfl, hb, hc⟩ := H.out.2.resolve_left (by omega)
    obtain ⟨a1, cap1, hc1, hat1⟩ := hc 0 (by omega)
    have P0 := P.out 0 (by omega)
    have S0 : (nthL xss 0).length ≤ 4096 := by
      have a1 := szTo_mono xss (show 1 ≤ len by omega)
      have := S.out
      simp only [szTo, Nat.zero_add] at a1
      omega
    obtain ⟨n, hn⟩ : ∃ n, n = (nthL xss 0).length := ⟨_, rfl⟩
    rw [← hn] at hc1 hat1 P0 S0
    have A1 := Lib.hid hat1
    rw [Nat.add_zero] at hc1
    have C := Lib.hid hc
    have hlp : (0 : Int) < (len : Int) := by omega
    clear hat1 hn hc
    go_enter Try.func28, Try.ntmps28
    go_wp2_with fail
    refine (l02Own_any (nthL xss 0) a1 n cap1 _ (by omega) P0 A1.out).mono ?_
    rintro e w1 ⟨v1, rfl, ho1, hb1⟩
    have O1 := Lib.hid ho1
    have B1 := Lib.hid hb1
    clear ho1 hb1
    go_wp2
    go_loopw [5, 6] (fun v i wr => ∃ j : Nat, 1 ≤ j ∧ j ≤ len ∧ i = .int .i64 j ∧ OwnN wr w.heap.size v (allTo k xss j) ∧ Below w.heap.size w wr) (fun _ i _ => len - (intOf i).toNat)
    case atStart => exact ⟨1, Nat.le_refl _, by omega, rfl, by rw [allTo_one]; exact O1.out, B1.out⟩
    case round =>
      obtain ⟨j, hj1, hj, rfl, hown, hbel⟩ := hrel
      by_cases hlt : j < len
      · obtain ⟨a2, cap2, hc2, hat2⟩ := C.out j hlt
        have hc3 : wr.cell? ⟨b, off + j, none⟩ = some (.slice a2 (nthL xss j).length cap2) := (hbel.cell (p := ⟨b, off + j, none⟩) hb).trans hc2
        have A2 := Lib.hid (hat2.keep hbel (Nat.le_refl _))
        have P2 := P.out j hlt
        have S2 : szTo xss j + (nthL xss j).length ≤ 4096 := Nat.le_trans (szTo_mono xss (show j + 1 ≤ len by omega)) S.out
        have hal := allTo_len k xss j
        have hap : 0 < (allTo k xss j).length := by have := szTo_ge P.out j hj; omega
        obtain ⟨av, cv, rfl, atv, -⟩ := hown.at
        have AV := Lib.hid atv
        have B := Lib.hid hbel
        have hb2 : (allTo k xss j).length + (nthL xss j).length ≤ 4194304 := by omega
        obtain ⟨q, hq⟩ : ∃ q, q = (allTo k xss j).length := ⟨_, rfl⟩
        obtain ⟨m, hm⟩ : ∃ m, m = (nthL xss j).length := ⟨_, rfl⟩
        rw [← hm] at hc3 A2 P2 hb2
        rw [← hq] at AV hap hb2 ⊢
        clear hc2 hat2 atv hbel hown hal S2 hq hm
        go_wp2_with fail
        refine (l02Pair_any k (allTo k xss j) (nthL xss j) av a2 q m cv cap2 _ hb2 hap P2 AV.out A2.out).mono ?_
        rintro e w2 ⟨v2, rfl, ho2, hb2⟩
        have O2 := Lib.hid (ho2.mono B.out.size)
        have B2 := Lib.hid (B.out.trans (hb2.mono B.out.size))
        clear ho2 hb2
        go_wp2
        go_roundw
        case rel => exact ⟨j + 1, by omega, hlt, by go_num, by rw [← allTo_succ k xss j hj1]; exact O2.out, B2.out⟩
        case measure => simp [intOf]; omega
      · obtain rfl : j = len := by omega
        have O := Lib.hid hown
        clear hown
        go_wp2
        go_ret
        exact ⟨_, rfl, O.out, hbel⟩

theorem allC_bad {k : Int} {xss : List (List Nd)} (h : okAll xss xss.length = false) : allR k xss = [] ∧ allC k xss = 1 := by simp [allR, allC, h]
theorem allC_out {k : Int} {xss : List (List Nd)} (h : okAll xss xss.length = true) (h2 : (k == 2 || k == 3) = false) : allR k xss = [] ∧ allC k xss = 2 := by simp only [allR, allC, h, h2]; exact ⟨rfl, rfl⟩
theorem allC_good {k : Int} {xss : List (List Nd)} (h : okAll xss xss.length = true) (h2 : (k == 2 || k == 3) = true) : allR k xss = lim (allL k xss) ∧ allC k xss = limC (allL k xss) := by simp only [allR, allC, h, h2]; exact ⟨rfl, rfl⟩
theorem allL_len (k : Int) (xss : List (List Nd)) (h : 0 < xss.length) : (allL k xss).length = xss.length - 1 + szTo xss xss.length := by rw [allL, if_neg (by omega), allTo_len]
theorem lim_no {zs : List Nd} (h : 40 < zs.length) : lim zs = [] ∧ limC zs = 3 := ⟨if_pos h, if_pos h⟩
theorem lim_ok {zs : List Nd} (h : zs.length ≤ 40) : lim zs = zs ∧ limC zs = 0 := ⟨if_neg (by omega), if_neg (by omega)⟩
theorem kind_cases (k : Int) : ((k == 2 || k == 3) = true ∧ (k = 2 ∨ k = 3)) ∨ ((k == 2 || k == 3) = false ∧ (k != 2) = true ∧ (k != 3) = true) := by
  by_cases h2 : k = 2
  · exact .inl ⟨by simp [h2], .inl h2⟩
  · by_cases h3 : k = 3
    · exact .inl ⟨by simp [h3], .inr h3⟩
    · exact .inr ⟨by simp [h2, h3], by simp [h2], by simp [h3]⟩
theorem allL_empty {k : Int} {xss : List (List Nd)} (h : xss.length = 0) : (allL k xss).length ≤ 40 := by
  rw [allL, if_pos h]
  split <;> decide

/-- No list: the answer is what is given for that. -/
theorem linkAll_no (k : Int) (a : Option Addr) (cap : Nat) (v : Value) (w : World) :
    Calls Try.prog 44 #[.agg #[.int .i64 k, .int .i64 0], .slice a 0 cap, v] w fun e w' => e = .returned v ∧ Below w.heap.size w w' := by
  go_enter Try.func44, Try.ntmps44
  go_wp2
  go_ret
  exact ⟨rfl, (Below.refl _ _).alloc (Nat.le_refl _) _⟩

set_option maxHeartbeats 2000000 in
theorem linkAll_any (k : Int) (xss : List (List Nd)) (a : Option Addr) (j cap : Nat) (v : Value) (w : World) (h0 : 0 < j) (hl : j ≤ 1048576) (hs : szTo xss j ≤ 6291456) (hp : ∀ i, i < j → 0 < (nthL xss i).length) (h : AtNN w a j xss) :
    Calls Try.prog 44 #[.agg #[.int .i64 k, .int .i64 0], .slice a j cap, v] w fun e w' => ∃ v, e = .returned v ∧ OwnN w' w.heap.size v (allTo k xss j) ∧ Below w.heap.size w w' := by
  have LX := Lib.hid h.1
  obtain ⟨W, hW⟩ : ∃ W, W = w.alloc (.cells #[.int .i64 k, .int .i64 0] 55) := ⟨_, rfl⟩
  have hWs : W.heap.size = w.heap.size + 1 := by rw [hW]; simp
  have hWb : Below w.heap.size w W := by rw [hW]; exact (Below.refl _ _).alloc (Nat.le_refl _) _
  have H := Lib.hid (h.keep hWb (Nat.le_refl _))
  have PP := Lib.hid hp
  clear h hp
  have hz1 := szTo_ge PP.out j (Nat.le_refl _)
  have hz2 := catTo_len xss j
  have hz3 := allTo_len k xss j
  have SZ := Lib.hid hs
  have hsub : ((j - 1 : Nat) : Int) = (j : Int) - 1 := by omega
  have hwr : IntKind.i64.wrap ((j : Int) - 1) = (j : Int) - 1 := by rw [IntKind.wrap_i64]; omega
  have hj0 : (j : Int) ≠ 0 := by omega
  have R := fun (v : World) (h : AtN v (some ⟨W.heap.size, 0, none⟩) 1 [(k, 0)]) => repeat_any k 0 (j - 1) (some ⟨W.heap.size, 0, none⟩) 1 v (by omega) h
  rw [hsub] at R
  have hlit := litN W W.heap.size k 0 (Nat.le_refl _)
  have hatl : AtN (W.alloc (.cells #[.int .i64 k, .int .i64 0] 55)) (some ⟨W.heap.size, 0, none⟩) 1 [(k, 0)] := by
    obtain ⟨aa, cc, hv, at1, -⟩ := hlit.at
    simp only [List.length_cons, List.length_nil, Value.slice.injEq] at hv
    rw [← hv.1] at at1
    exact at1
  rw [hWs] at R hatl
  have AL := Lib.hid hatl
  have B0 := Lib.hid (hWb.trans (((Below.refl W.heap.size W).alloc (Nat.le_refl _) (.cells #[.int .i64 k, .int .i64 0] 55)).mono (by omega)))
  have hcp : 0 < (catTo xss j).length := by omega
  have hcb : (List.replicate (j - 1) ((k, 0) : Nd)).length + (catTo xss j).length ≤ 8388608 := by simp; omega
  have CP := Lib.hid hcp
  have CB := Lib.hid hcb
  have HK := Lib.hid (fun w1 (hw : Below w.heap.size W w1) => H.out.keep (hw.mono (Nat.le_refl _)))
  have HW := Lib.hid hW
  have HB := Lib.hid hWb
  have HS := Lib.hid hWs
  clear hlit hatl hs hz1 hz2 hz3 hcp hcb hW hWb hWs
  go_enter Try.func44, Try.ntmps44
  go_wp2_with fail
  rw [← HW.out]
  refine (R _ AL.out).mono ?_
  rintro e w1 ⟨v1, rfl, ho1, hb1⟩
  have B1 := Lib.hid (B0.out.trans (hb1.mono B0.out.size))
  have O1 := Lib.hid ho1.inn
  have T1 := Lib.hid (((Below.refl W.heap.size W).alloc (Nat.le_refl _) (.cells #[.int .i64 k, .int .i64 0] 55)).trans (hb1.mono (by simp)))
  clear hb1 ho1
  go_wp2_with fail
  refine (concat_any xss a j cap _ (by omega) (by have := SZ.out; omega) PP.out (by omega) (H.out.keep T1.out (Nat.le_refl _))).mono ?_
  rintro e w2 ⟨v2, rfl, ho2, hb2⟩
  have O2 := Lib.hid (((O1.out.below hb2 O1.out.2.1).1).mono B0.out.size)
  have B2 := Lib.hid (B1.out.trans (hb2.mono B1.out.size))
  obtain ⟨a3, c3, rfl, at3, -⟩ := ho2.at
  have A3 := Lib.hid at3
  clear hb2 ho2 at3 O1
  go_wp2_with (at_builtin; refine list_appN rfl _ _ rfl w.heap.size _ _ rfl O2.out (catTo xss j) a3 _ c3 rfl A3.out CP.out CB.out B2.out.size ?_)
  intro v4 w4 ho4 hg4
  have B4 := Lib.hid (below_appN B2.out (Below.refl _ _) B2.out.size O2.out hg4)
  have O4 := Lib.hid (show OwnN w4 w.heap.size v4 (allTo _ xss j) from ho4)
  clear ho4 hg4
  go_wp2
  go_ret
  exact ⟨v4, rfl, O4.out, B4.out⟩

set_option maxHeartbeats 2000000 in
theorem joinAll_any (k : Int) (hk2 : k = 2 ∨ k = 3) (xss : List (List Nd)) (a : Option Addr) (j cap : Nat) (w : World) (hl : j ≤ 1048576) (hs : szTo xss j ≤ 6291456) (hp : ∀ i, i < j → 0 < (nthL xss i).length) (h : AtNN w a j xss) :
    Calls Try.prog 30 #[.int .i64 k, .slice a j cap] w fun e w' => ∃ v, e = .returned v ∧ OwnN w' w.heap.size v (allL k xss) ∧ Below w.heap.size w w' := by
  have H := Lib.hid h
  have LX := Lib.hid h.1
  have PP := Lib.hid hp
  have SZ := Lib.hid hs
  clear h hp hs
  have CL0 : (∀ (W : World) (v : Value) (xs : List Nd), Below w.heap.size w W → OwnN W w.heap.size v xs → (xs = if k == 2 then [(4, 0), (1, 0), (1, 0)] else [(1, 0)]) →
      Calls Try.prog 44 #[.agg #[.int .i64 k, .int .i64 0], .slice a j cap, v] W fun e w' => ∃ v, e = .returned v ∧ OwnN w' w.heap.size v (allL k xss) ∧ Below w.heap.size w w') := by
    intro W v xs hb ho hx
    by_cases h0 : j = 0
    · subst h0
      have hz : xss.length = 0 := LX.out.symm
      rw [allL, if_pos hz]
      refine (linkAll_no k a cap v W).mono ?_
      rintro e w1 ⟨rfl, hb1⟩
      refine ⟨v, rfl, ?_, hb.trans (hb1.mono hb.size)⟩
      rw [← hx]
      exact ((ho.inn.below hb1 (Nat.le_refl _)).1)
    · rw [allL, if_neg (by rw [← LX.out]; exact h0), ← LX.out]
      refine (linkAll_any k xss a j cap v W (by omega) hl SZ.out PP.out (H.out.keep hb (Nat.le_refl _))).mono ?_
      rintro e w1 ⟨v1, rfl, ho1, hb1⟩
      exact ⟨v1, rfl, ho1.mono hb.size, hb.trans (hb1.mono hb.size)⟩
  have CL := Lib.hid CL0
  clear CL0
  rcases hk2 with rfl | rfl
  · go_enter Try.func30, Try.ntmps30
    go_wp2_with fail
    refine (falseNodes_any _).mono ?_
    rintro e w1 ⟨v1, rfl, ho1, hb1⟩
    obtain ⟨a1, c1, rfl, at1, -, -, -⟩ := ho1.at
    have B1 := Lib.hid hb1
    have A1 := Lib.hid at1
    clear hb1 ho1 at1
    go_wp2_with fail
    refine (notNodes_any [(1, 0)] _ _ _ _ (by simp) (by simp) A1.out).mono ?_
    rintro e w2 ⟨v2, rfl, ho2, hb2⟩
    have B2 := Lib.hid (B1.out.trans (hb2.mono B1.out.size))
    have O2 := Lib.hid (ho2.mono B1.out.size)
    clear hb2 ho2
    go_wp2_with fail
    refine (CL.out _ _ _ B2.out O2.out rfl).mono ?_
    rintro e w3 ⟨v3, rfl, ho3, hb3⟩
    have B3 := Lib.hid hb3
    have O3 := Lib.hid ho3
    clear hb3 ho3
    go_wp2
    go_ret
    exact ⟨v3, rfl, O3.out, B3.out⟩
  · go_enter Try.func30, Try.ntmps30
    go_wp2_with fail
    refine (falseNodes_any _).mono ?_
    rintro e w1 ⟨v1, rfl, ho1, hb1⟩
    have B1 := Lib.hid hb1
    have O1 := Lib.hid ho1
    clear hb1 ho1
    go_wp2_with fail
    refine (CL.out _ _ _ B1.out O1.out rfl).mono ?_
    rintro e w3 ⟨v3, rfl, ho3, hb3⟩
    have B3 := Lib.hid hb3
    have O3 := Lib.hid ho3
    clear hb3 ho3
    go_wp2
    go_ret
    exact ⟨v3, rfl, O3.out, B3.out⟩

end Go.Proofs.Ytpccocmiadpgiaa
