/- Contracts of JoinAll: the model's and the program's. Conditions: those in the theorems. -/
import Derived.Test.YtfkahkhmnchnjacOk
import Derived.Test.YtfkahkhmnchnjacTrue
import Derived.Test.YtfkahkhmnchnjacRep
import Derived.Test.YtfkahkhmnchnjacMade
namespace Go.Proofs.Ytfkahkhmnchnjac
open Go.RowKit

/-- The formulas 0 .. j - 1 of a list, joined. -/
def allTo (k : Int) (xss : List (List Nd)) (j : Nat) : List Nd := List.replicate (j - 1) (k, 0) ++ catTo xss j
def allL (k : Int) (xss : List (List Nd)) : List Nd := if xss.length = 0 then (if k == 2 then [(4, 0), (1, 0), (1, 0)] else [(1, 0)]) else allTo k xss xss.length
def allR (k : Int) (xss : List (List Nd)) : List Nd := if okAll xss xss.length then (if k == 2 || k == 3 then lim (allL k xss) else []) else []
def allC (k : Int) (xss : List (List Nd)) : Int := if okAll xss xss.length then (if k == 2 || k == 3 then limC (allL k xss) else 2) else 1
theorem JoinAll_len (k : Int) (xss : List (List Nd)) : (allR k xss).length ≤ 1048576 := by unfold allR; split <;> (try split) <;> (try have := lim_len (allL k xss)) <;> simp <;> omega
theorem allTo_len (k : Int) (xss : List (List Nd)) (j : Nat) : (allTo k xss j).length = j - 1 + szTo xss j := by rw [allTo, List.length_append, List.length_replicate, catTo_len]
theorem allTo_one (k : Int) (xss : List (List Nd)) : allTo k xss 1 = nthL xss 0 := by simp [allTo, catTo]
theorem allTo_succ (k : Int) (xss : List (List Nd)) (j : Nat) (h : 1 ≤ j) : (k, 0) :: (allTo k xss j ++ nthL xss j) = allTo k xss (j + 1) := by
  rw [allTo, allTo, catTo, show j + 1 - 1 = j - 1 + 1 by omega, List.replicate_succ, List.cons_append, List.append_assoc]
theorem szTo_ge {xss : List (List Nd)} {n : Nat} (hp : ∀ j, j < n → 0 < (nthL xss j).length) : ∀ j, j ≤ n → j ≤ szTo xss j
  | 0, _ => Nat.zero_le _
  | j + 1, h => by have := szTo_ge hp j (by omega); have := hp j (by omega); rw [szTo]; omega
theorem ok_pos {xss : List (List Nd)} {n : Nat} (h : okAll xss n = true) : ∀ j, j < n → 0 < (nthL xss j).length ∧ (nthL xss j).length ≤ 40 := fun _ hj => is_pos (okAll_at h hj)

set_option maxHeartbeats 1000000 in
theorem l02All_any (k : Int) (xss : List (List Nd)) (a : Option Addr) (len cap : Nat) (w : World) (hl : len ≤ 4096) (hs : szTo xss len ≤ 4096) (hp : ∀ j, j < len → 0 < (nthL xss j).length) (h : AtNN w a len xss) :
    Calls Try.prog 25 #[.int .i64 k, .slice a len cap] w fun e w' => ∃ v, e = .returned v ∧ OwnN w' w.heap.size v (allL k xss) ∧ Below w.heap.size w w' := by
  have hlx := h.1
  unfold allL
  rw [← hlx]
  have H := Lib.hid h
  have P := Lib.hid hp
  have S := Lib.hid hs
  clear h hp hs hlx
  by_cases h0 : len = 0
  · subst h0
    rw [if_pos rfl]
    by_cases hk : k = 2
    · subst hk
      go_enter Try.func25, Try.ntmps25
      go_wp2_with fail
      refine (l02True_all _).mono ?_
      rintro e w1 ⟨v1, rfl, ho1, hb1⟩
      go_wp2
      go_ret
      exact ⟨_, rfl, ho1, hb1⟩
    · rw [if_neg (by simpa using hk)]
      go_enter Try.func25, Try.ntmps25
      go_wp2_with fail
      refine (l02False_any _).mono ?_
      rintro e w1 ⟨v1, rfl, ho1, hb1⟩
      go_wp2
      go_ret
      exact ⟨_, rfl, ho1, hb1⟩
  · rw [if_neg h0]
    obtain ⟨b, off, rfl, hb, hc⟩ := H.out.2.resolve_left (by omega)
    obtain ⟨a1, cap1, hc1, hat1⟩ := hc 0 (by omega)
    have P0 := P.out 0 (by omega)
    have S0 : (nthL xss 0).length ≤ 4096 := by
      have a1 := szTo_mono xss (show 1 ≤ len by omega)
      have := S.out
      simp only [szTo, Nat.zero_add] at a1
      omega
    obtain ⟨n, hn⟩ : ∃ n, n = (nthL xss 0).length := ⟨_, rfl⟩
    rw [← hn] at hc1 hat1 P0 S0
    have A1 := Lib.hid hat1
    rw [Nat.add_zero] at hc1
    have C := Lib.hid hc
    have hlp : (0 : Int) < (len : Int) := by omega
    clear hat1 hn hc
    go_enter Try.func25, Try.ntmps25
    go_wp2_with fail
    refine (l02Own_any (nthL xss 0) a1 n cap1 _ (by omega) P0 A1.out).mono ?_
    rintro e w1 ⟨v1, rfl, ho1, hb1⟩
    have O1 := Lib.hid ho1
    have B1 := Lib.hid hb1
    clear ho1 hb1
    go_wp2
    go_loopw [5, 6] (fun v i wr => ∃ j : Nat, 1 ≤ j ∧ j ≤ len ∧ i = .int .i64 j ∧ OwnN wr w.heap.size v (allTo k xss j) ∧ Below w.heap.size w wr) (fun _ i _ => len - (intOf i).toNat)
    case atStart => exact ⟨1, Nat.le_refl _, by omega, rfl, by rw [allTo_one]; exact O1.out, B1.out⟩
    case round =>
      obtain ⟨j, hj1, hj, rfl, hown, hbel⟩ := hrel
      by_cases hlt : j < len
      · obtain ⟨a2, cap2, hc2, hat2⟩ := C.out j hlt
        have hc3 : wr.cell? ⟨b, off + j, none⟩ = some (.slice a2 (nthL xss j).length cap2) := (hbel.cell (p := ⟨b, off + j, none⟩) hb).trans hc2
        have A2 := Lib.hid (hat2.keep hbel (Nat.le_refl _))
        have P2 := P.out j hlt
        have S2 : szTo xss j + (nthL xss j).length ≤ 4096 := Nat.le_trans (szTo_mono xss (show j + 1 ≤ len by omega)) S.out
        have hal := allTo_len k xss j
        have hap : 0 < (allTo k xss j).length := by have := szTo_ge P.out j hj; omega
        obtain ⟨av, cv, rfl, atv, -⟩ := hown.at
        have AV := Lib.hid atv
        have B := Lib.hid hbel
        have hb2 : (allTo k xss j).length + (nthL xss j).length ≤ 4194304 := by omega
        obtain ⟨q, hq⟩ : ∃ q, q = (allTo k xss j).length := ⟨_, rfl⟩
        obtain ⟨m, hm⟩ : ∃ m, m = (nthL xss j).length := ⟨_, rfl⟩
        rw [← hm] at hc3 A2 P2 hb2
        rw [← hq] at AV hap hb2 ⊢
        clear hc2 hat2 atv hbel hown hal S2 hq hm
        go_wp2_with fail
        refine (l02Pair_any k (allTo k xss j) (nthL xss j) av a2 q m cv cap2 _ hb2 hap P2 AV.out A2.out).mono ?_
        rintro e w2 ⟨v2, rfl, ho2, hb2⟩
        have O2 := Lib.hid (ho2.mono B.out.size)
        have B2 := Lib.hid (B.out.trans (hb2.mono B.out.size))
        clear ho2 hb2
        go_wp2
        go_roundw
        case rel => exact ⟨j + 1, by omega, hlt, by go_num, by rw [← allTo_succ k xss j hj1]; exact O2.out, B2.out⟩
        case measure => simp [intOf]; omega
      · obtain rfl : j = len := by omega
        have O := Lib.hid hown
        clear hown
        go_wp2
        go_ret
        exact ⟨_, rfl, O.out, hbel⟩

theorem allC_bad {k : Int} {xss : List (List Nd)} (h : okAll xss xss.length = false) : allR k xss = [] ∧ allC k xss = 1 := by simp [allR, allC, h]
theorem allC_out {k : Int} {xss : List (List Nd)} (h : okAll xss xss.length = true) (h2 : (k == 2 || k == 3) = false) : allR k xss = [] ∧ allC k xss = 2 := by simp only [allR, allC, h, h2]; exact ⟨rfl, rfl⟩
theorem allC_good {k : Int} {xss : List (List Nd)} (h : okAll xss xss.length = true) (h2 : (k == 2 || k == 3) = true) : allR k xss = lim (allL k xss) ∧ allC k xss = limC (allL k xss) := by simp only [allR, allC, h, h2]; exact ⟨rfl, rfl⟩
theorem allL_len (k : Int) (xss : List (List Nd)) (h : 0 < xss.length) : (allL k xss).length = xss.length - 1 + szTo xss xss.length := by rw [allL, if_neg (by omega), allTo_len]
theorem lim_no {zs : List Nd} (h : 40 < zs.length) : lim zs = [] ∧ limC zs = 3 := ⟨if_pos h, if_pos h⟩
theorem lim_ok {zs : List Nd} (h : zs.length ≤ 40) : lim zs = zs ∧ limC zs = 0 := ⟨if_neg (by omega), if_neg (by omega)⟩
theorem kind_cases (k : Int) : ((k == 2 || k == 3) = true ∧ (k = 2 ∨ k = 3)) ∨ ((k == 2 || k == 3) = false ∧ (k != 2) = true ∧ (k != 3) = true) := by
  by_cases h2 : k = 2
  · exact .inl ⟨by simp [h2], .inl h2⟩
  · by_cases h3 : k = 3
    · exact .inl ⟨by simp [h3], .inr h3⟩
    · exact .inr ⟨by simp [h2, h3], by simp [h2], by simp [h3]⟩
theorem allL_empty {k : Int} {xss : List (List Nd)} (h : xss.length = 0) : (allL k xss).length ≤ 40 := by
  rw [allL, if_pos h]
  split <;> decide

set_option maxHeartbeats 2000000 in
theorem implJoinAll_gen (k : Int) (xss : List (List Nd)) (a : Option Addr) (len cap : Nat) (w : World) (hl : len ≤ 1048576) (hs : len ≤ 40 → szTo xss len ≤ 1048576) (hli : ∀ j, j < len → (nthL xss j).length ≤ 1048576) (h : AtNN w a len xss) :
    Calls Try.prog 38 #[.int .i64 k, .slice a len cap] w fun e w' => ∃ v, e = .returned (.tuple #[v, .int .i64 (allC k xss)]) ∧ OwnN w' w.heap.size v (allR k xss) ∧ Below w.heap.size w w' := by
  have hlx := h.1
  have H := Lib.hid h
  have S := Lib.hid hs
  clear h hs
  have LI := Lib.hid hli
  clear hli
  have LX := Lib.hid hlx
  clear hlx
  go_enter Try.func38, Try.ntmps38
  go_wp2
  go_loopw [11] (fun i wr => ∃ (j : Nat), j ≤ len ∧ i = .int .i64 j ∧ Hid (okAll xss j = true) ∧ Below w.heap.size w wr) (fun i _ => len - (intOf i).toNat)
  case atStart => exact ⟨0, Nat.zero_le _, rfl, (show _ = _ from rfl), Below.refl _ _⟩
  case round =>
    obtain ⟨j, hj, rfl, hok, hbel⟩ := hrel
    have B := Lib.hid hbel
    clear hbel
    by_cases hlt : j < len
    · obtain ⟨b, off, rfl, hb, hc⟩ := H.out.2.resolve_left (by omega)
      obtain ⟨a1, cap1, hc0, hat1⟩ := hc j hlt
      have hc1 : wr.cell? ⟨b, off + j, none⟩ = some (.slice a1 (nthL xss j).length cap1) := (B.out.cell (p := ⟨b, off + j, none⟩) hb).trans hc0
      have hn3 := LI.out j hlt
      obtain ⟨n, hn⟩ : ∃ n, n = (nthL xss j).length := ⟨_, rfl⟩
      rw [← hn] at hc1 hat1 hn3
      have N := Lib.hid hn
      have A1 := Lib.hid (hat1.keep B.out (Nat.le_refl _))
      clear hc hc0 hat1 hn
      cases hbb : isB (nthL xss j) n
      · have BB := Lib.hid hbb
        clear hbb
        obtain ⟨e1, e2⟩ := allC_bad (k := k) (okAll_bad (n := xss.length) (by have := LX.out; omega) (show isB (nthL xss j) (nthL xss j).length = false by rw [← N.out]; exact BB.out))
        have E1 := Lib.hid e1
        have E2 := Lib.hid e2
        clear e1 e2
        go_wp2_with fail
        refine (implIsF_any _ _ _ _ _ hn3 A1.out).mono ?_
        rw [BB.out]
        rintro e w1 ⟨rfl, hb1⟩
        have B1 := Lib.hid (B.out.trans (hb1.mono B.out.size))
        clear hb1
        go_wp2
        go_ret2
        exact ⟨.slice none 0 0, (by rw [E2.out] <;> rfl), by rw [E1.out]; exact ownN_nil _ _, B1.out⟩
      · have BB := Lib.hid hbb
        clear hbb
        have OK := Lib.hid (okAll_succ hok.out (show isB (nthL xss j) (nthL xss j).length = true by rw [← N.out]; exact BB.out))
        go_wp2_with fail
        refine (implIsF_any _ _ _ _ _ hn3 A1.out).mono ?_
        rw [BB.out]
        rintro e w1 ⟨rfl, hb1⟩
        have B1 := Lib.hid (B.out.trans (hb1.mono B.out.size))
        clear hb1
        go_wp2
        go_roundw
        case rel => exact ⟨j + 1, hlt, by go_num, OK, B1.out⟩
        case measure => simp [intOf]; omega
    · obtain rfl : j = len := by omega
      have hok2 : okAll xss xss.length = true := by rw [← LX.out]; exact hok.out
      rcases kind_cases k with ⟨hk, hk2⟩ | ⟨hk, h2, h3⟩
      · obtain ⟨e1, e2⟩ := allC_good hok2 hk
        by_cases h40 : (40 : Int) < (j : Int)
        · obtain ⟨f1, f2⟩ := lim_no (show 40 < (allL k xss).length by
            have g1 := allL_len k xss (by rw [← LX.out]; omega)
            have g2 := szTo_ge (fun i hi => (ok_pos hok.out i hi).1) j (Nat.le_refl _)
            rw [← LX.out] at g1
            omega)
          rw [f1] at e1
          rw [f2] at e2
          have E1 := Lib.hid e1
          have E2 := Lib.hid e2
          clear e1 e2 f1 f2 hok2 hk hok
          rcases hk2 with rfl | rfl
          all_goals
            go_wp2
            go_ret2
            exact ⟨.slice none 0 0, (by rw [E2.out] <;> rfl), by rw [E1.out]; exact ownN_nil _ _, B.out⟩
        · by_cases h0 : j = 0
          · subst h0
            have hz : xss.length = 0 := LX.out.symm
            obtain ⟨f1, f2⟩ := lim_ok (show (allL k xss).length ≤ 40 from allL_empty hz)
            rw [f1, allL, if_pos hz] at e1
            rw [f2] at e2
            have E2 := Lib.hid e2
            clear e2 f1 f2 hok2 hk hok hz
            rcases hk2 with rfl | rfl
            · have E1 := Lib.hid e1
              clear e1
              go_wp2_with fail
              refine (falseNodes_any _).mono ?_
              rintro e w1 ⟨v1, rfl, ho1, hb1⟩
              obtain ⟨a1, c1, rfl, at1, -, -, -⟩ := ho1.at
              have B1 := Lib.hid (B.out.trans (hb1.mono B.out.size))
              have A1 := Lib.hid at1
              clear hb1 ho1 at1
              go_wp2_with fail
              refine (notNodes_any [(1, 0)] _ _ _ _ (by simp) (by simp) A1.out).mono ?_
              rintro e w2 ⟨v2, rfl, ho2, hb2⟩
              have B2 := Lib.hid (B1.out.trans (hb2.mono B1.out.size))
              have O2 := Lib.hid (ho2.mono B1.out.size)
              clear hb2 ho2
              go_wp2
              go_ret2
              exact ⟨v2, (by rw [E2.out] <;> rfl), by rw [E1.out]; exact O2.out, B2.out⟩
            · have E1 := Lib.hid e1
              clear e1
              go_wp2_with fail
              refine (falseNodes_any _).mono ?_
              rintro e w1 ⟨v1, rfl, ho1, hb1⟩
              have B1 := Lib.hid (B.out.trans (hb1.mono B.out.size))
              have O1 := Lib.hid (ho1.mono B.out.size)
              clear hb1 ho1
              go_wp2
              go_ret2
              exact ⟨v1, (by rw [E2.out] <;> rfl), by rw [E1.out]; exact O1.out, B1.out⟩
          · rw [allL, if_neg (by rw [← LX.out]; exact h0), ← LX.out] at e1 e2
            have E1 := Lib.hid e1
            have E2 := Lib.hid e2
            have PP := Lib.hid (fun i hi => (ok_pos hok.out i hi).1)
            have hs2 : szTo xss j ≤ 1048576 := S.out (by omega)
            have hz1 := szTo_ge PP.out j (Nat.le_refl _)
            have hz2 := catTo_len xss j
            have hz3 := allTo_len k xss j
            have SZ := Lib.hid hs2
            have hsub : ((j - 1 : Nat) : Int) = (j : Int) - 1 := by omega
            have hwr : IntKind.i64.wrap ((j : Int) - 1) = (j : Int) - 1 := by rw [IntKind.wrap_i64]; omega
            have hj0 : (j : Int) ≠ 0 := by omega
            have R := fun (v : World) (h : AtN v (some ⟨wr.heap.size, 0, none⟩) 1 [(k, 0)]) => repeat_any k 0 (j - 1) (some ⟨wr.heap.size, 0, none⟩) 1 v (by omega) h
            rw [hsub] at R
            have hlit := litN wr wr.heap.size k 0 (Nat.le_refl _)
            have hatl : AtN (wr.alloc (.cells #[.int .i64 k, .int .i64 0] 51)) (some ⟨wr.heap.size, 0, none⟩) 1 [(k, 0)] := by
              obtain ⟨aa, cc, hv, at1, -⟩ := hlit.at
              simp only [List.length_cons, List.length_nil, Value.slice.injEq] at hv
              rw [← hv.1] at at1
              exact at1
            have AL := Lib.hid hatl
            have B0 := Lib.hid (B.out.alloc B.out.size (.cells #[.int .i64 k, .int .i64 0] 51))
            have hcp : 0 < (catTo xss j).length := by omega
            have hcb : (List.replicate (j - 1) ((k, 0) : Nd)).length + (catTo xss j).length ≤ 8388608 := by simp; omega
            have hab : (allTo k xss j).length ≤ 8388608 := by omega
            have CP := Lib.hid hcp
            have CB := Lib.hid hcb
            have AB := Lib.hid hab
            clear e1 e2 hok2 hk hok hlit hatl hs2 hz1 hz2 hz3 hcp hcb hab
            rcases hk2 with rfl | rfl
            all_goals
              go_wp2_with fail
              refine (R _ AL.out).mono ?_
              rintro e w1 ⟨v1, rfl, ho1, hb1⟩
              have B1 := Lib.hid (B0.out.trans (hb1.mono B0.out.size))
              have O1 := Lib.hid ho1.inn
              clear hb1 ho1
              go_wp2_with fail
              refine (concat_any xss a j cap _ (by omega) (by have := SZ.out; omega) PP.out (by omega) (H.out.keep B1.out (Nat.le_refl _))).mono ?_
              rintro e w2 ⟨v2, rfl, ho2, hb2⟩
              have O2 := Lib.hid (((O1.out.below hb2 O1.out.2.1).1).mono B0.out.size)
              have B2 := Lib.hid (B1.out.trans (hb2.mono B1.out.size))
              obtain ⟨a3, c3, rfl, at3, -⟩ := ho2.at
              have A3 := Lib.hid at3
              clear hb2 ho2 at3 O1
              go_wp2_with (at_builtin; refine list_appN rfl _ _ rfl w.heap.size _ _ rfl O2.out (catTo xss j) a3 _ c3 rfl A3.out CP.out CB.out B2.out.size ?_)
              intro v4 w4 ho4 hg4
              have B4 := Lib.hid (below_appN B2.out (Below.refl _ _) B2.out.size O2.out hg4)
              have O4 := Lib.hid (show OwnN w4 w.heap.size v4 (allTo _ xss j) from ho4)
              clear ho4 hg4
              go_wp2_with fail
              refine (withinLimit_any (allTo _ xss j) _ _ _ AB.out O4.out).mono ?_
              rintro e w5 ⟨v5, rfl, ho5, rfl⟩
              have O5 := Lib.hid ho5
              clear ho5
              go_wp2
              go_ret2
              exact ⟨v5, (by rw [E2.out] <;> rfl), by rw [E1.out]; exact O5.out, B4.out⟩
      · obtain ⟨e1, e2⟩ := allC_out hok2 hk
        have E1 := Lib.hid e1
        have E2 := Lib.hid e2
        clear e1 e2 hok2 hk
        go_wp2
        go_ret2
        exact ⟨.slice none 0 0, (by rw [E2.out] <;> rfl), by rw [E1.out]; exact ownN_nil _ _, B.out⟩
theorem implJoinAll_any (k : Int) (xss : List (List Nd)) (a : Option Addr) (len cap : Nat) (w : World) (hl : len ≤ 1048576) (hs : szTo xss len ≤ 1048576) (h : AtNN w a len xss) :
    Calls Try.prog 38 #[.int .i64 k, .slice a len cap] w fun e w' => ∃ v, e = .returned (.tuple #[v, .int .i64 (allC k xss)]) ∧ OwnN w' w.heap.size v (allR k xss) ∧ Below w.heap.size w w' :=
  implJoinAll_gen k xss a len cap w hl (fun _ => hs) (fun j hj => by
    have a1 := szTo_mono xss (show j + 1 ≤ len by omega)
    rw [szTo] at a1
    omega) h

end Go.Proofs.Ytfkahkhmnchnjac
