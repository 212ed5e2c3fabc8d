/- Contracts of ComposeSubstitutions of the model and of the program, at every argument. Conditions: those in the theorems. -/
import Derived.Test.YtbhgedabcclimaaSubV
import Derived.Test.YtbhgedabcclimaaInL
namespace Go.Proofs.Ytbhgedabcclimaa
open Go.RowKit

/-- The images of the first k lists. -/
def thTo (s : Int → List Nd) (xss : List (List Nd)) (k : Nat) : List (List Nd) := (List.range k).map fun j => subTo s (nthL xss j) (nthL xss j).length
theorem thTo_len (s : Int → List Nd) (xss : List (List Nd)) (k : Nat) : (thTo s xss k).length = k := by simp [thTo]
theorem thTo_succ (s : Int → List Nd) (xss : List (List Nd)) (k : Nat) : thTo s xss (k + 1) = thTo s xss k ++ [subTo s (nthL xss k) (nthL xss k).length] := by simp [thTo, List.range_succ]
theorem thTo_at {s : Int → List Nd} {xss : List (List Nd)} {k j : Nat} (h : j < k) : nthL (thTo s xss k) j = subTo s (nthL xss j) (nthL xss j).length := by
  show (thTo s xss k).getD j [] = _
  unfold thTo
  simp [List.getD_eq_getElem?_getD, h]
/-- Formulas, each of at most 40 nodes. -/
def fms (xss : List (List Nd)) : Prop := ∀ j, j < xss.length → isB (nthL xss j) (nthL xss j).length = true
theorem isS_fms {xss : List (List Nd)} (h : isS xss = true) : fms xss := by
  simp only [isS, Bool.and_eq_true, decide_eq_true_eq] at h
  exact fun j hj => okAll_at h.2 hj

set_option maxHeartbeats 2000000 in
theorem l03Then_any (xss yss : List (List Nd)) (a a' : Option Addr) (len cap cap' : Nat) (w : World) (hl : len ≤ 4096) (hf : fms xss) (h : AtNN w a len xss) (h' : Img w a' yss) :
    Calls Try.prog 69 #[.slice a len cap, .slice a' 6 cap'] w fun e w' => ∃ v, e = .returned v ∧ OwnL w' w.heap.size v (thTo (sgI yss) xss len) ∧ Below w.heap.size w w' := by
  have H := Lib.hid h
  have H' := Lib.hid h'
  have F := Lib.hid hf
  have X := Lib.hid h.1
  have L0 := Lib.hid (litL w w.heap.size (Nat.le_refl _))
  have B0 := Lib.hid ((Below.refl w.heap.size w).alloc (Nat.le_refl _) (.cells #[] 26))
  clear h h' hf
  go_enter Try.func69, Try.ntmps69
  go_wp2
  go_loopw [5, 6] (fun v i wr => ∃ j : Nat, j ≤ len ∧ i = .int .i64 j ∧ OwnL wr w.heap.size v (thTo (sgI yss) xss j) ∧ Below w.heap.size w wr) (fun _ i _ => len - (intOf i).toNat)
  case atStart => exact ⟨0, Nat.zero_le _, rfl, L0.out, B0.out⟩
  case round =>
    obtain ⟨k, hk, rfl, hown, hbel⟩ := hrel
    have HO := Lib.hid hown
    have B := Lib.hid hbel
    have LN := Lib.hid (thTo_len (sgI yss) xss k)
    clear hown hbel
    by_cases hlt : k < len
    · have N := Lib.hid (thTo_succ (sgI yss) xss k)
      obtain ⟨b, off, rfl, hb, hc⟩ := (H.out.keep B.out (Nat.le_refl _)).2.resolve_left (by omega)
      obtain ⟨a1, c1, hcell, hat1⟩ := hc k hlt
      have hfk := F.out k (by rw [← X.out]; exact hlt)
      have A1 := Lib.hid hat1
      have FK := Lib.hid (is_treeTo' hfk)
      obtain ⟨m, hm⟩ : ∃ m, m = (nthL xss k).length := ⟨_, rfl⟩
      have hm40 : m ≤ 40 := by rw [hm]; exact (is_pos' hfk).2
      rw [← hm] at hcell A1 FK N
      clear hc hat1 hfk hm
      go_wp2_with fail
      refine (l03Sub_any (nthL xss k) yss a1 a' m c1 cap' _ hm40 FK.out A1.out (H'.out.keep B.out (Nat.le_refl _))).mono ?_
      rintro e w1 ⟨v1, rfl, ho1, hb1⟩
      obtain ⟨a2, c2, rfl, -⟩ := ho1.at
      have O1 := Lib.hid ho1
      have B1 := Lib.hid hb1
      clear ho1 hb1
      go_wp2_with (at_builtin; refine list_appLL rfl _ _ rfl w.heap.size _ _ rfl HO.out B1.out _ _ O1.out ((Below.refl _ _).alloc (Nat.le_refl _) _) ⟨w1.heap.size, 0, none⟩ 1 rfl (World.cell?_alloc_at _ _ _ _ rfl) (by rw [LN.out]; omega) B.out.size ?_; intro v2 w2 ho2 hb2)
      have O2 := Lib.hid ho2
      have B2 := Lib.hid (B.out.trans hb2)
      clear ho2 hb2
      go_roundw
      case rel => exact ⟨k + 1, hlt, by go_num, by rw [N.out]; exact O2.out, B2.out⟩
      case measure => simp [intOf]; omega
    · obtain rfl : k = len := by omega
      go_wp2
      go_ret
      exact ⟨_, rfl, HO.out, B.out⟩

/-- Are all lists short. -/
def limB (xss : List (List Nd)) (k : Nat) : Bool := (List.range k).all fun j => decide ((nthL xss j).length ≤ 40)
theorem limB_succ {xss : List (List Nd)} {k : Nat} (h : limB xss k = true) (h2 : (nthL xss k).length ≤ 40) : limB xss (k + 1) = true := by
  rw [limB, List.range_succ, List.all_append, Bool.and_eq_true]
  exact ⟨h, by simp [h2]⟩
theorem limB_bad {xss : List (List Nd)} {n k : Nat} (hk : k < n) (h2 : 40 < (nthL xss k).length) : limB xss n = false := by
  cases e : limB xss n with
  | false => rfl
  | true =>
    have := List.all_eq_true.1 e k (List.mem_range.2 hk)
    simp at this
    omega
theorem limB_at {xss : List (List Nd)} {n k : Nat} (h : limB xss n = true) (hk : k < n) : (nthL xss k).length ≤ 40 := by
  have := List.all_eq_true.1 h k (List.mem_range.2 hk)
  simpa using this
def alR (xss : List (List Nd)) : List (List Nd) := if limB xss xss.length then xss else []
def alC (xss : List (List Nd)) : Int := if limB xss xss.length then 0 else 3
theorem al_no {xss : List (List Nd)} (h : limB xss xss.length = false) : alR xss = [] ∧ alC xss = 3 := by simp [alR, alC, h]
theorem al_ok {xss : List (List Nd)} (h : limB xss xss.length = true) : alR xss = xss ∧ alC xss = 0 := by simp [alR, alC, h]

set_option maxHeartbeats 1000000 in
theorem l03All_any (xss : List (List Nd)) (v : Value) (B : Nat) (w : World) (hl : xss.length ≤ 4096) (hs : ∀ j, j < xss.length → (nthL xss j).length ≤ 1048576) (h : OwnL w B v xss) :
    Calls Try.prog 68 #[v] w fun e w' => ∃ v', e = .returned (.tuple #[v', .int .i64 (alC xss)]) ∧ OwnL w' B v' (alR xss) ∧ w = w' := by
  obtain ⟨a, cap, rfl, hat⟩ := h.at
  have H := Lib.hid hat
  have O := Lib.hid h
  have LI := Lib.hid hs
  clear h hat hs
  obtain ⟨len, hlen⟩ : ∃ len, len = xss.length := ⟨_, rfl⟩
  have X := Lib.hid hlen
  rw [← hlen] at H hl O LI ⊢
  clear hlen
  go_enter Try.func68, Try.ntmps68
  go_wp2
  go_loop [4] (fun i => ∃ (j : Nat), j ≤ len ∧ i = .int .i64 j ∧ Hid (limB xss j = true)) (fun i => len - (intOf i).toNat)
  case atStart => exact ⟨0, Nat.zero_le _, rfl, (show _ = _ from rfl)⟩
  case round =>
    obtain ⟨j, hj, rfl, hok⟩ := hrel
    by_cases hlt : j < len
    · obtain ⟨b, off, rfl, hb, hc⟩ := H.out.2.resolve_left (by omega)
      obtain ⟨a1, cap1, hc1, -⟩ := hc j hlt
      obtain ⟨n, hn⟩ : ∃ n, n = (nthL xss j).length := ⟨_, rfl⟩
      have hn2 := LI.out j hlt
      rw [← hn] at hc1 hn2
      have N := Lib.hid hn
      clear hc hn
      by_cases h40 : (40 : Int) < (n : Int)
      · obtain ⟨e1, e2⟩ := al_no (xss := xss) (limB_bad (k := j) (by rw [← X.out]; exact hlt) (by rw [← N.out]; omega))
        have E1 := Lib.hid e1
        have E2 := Lib.hid e2
        clear e1 e2
        go_wp2
        go_ret2
        exact ⟨.slice none 0 0, (by rw [E2.out] <;> rfl), by rw [E1.out]; exact ownL_nil _ _, rfl⟩
      · have OK := Lib.hid (limB_succ hok.out (show (nthL xss j).length ≤ 40 by rw [← N.out]; omega))
        go_wp2
        go_round
        case rel => exact ⟨j + 1, hlt, by go_num, OK⟩
        case measure => simp [intOf]; omega
    · obtain rfl : j = len := by omega
      obtain ⟨e1, e2⟩ := al_ok (xss := xss) (by rw [← X.out]; exact hok.out)
      have E1 := Lib.hid e1
      have E2 := Lib.hid e2
      clear e1 e2 hok
      go_wp2
      go_ret2
      exact ⟨_, (by rw [E2.out] <;> rfl), by rw [E1.out]; exact O.out, rfl⟩

set_option maxHeartbeats 1000000 in
theorem areLim_any (xss : List (List Nd)) (a : Option Addr) (len cap : Nat) (w : World) (hl : len ≤ 4096) (hs : ∀ j, j < len → (nthL xss j).length ≤ 1048576) (h : AtNN w a len xss) :
    Calls Try.prog 71 #[.slice a len cap] w fun e w' => e = .returned (.bool (limB xss len)) ∧ w = w' := by
  have H := Lib.hid h
  have LI := Lib.hid hs
  clear h hs
  go_enter Try.func71, Try.ntmps71
  go_wp2
  go_loop [7] (fun i => ∃ (j : Nat), j ≤ len ∧ i = .int .i64 j ∧ Hid (limB xss j = true)) (fun i => len - (intOf i).toNat)
  case atStart => exact ⟨0, Nat.zero_le _, rfl, (show _ = _ from rfl)⟩
  case round =>
    obtain ⟨j, hj, rfl, hok⟩ := hrel
    by_cases hlt : j < len
    · obtain ⟨b, off, rfl, hb, hc⟩ := H.out.2.resolve_left (by omega)
      obtain ⟨a1, cap1, hc1, -⟩ := hc j hlt
      obtain ⟨n, hn⟩ : ∃ n, n = (nthL xss j).length := ⟨_, rfl⟩
      have hn2 := LI.out j hlt
      rw [← hn] at hc1 hn2
      have N := Lib.hid hn
      clear hc hn
      by_cases h40 : (40 : Int) < (n : Int)
      · have E := Lib.hid (limB_bad (xss := xss) (k := j) hlt (by rw [← N.out]; omega))
        go_wp2
        go_ret
        exact ⟨ret_bool E.out.symm, rfl⟩
      · have OK := Lib.hid (limB_succ hok.out (show (nthL xss j).length ≤ 40 by rw [← N.out]; omega))
        go_wp2
        go_round
        case rel => exact ⟨j + 1, hlt, by go_num, OK⟩
        case measure => simp [intOf]; omega
    · obtain rfl : j = len := by omega
      have E := Lib.hid hok.out
      clear hok
      go_wp2
      go_ret
      exact ⟨ret_bool E.out.symm, rfl⟩

end Go.Proofs.Ytbhgedabcclimaa
