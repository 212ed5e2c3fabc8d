/- The checks of lists of clauses of the model and of the program. Conditions: those in the theorems. -/
import Derived.Test.YtfpnmeacnhcakaaCl
import Derived.Test.YtfpnmeacnhcakaaListI
import Derived.Maps.Own
namespace Go.Proofs.Ytfpnmeacnhcakaa
open Go.RowKit Go.Maps

/-- The first n lists are clauses. -/
def clsTo (xss : List (List Int)) (n : Nat) : Bool := (List.range n).all fun i => clTo (nthI xss i) (nthI xss i).length
theorem clsTo_at {xss : List (List Int)} {j i : Nat} (h : clsTo xss j = true) (hi : i < j) : clTo (nthI xss i) (nthI xss i).length = true := List.all_eq_true.1 h i (List.mem_range.2 hi)
theorem clsTo_succ {xss : List (List Int)} {j : Nat} (h : clsTo xss j = true) (hi : clTo (nthI xss j) (nthI xss j).length = true) : clsTo xss (j + 1) = true := by
  rw [clsTo, List.range_succ, List.all_append, Bool.and_eq_true]
  exact ⟨h, by simp [hi]⟩
theorem clsTo_bad {xss : List (List Int)} {n j : Nat} (h : j < n) (hi : clTo (nthI xss j) (nthI xss j).length = false) : clsTo xss n = false := by
  cases e : clsTo xss n with
  | false => rfl
  | true => rw [clsTo_at e h] at hi; cases hi
/-- The error of a list of clauses. -/
def clsC (xss : List (List Int)) (n : Nat) : Int := if clsTo xss n then 0 else 1
theorem clsC_no {xss : List (List Int)} {n : Nat} (h : clsTo xss n = false) : clsC xss n = 1 := by rw [clsC, h]; rfl
theorem clsC_yes {xss : List (List Int)} {n : Nat} (h : clsTo xss n = true) : clsC xss n = 0 := by rw [clsC, h]; rfl

set_option maxHeartbeats 1000000 in
theorem l04All_any (xss : List (List Int)) (a : Option Addr) (len cap : Nat) (w : World) (hl : len ≤ 1048576) (hi : ∀ j, j < len → (nthI xss j).length ≤ 1048576) (h : AtII w a len xss) :
    Calls Try.prog 14 #[.slice a len cap] w (SomeDrew w fun e => e = .returned (.bool (clsTo xss len))) := by
  have H := Lib.hid h
  have LI := Lib.hid hi
  clear h hi
  go_enter Try.func14, Try.ntmps14
  go_wp2
  go_loopw [3] (fun i wr => ∃ j q : Nat, j ≤ len ∧ i = .int .i64 j ∧ Hid (clsTo xss j = true) ∧ wr = w.drewN q) (fun i _ => len - (intOf i).toNat)
  case atStart => exact ⟨0, 0, Nat.zero_le _, rfl, (show _ = _ from rfl), rfl⟩
  case round =>
    obtain ⟨k, q, hk, rfl, hm, rfl⟩ := hrel
    by_cases hlt : k < len
    · obtain ⟨b, off, rfl, hb, hc⟩ := H.out.2.resolve_left (by omega)
      obtain ⟨a1, c1, hcell, hat1⟩ := hc k hlt
      have hn3 := LI.out k hlt
      have A1 := Lib.hid (show At (w.drewN q) a1 (nthI xss k).length (nthI xss k) from hat1)
      have hcell2 : (w.drewN q).cell? ⟨b, off + k, none⟩ = some (.slice a1 (nthI xss k).length c1) := hcell
      have YES := Lib.hid (fun h => clsTo_succ hm.out (hi := h))
      have NO := Lib.hid (fun h => clsTo_bad (xss := xss) hlt (hi := h))
      generalize hL : nthI xss k = zs at A1 hcell hcell2 hn3 YES NO
      generalize zs.length = n at A1 hcell hcell2 hn3 YES NO
      clear hc hat1 hL
      cases hcl : clTo zs n
      · have E := Lib.hid (NO.out hcl)
        have HC := Lib.hid hcl
        clear hcl
        go_wp2_with fail
        refine (specIsClause_any zs a1 n c1 _ hn3 A1.out).mono ?_
        rw [HC.out]
        rintro e w1 ⟨rfl, q2, rfl⟩
        go_wp2
        go_ret
        exact ⟨ret_bool E.out.symm, _, by first | rfl | rw [World.drewN_drewN]⟩
      · have E := Lib.hid (YES.out hcl)
        have HC := Lib.hid hcl
        clear hcl
        go_wp2_with fail
        refine (specIsClause_any zs a1 n c1 _ hn3 A1.out).mono ?_
        rw [HC.out]
        rintro e w1 ⟨rfl, q2, rfl⟩
        go_wp2
        go_roundw
        case rel => exact ⟨k + 1, _, hlt, by go_num, E, by first | rfl | rw [World.drewN_drewN]⟩
        case measure => simp [intOf]; omega
    · obtain rfl : k = len := by omega
      have E := Lib.hid hm.out
      clear hm
      go_wp2
      go_ret
      exact ⟨ret_bool E.out.symm, _, rfl⟩

theorem lawK : Keyed Try.prog 2 := int_keyed Try.underlying2

set_option maxHeartbeats 1000000 in
theorem clauseSetOf_any {H' : Type} (xss : List (List Int)) (a : Option Addr) (len cap : Nat) (w : World) (hl : len ≤ 1048576) (hi : ∀ j, j < len → (nthI xss j).length ≤ 1048576) (h : AtII w a len xss) :
    Calls Try.prog 19 #[.slice a len cap] w fun e w' => ∃ m, e = .returned (.tuple #[m, .int .i64 (clsC xss len)]) ∧ Below w.heap.size w w' := by
  have H := Lib.hid h
  have LI := Lib.hid hi
  have hmm := @run_makeMap Try.prog
  clear h hi
  go_enter Try.func19, Try.ntmps19
  go_wp2
  clear hmm
  go_loopw [10] (fun i wr => ∃ (k : Nat) (D : DataW H'), k ≤ len ∧ i = .int .i64 k ∧ Hid (clsTo xss k = true) ∧ Hid (wr.ownsMap Try.prog 2 (plainElem Try.prog 4) w.heap.size k D) ∧ Below w.heap.size w wr) (fun i _ => len - (intOf i).toNat)
  case atStart => exact ⟨0, _, Nat.zero_le _, rfl, (show _ = _ from rfl), World.ownsMap_made _ _ _ _, (Below.refl _ _).alloc (Nat.le_refl _) _⟩
  case round =>
    obtain ⟨k, D, hk, rfl, hm, hown, hbel⟩ := hrel
    have B := Lib.hid hbel
    have hbs := hbel.size
    clear hbel
    by_cases hlt : k < len
    · obtain ⟨b, off, rfl, hb, hc⟩ := H.out.2.resolve_left (by omega)
      obtain ⟨a1, c1, hcell, hat1⟩ := hc k hlt
      have hn3 := LI.out k hlt
      have A1 := Lib.hid (hat1.keep B.out (Nat.le_refl _))
      have hcell2 : wr.cell? ⟨b, off + k, none⟩ = some (.slice a1 (nthI xss k).length c1) := (B.out.cell (p := ⟨b, off + k, none⟩) hb).trans hcell
      have YES := Lib.hid (fun h => clsTo_succ hm.out (hi := h))
      have NO := Lib.hid (fun h => clsTo_bad (xss := xss) hlt (hi := h))
      generalize hL : nthI xss k = zs at A1 hcell hcell2 hn3 YES NO
      have HIN := Lib.hid (fun (h : clTo zs zs.length = true) => asTo_in (asTo_cl h))
      have ZL : zs.length = zs.length := rfl
      generalize zs.length = n at A1 hcell hcell2 hn3 YES NO HIN
      clear hc hat1 hL ZL hcell
      cases hcl : clTo zs n
      · have E := Lib.hid (clsC_no (NO.out hcl))
        have HC := Lib.hid hcl
        clear hcl
        go_wp2_with fail
        refine (implIsClause_any zs a1 n c1 _ hn3 A1.out).mono ?_
        rw [HC.out]
        rintro e w1 ⟨rfl, rfl⟩
        go_wp2
        go_ret2
        exact ⟨.map none, congrArg (fun z => Ending.returned (.tuple #[.map none, .int .i64 z])) E.out.symm, B.out⟩
      · have E := Lib.hid (YES.out hcl)
        have IN := Lib.hid (HIN.out hcl)
        have HC := Lib.hid hcl
        have ML := Lib.hid (mk_lt IN.out)
        clear hcl
        go_wp2_with fail
        refine (implIsClause_any zs a1 n c1 _ hn3 A1.out).mono ?_
        rw [HC.out]
        rintro e w1 ⟨rfl, rfl⟩
        go_wp2_with fail
        refine (literalMask_any zs a1 n c1 _ hn3 A1.out IN.out).mono ?_
        have hml := ML.out
        generalize mk zs n = mz at hml
        rintro e w1 ⟨rfl, rfl⟩
        go_wp2_with (at_mapUpdate; refine wpList_mapUpdate_own _ rfl _ _ _ 40 rfl 2 4 lawK Try.underlying40 _ w.heap.size k _ rfl hown.out (by unfold maxLen; omega) _ _ _ rfl rfl (keyOf_int_mk Try.underlying2 (WalkArith.wf_i64 (by omega))) _ [] (plainElem_bool Try.underlying4 _) ?_)
        intro w2 hown1 hgrow1
        have O2 := Lib.hid hown1
        have B2 := Lib.hid (B.out.grown hgrow1 hbs (fun j hj => by cases hj; exact Nat.le_refl _))
        clear hown1 hgrow1 hown
        go_wp2
        go_roundw
        case rel => exact ⟨k + 1, _, hlt, by go_num, E, O2, B2.out⟩
        case measure => simp [intOf]; omega
    · obtain rfl : k = len := by omega
      have E := Lib.hid (clsC_yes hm.out)
      clear hm hown
      go_wp2
      go_ret2
      exact ⟨.map (some w.heap.size), congrArg (fun z => Ending.returned (.tuple #[.map (some w.heap.size), .int .i64 z])) E.out.symm, B.out⟩

end Go.Proofs.Ytfpnmeacnhcakaa
