/- Proved: for every input the Go law laws.FnExactIsGlobalConsequence returns true, and each argument reads behind the call as it read before (the given statement Rows.FnExactIsGlobalConsequenceSaid). Conditions: none beside those of the statement. -/
import Derived.Test.YtnoaaklkbfbdbaaRows
import Derived.Test.YtnoaaklkbfbdbaaFacts
import Derived.Test.YtnoaaklkbfbdbaaLawGc
import Derived.WalkKit
import Derived.ProofKit
import Derived.OpenShut
import Derived.ShutString
import Derived.ChangeOld
import Derived.Below
import Derived.Lib.SmallJoins
namespace Go.Proofs.Ytnoaaklkbfbdbaa.fnExactIsGlobalConsequence
open Go.ChangeShapes Go.WideShapes Go.ChangeAt Go.RowKit
open Go.ChangeMaps (open_string shut_string)
set_option linter.unusedVariables false

theorem walk (n0 : Int) (a0 : Option Addr) (len0 cap0 : Nat) (z0 : List Int) (a1 : Option Addr) (len1 cap1 : Nat) (z1 : List (List Nd)) (a2 : Option Addr) (len2 cap2 : Nat) (z2 : List Nd) (w : World) (w0 : IsArr w a0 len0 z0) (w1 : IsNodesS w a1 len1 z1) (w2 : IsNodes w a2 len2 z2) :
    Calls Try.prog 5 #[.agg #[.int .i64 n0, .slice a0 len0 cap0], .slice a1 len1 cap1, .slice a2 len2 cap2] w fun e w' => e = .returned (.bool true) ∧ Below w.heap.size w w' :=
  lawIsGlobalConsequence n0 z0 z1 z2 a0 len0 cap0 a1 len1 cap1 a2 len2 cap2 w w0 w1 w2

set_option maxRecDepth 100000 in
theorem lifted (os : Os) (started : os.Started) (H : Type) (enc : TypeId × Value → H) :
    ReturnsInHanded {} Try.checked os 5 .any (Rows.fnExactIsGlobalConsequenceSpec.pre6 enc Try.prog Try.f5 Rows.fnExactIsGlobalConsequenceRow.domain false) (Rows.fnExactIsGlobalConsequenceSpec.post enc Try.prog Try.f5 false true false false) := by
  refine returnsInHanded_of_change (C := Try.checked) own started (by kernel_rfl) Try.func5
    (ChangeSpec.witness6 (enc := enc) (C := Try.checked) false ⟨#[], #[.agg #[.int .i64 0, .slice none 0 0], .slice none 0 0, .slice none 0 0], []⟩ 8 (by kernel_rfl) (by kernel_rfl) (by kernel_rfl) (by kernel_rfl)) ?_
  intro W base args ds gs before hval0 hW hcnd _
  have hval : ∀ (j : Nat) t v, Try.f5.params[j]? = some t → args[j]? = some v → Value.okWide Try.prog W .any base t v := hval0
  have hW' := hW
  obtain ⟨p, q, hA0, hV, rfl, hfz, hnd⟩ := hW
  have hA : DataW.TrodAll enc Try.prog W 0 (fun _ => true) true Try.f5.params.toList args.toList ds p := hA0
  rw [Try.params5] at hA hval
  obtain ⟨v0, vs0, d0, ds0, p0, q0, hargs, rfl, rfl, h0, r0⟩ := trodAll_cons hA
  obtain ⟨v1, vs1, d1, ds1, p1, q1, rfl, rfl, rfl, h1, r1⟩ := trodAll_cons r0
  obtain ⟨v2, vs2, d2, ds2, p2, q2, rfl, rfl, rfl, h2, r2⟩ := trodAll_cons r1
  obtain ⟨rfl, rfl, rfl⟩ := trodAll_nil r2
  obtain rfl : args = #[v0, v1, v2] := by cases args; simp_all
  obtain ⟨rfl, rfl⟩ := trodVars_none hV
  have k0 := h0
  have lt0 : ∀ x ∈ p0, x.block < W.heap.size := by obtain ⟨m, hm⟩ := k0; exact DataW.trod_lt m _ _ _ hm
  obtain ⟨c0, e0, y0, u0, m0, rfl, rfl, rfl, hy0, hu0⟩ := Joins.open_agg2 Try.underlying24 (by kernel_rfl) (by kernel_rfl) (hval 0 24 v0 rfl rfl) h0
  obtain ⟨n0, hn0, rfl, wn0⟩ := DataW.trod_int Try.underlying2 hy0
  simp at hn0
  subst hn0
  obtain ⟨a0, len0, cap0, z0, he0, w0⟩ : ∃ a len cap zs, e0 = .slice a len cap ∧ IsArr W a len zs := by
    rcases open_ints Try.underlying22 Try.underlying2 (by kernel_rfl) hu0 with ⟨hcs, _⟩ | ⟨x, l, c, zs, hcs, _, hl, hm, hz, _, hcell, hwz⟩
    · simp at hcs
      exact ⟨_, _, _, [], hcs, At.of_row (cap := 0) (.inl ⟨rfl, rfl, rfl, rfl⟩), Nat.zero_le _⟩
    · simp at hcs
      exact ⟨_, _, _, _, hcs, At.of_row (cap := c) (.inr ⟨x, rfl, hl, hm, by simpa using hz, hcell, hwz⟩), Nat.le_trans hl hm⟩
  subst he0
  obtain ⟨a1, len1, cap1, rfl⟩ := okWide_slice Try.underlying37 (hval 1 37 v1 rfl rfl)
  have k1 := h1
  have lt1 : ∀ x ∈ p1, x.block < W.heap.size := by obtain ⟨m, hm⟩ := k1; exact DataW.trod_lt m _ _ _ hm
  obtain ⟨z1, w1⟩ : ∃ zs, IsNodesS W a1 len1 zs := by
    obtain ⟨fuel, hf⟩ := h1
    obtain ⟨a', len', cap', xs, hcs, hn⟩ := open_nodess Try.underlying37 Try.underlying25 Try.underlying71 Try.underlying2 Try.underlying2 (by kernel_rfl) (by kernel_rfl) (by kernel_rfl) hf
    simp [Value.cells] at hcs
    obtain ⟨rfl, rfl, rfl⟩ := hcs
    exact ⟨xs, hn⟩
  obtain ⟨a2, len2, cap2, rfl⟩ := okWide_slice Try.underlying25 (hval 2 25 v2 rfl rfl)
  have k2 := h2
  have lt2 : ∀ x ∈ p2, x.block < W.heap.size := by obtain ⟨m, hm⟩ := k2; exact DataW.trod_lt m _ _ _ hm
  obtain ⟨z2, w2⟩ : ∃ zs, IsNodes W a2 len2 zs := by
    obtain ⟨fuel, hf⟩ := h2
    obtain ⟨a', len', cap', xs, hcs, hn⟩ := open_nodes Try.underlying25 Try.underlying71 Try.underlying2 Try.underlying2 (by kernel_rfl) (by kernel_rfl) hf
    simp [Value.cells] at hcs
    obtain ⟨rfl, rfl, rfl⟩ := hcs
    exact ⟨xs, hn⟩
  clear hA0 hval0
  refine (walk n0 a0 len0 cap0 z0 a1 len1 cap1 z1 a2 len2 cap2 z2 W w0 w1 w2).mono fun e W' ⟨he, bel⟩ => ?_
  subst he
  exact ⟨_, rfl, _, _, _, [], _, [], hW', trodAll_mk1 (shut_bool Try.underlying4 _), (trodAll_cons_mk (Below.trod laidOut (by kernel_rfl) (of_decide_eq_true (by kernel_rfl)) k0 bel lt0) (trodAll_cons_mk (Below.trod laidOut (by kernel_rfl) (of_decide_eq_true (by kernel_rfl)) k1 bel lt1) (trodAll_cons_mk (Below.trod laidOut (by kernel_rfl) (of_decide_eq_true (by kernel_rfl)) k2 bel lt2) trodAll_mk0))), rfl, bel.frame _, fun h => by cases h⟩

theorem c0 : (Rows.fnExactIsGlobalConsequenceRow.wf (OpenSpec.ofChange Rows.fnExactIsGlobalConsequenceSpec)) = true := by kernel_rfl
theorem c3 : (Try.f5.params.all (Try.prog.readableRec ·)) = true := by kernel_rfl
theorem c4 : (namedTie Try.prog Rows.fnExactIsGlobalConsequenceRow.named Rows.fnExactIsGlobalConsequenceSpec.vars) = true := by kernel_rfl
theorem c5 : (Rows.fnExactIsGlobalConsequenceRow.stops == []) = true := by kernel_rfl
theorem c7 : (Rows.fnExactIsGlobalConsequenceRow.knobs == []) = true := by kernel_rfl
theorem c9 : (Rows.fnExactIsGlobalConsequenceRow.inPlace == Try.prog.inPlace 5) = true := by kernel_rfl
theorem c10 : (Rows.fnExactIsGlobalConsequenceRow.unfollowed == Try.prog.unfollowed 5) = true := by kernel_rfl
theorem c11 : (Rows.fnExactIsGlobalConsequenceRow.recurses == Try.prog.recurses 5) = true := by kernel_rfl
theorem c12 : (Rows.fnExactIsGlobalConsequenceRow.named == Try.prog.varsNamed 5) = true := by kernel_rfl
theorem c13 : (Rows.fnExactIsGlobalConsequenceRow.maps == (Try.f5.params.toList ++ Rows.fnExactIsGlobalConsequenceSpec.plain.varTypes Try.prog).any (Try.prog.mapsRec ·)) = true := by kernel_rfl
theorem c14 : (Rows.fnExactIsGlobalConsequenceRow.ifaces == (Try.f5.params.toList ++ Rows.fnExactIsGlobalConsequenceSpec.plain.varTypes Try.prog).any (Try.prog.ifacesRec ·)) = true := by kernel_rfl
theorem c15 : (Rows.fnExactIsGlobalConsequenceRow.mapsOut == Try.prog.mapsAmong Try.f5.resultTypes.toList) = true := by kernel_rfl
theorem c16 : (Rows.fnExactIsGlobalConsequenceRow.loops == (Try.f5.params.toList ++ Rows.fnExactIsGlobalConsequenceSpec.plain.varTypes Try.prog).any (Try.prog.loopsFrom ·)) = true := by kernel_rfl
theorem c17 : (Rows.fnExactIsGlobalConsequenceRow.wideKeys == (Try.f5.params.toList ++ Rows.fnExactIsGlobalConsequenceSpec.plain.varTypes Try.prog ++ Try.f5.resultTypes.toList).any (Try.prog.wideKeysFrom ·)) = true := by kernel_rfl
theorem c18 : (Rows.fnExactIsGlobalConsequenceSpec.vars.all (Try.prog.varReadable ·)) = true := by kernel_rfl
theorem c19 : (Try.f5.resultTypes.all (fun t => Try.prog.readableRec t && decide (t < Try.prog.types.size))) = true := by kernel_rfl
theorem c20 : (Rows.fnExactIsGlobalConsequenceRow.ifacesOut == Try.f5.resultTypes.toList.any (Try.prog.ifacesRec ·)) = true := by kernel_rfl
theorem c21 : (Rows.fnExactIsGlobalConsequenceRow.loopsOut == Try.f5.resultTypes.toList.any (Try.prog.loopsFrom ·)) = true := by kernel_rfl
theorem c22 : (Rows.fnExactIsGlobalConsequenceRow.plainKeys == Try.prog.plainKeys) = true := by kernel_rfl
theorem c23 : (Rows.fnExactIsGlobalConsequenceRow.shortTexts.isNone) = true := by kernel_rfl
theorem c26 : (Rows.fnExactIsGlobalConsequenceRow.lifted == Try.prog.liftsFinal) = true := by kernel_rfl
theorem c27 : (Try.prog.make == some Rows.fnExactIsGlobalConsequenceRow.make) = true := by kernel_rfl
theorem c28 : (Rows.fnExactIsGlobalConsequenceRow.kinds == (if Rows.fnExactIsGlobalConsequenceRow.domain.isEmpty then [] else Try.f5.params.toList.map fun t => match Try.prog.underlying t with | some (.int k) => some k | _ => none)) = true := by kernel_rfl
theorem c29 : (Rows.fnExactIsGlobalConsequenceRow.pinned == Rows.fnExactIsGlobalConsequenceRow.pinnedBy) = true := by kernel_rfl
theorem c30 : (Rows.fnExactIsGlobalConsequenceRow.veiled == (Try.f5.params.toList ++ Rows.fnExactIsGlobalConsequenceSpec.plain.varTypes Try.prog ++ Try.f5.resultTypes.toList).any (Try.prog.veiledRec ·)) = true := by kernel_rfl
theorem c31 : (Rows.fnExactIsGlobalConsequenceRow.veiledFits Try.prog Try.f5.params.toList (Try.f5.params.toList ++ Rows.fnExactIsGlobalConsequenceSpec.plain.varTypes Try.prog ++ Try.f5.resultTypes.toList)) = true := by kernel_rfl

set_option maxRecDepth 100000 in
theorem closed : joinedFacts Try.prog 5 Try.f5 Rows.fnExactIsGlobalConsequenceSpec Rows.fnExactIsGlobalConsequenceRow = true := by
  unfold joinedFacts
  exact and_mk (and_mk (and_mk (and_mk (and_mk (and_mk (and_mk (and_mk (and_mk (and_mk (and_mk (and_mk (and_mk (and_mk (and_mk (and_mk (and_mk (and_mk (and_mk (and_mk (and_mk (and_mk (and_mk (and_mk (and_mk (and_mk (and_mk (and_mk (and_mk (and_mk (and_mk (c0) jLaid) jMaps) c3) c4) c5) jStops) c7) jKnobs) c9) c10) c11) c12) c13) c14) c15) c16) c17) c18) c19) c20) c21) c22) c23) jHeard) jEnter) c26) c27) c28) c29) c30) c31
theorem named : Try.prog.funcNamed Rows.fnExactIsGlobalConsequenceRow.func = some 5 := by kernel_rfl
theorem inst : Try.f5.isInstance Try.prog Rows.fnExactIsGlobalConsequenceRow.origin Rows.fnExactIsGlobalConsequenceRow.targs := of_decide_eq_true (by kernel_rfl)
theorem wrap : Try.f5.isWrapper Try.prog Rows.fnExactIsGlobalConsequenceRow.wrapper Rows.fnExactIsGlobalConsequenceRow.mainSum := by unfold Func.isWrapper; first | (rw [if_pos (by decide +kernel)]; kernel_rfl) | (rw [if_neg (by decide +kernel)]; exact ⟨rfl, rfl⟩)
theorem proved : Rows.FnExactIsGlobalConsequenceSaid :=
  OpenClaim.holds_of_wide 5 Try.f5 rfl rfl rfl rfl rfl rfl rfl ⟨rfl, rfl, rfl, rfl, rfl⟩ rfl rfl rfl rfl rfl named Try.func5 closed
    inst wrap (fun os started H enc _ => lifted os started H enc)
#print axioms proved
end Go.Proofs.Ytnoaaklkbfbdbaa.fnExactIsGlobalConsequence
