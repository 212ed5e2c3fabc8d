/- Proved: for every input the Go law laws.FnExactTranslateFormula returns true, and each argument reads behind the call as it read before (the given statement Rows.FnExactTranslateFormulaSaid). Conditions: none beside those of the statement. -/
import Derived.Test.YtfdoecnpnfojpaaRows
import Derived.Test.YtfdoecnpnfojpaaFacts
import Derived.Test.YtfdoecnpnfojpaaLawTrf
import Derived.WalkKit
import Derived.ProofKit
import Derived.OpenShut
import Derived.ShutString
import Derived.ChangeOld
import Derived.Below
namespace Go.Proofs.Ytfdoecnpnfojpaa.fnExactTranslateFormula
open Go.ChangeShapes Go.WideShapes Go.ChangeAt Go.RowKit
open Go.ChangeMaps (open_string shut_string)
set_option linter.unusedVariables false

theorem walk (a0 : Option Addr) (len0 cap0 : Nat) (z0 : List Nd) (a1 : Int) (w : World) (w0 : IsNodes w a0 len0 z0) (w1 : (Lit.int .i64 a1).wf = true) :
    Calls Try.prog 8 #[.slice a0 len0 cap0, .int .i64 a1] w fun e w' => e = .returned (.bool true) ∧ Below w.heap.size w w' :=
  lawTranslateFormula z0 a1 a0 len0 cap0 w w0

set_option maxRecDepth 100000 in
theorem lifted (os : Os) (started : os.Started) (H : Type) (enc : TypeId × Value → H) :
    ReturnsInHanded {} Try.checked os 8 .any (Rows.fnExactTranslateFormulaSpec.pre6 enc Try.prog Try.f8 Rows.fnExactTranslateFormulaRow.domain false) (Rows.fnExactTranslateFormulaSpec.post enc Try.prog Try.f8 false true false false) := by
  refine returnsInHanded_of_change (C := Try.checked) own started (by kernel_rfl) Try.func8
    (ChangeSpec.witness6 (enc := enc) (C := Try.checked) false ⟨#[], #[.slice none 0 0, .int .i64 0], []⟩ 8 (by kernel_rfl) (by kernel_rfl) (by kernel_rfl) (by kernel_rfl)) ?_
  intro W base args ds gs before hval0 hW hcnd _
  have hval : ∀ (j : Nat) t v, Try.f8.params[j]? = some t → args[j]? = some v → Value.okWide Try.prog W .any base t v := hval0
  have hW' := hW
  obtain ⟨p, q, hA0, hV, rfl, hfz, hnd⟩ := hW
  have hA : DataW.TrodAll enc Try.prog W 0 (fun _ => true) true Try.f8.params.toList args.toList ds p := hA0
  rw [Try.params8] at hA hval
  obtain ⟨v0, vs0, d0, ds0, p0, q0, hargs, rfl, rfl, h0, r0⟩ := trodAll_cons hA
  obtain ⟨v1, vs1, d1, ds1, p1, q1, rfl, rfl, rfl, h1, r1⟩ := trodAll_cons r0
  obtain ⟨rfl, rfl, rfl⟩ := trodAll_nil r1
  obtain rfl : args = #[v0, v1] := by cases args; simp_all
  obtain ⟨rfl, rfl⟩ := trodVars_none hV
  obtain ⟨a0, len0, cap0, rfl⟩ := okWide_slice Try.underlying22 (hval 0 22 v0 rfl rfl)
  have k0 := h0
  have lt0 : ∀ x ∈ p0, x.block < W.heap.size := by obtain ⟨m, hm⟩ := k0; exact DataW.trod_lt m _ _ _ hm
  obtain ⟨z0, w0⟩ : ∃ zs, IsNodes W a0 len0 zs := by
    obtain ⟨fuel, hf⟩ := h0
    obtain ⟨a', len', cap', xs, hcs, hn⟩ := open_nodes Try.underlying22 Try.underlying71 Try.underlying2 Try.underlying2 (by kernel_rfl) (by kernel_rfl) hf
    simp [Value.cells] at hcs
    obtain ⟨rfl, rfl, rfl⟩ := hcs
    exact ⟨xs, hn⟩
  obtain ⟨a1, rfl, rfl, rfl, w1⟩ := open_int Try.underlying2 (hval 1 2 v1 rfl rfl) h1
  clear hA0 hval0
  refine (walk a0 len0 cap0 z0 a1 W w0 w1).mono fun e W' ⟨he, bel⟩ => ?_
  subst he
  exact ⟨_, rfl, _, _, _, [], _, [], hW', trodAll_mk1 (shut_bool Try.underlying4 _), (trodAll_cons_mk (Below.trod laidOut (by kernel_rfl) (of_decide_eq_true (by kernel_rfl)) k0 bel lt0) (trodAll_cons_mk (shut_int Try.underlying2 w1) trodAll_mk0)), rfl, bel.frame _, fun h => by cases h⟩

theorem c0 : (Rows.fnExactTranslateFormulaRow.wf (OpenSpec.ofChange Rows.fnExactTranslateFormulaSpec)) = true := by kernel_rfl
theorem c3 : (Try.f8.params.all (Try.prog.readableRec ·)) = true := by kernel_rfl
theorem c4 : (namedTie Try.prog Rows.fnExactTranslateFormulaRow.named Rows.fnExactTranslateFormulaSpec.vars) = true := by kernel_rfl
theorem c5 : (Rows.fnExactTranslateFormulaRow.stops == []) = true := by kernel_rfl
theorem c7 : (Rows.fnExactTranslateFormulaRow.knobs == []) = true := by kernel_rfl
theorem c9 : (Rows.fnExactTranslateFormulaRow.inPlace == Try.prog.inPlace 8) = true := by kernel_rfl
theorem c10 : (Rows.fnExactTranslateFormulaRow.unfollowed == Try.prog.unfollowed 8) = true := by kernel_rfl
theorem c11 : (Rows.fnExactTranslateFormulaRow.recurses == Try.prog.recurses 8) = true := by kernel_rfl
theorem c12 : (Rows.fnExactTranslateFormulaRow.named == Try.prog.varsNamed 8) = true := by kernel_rfl
theorem c13 : (Rows.fnExactTranslateFormulaRow.maps == (Try.f8.params.toList ++ Rows.fnExactTranslateFormulaSpec.plain.varTypes Try.prog).any (Try.prog.mapsRec ·)) = true := by kernel_rfl
theorem c14 : (Rows.fnExactTranslateFormulaRow.ifaces == (Try.f8.params.toList ++ Rows.fnExactTranslateFormulaSpec.plain.varTypes Try.prog).any (Try.prog.ifacesRec ·)) = true := by kernel_rfl
theorem c15 : (Rows.fnExactTranslateFormulaRow.mapsOut == Try.prog.mapsAmong Try.f8.resultTypes.toList) = true := by kernel_rfl
theorem c16 : (Rows.fnExactTranslateFormulaRow.loops == (Try.f8.params.toList ++ Rows.fnExactTranslateFormulaSpec.plain.varTypes Try.prog).any (Try.prog.loopsFrom ·)) = true := by kernel_rfl
theorem c17 : (Rows.fnExactTranslateFormulaRow.wideKeys == (Try.f8.params.toList ++ Rows.fnExactTranslateFormulaSpec.plain.varTypes Try.prog ++ Try.f8.resultTypes.toList).any (Try.prog.wideKeysFrom ·)) = true := by kernel_rfl
theorem c18 : (Rows.fnExactTranslateFormulaSpec.vars.all (Try.prog.varReadable ·)) = true := by kernel_rfl
theorem c19 : (Try.f8.resultTypes.all (fun t => Try.prog.readableRec t && decide (t < Try.prog.types.size))) = true := by kernel_rfl
theorem c20 : (Rows.fnExactTranslateFormulaRow.ifacesOut == Try.f8.resultTypes.toList.any (Try.prog.ifacesRec ·)) = true := by kernel_rfl
theorem c21 : (Rows.fnExactTranslateFormulaRow.loopsOut == Try.f8.resultTypes.toList.any (Try.prog.loopsFrom ·)) = true := by kernel_rfl
theorem c22 : (Rows.fnExactTranslateFormulaRow.plainKeys == Try.prog.plainKeys) = true := by kernel_rfl
theorem c23 : (Rows.fnExactTranslateFormulaRow.shortTexts.isNone) = true := by kernel_rfl
theorem c26 : (Rows.fnExactTranslateFormulaRow.lifted == Try.prog.liftsFinal) = true := by kernel_rfl
theorem c27 : (Try.prog.make == some Rows.fnExactTranslateFormulaRow.make) = true := by kernel_rfl
theorem c28 : (Rows.fnExactTranslateFormulaRow.kinds == (if Rows.fnExactTranslateFormulaRow.domain.isEmpty then [] else Try.f8.params.toList.map fun t => match Try.prog.underlying t with | some (.int k) => some k | _ => none)) = true := by kernel_rfl
theorem c29 : (Rows.fnExactTranslateFormulaRow.pinned == Rows.fnExactTranslateFormulaRow.pinnedBy) = true := by kernel_rfl
theorem c30 : (Rows.fnExactTranslateFormulaRow.veiled == (Try.f8.params.toList ++ Rows.fnExactTranslateFormulaSpec.plain.varTypes Try.prog ++ Try.f8.resultTypes.toList).any (Try.prog.veiledRec ·)) = true := by kernel_rfl
theorem c31 : (Rows.fnExactTranslateFormulaRow.veiledFits Try.prog Try.f8.params.toList (Try.f8.params.toList ++ Rows.fnExactTranslateFormulaSpec.plain.varTypes Try.prog ++ Try.f8.resultTypes.toList)) = true := by kernel_rfl

set_option maxRecDepth 100000 in
theorem closed : joinedFacts Try.prog 8 Try.f8 Rows.fnExactTranslateFormulaSpec Rows.fnExactTranslateFormulaRow = true := by
  unfold joinedFacts
  exact and_mk (and_mk (and_mk (and_mk (and_mk (and_mk (and_mk (and_mk (and_mk (and_mk (and_mk (and_mk (and_mk (and_mk (and_mk (and_mk (and_mk (and_mk (and_mk (and_mk (and_mk (and_mk (and_mk (and_mk (and_mk (and_mk (and_mk (and_mk (and_mk (and_mk (and_mk (c0) jLaid) jMaps) c3) c4) c5) jStops) c7) jKnobs) c9) c10) c11) c12) c13) c14) c15) c16) c17) c18) c19) c20) c21) c22) c23) jHeard) jEnter) c26) c27) c28) c29) c30) c31
theorem named : Try.prog.funcNamed Rows.fnExactTranslateFormulaRow.func = some 8 := by kernel_rfl
theorem inst : Try.f8.isInstance Try.prog Rows.fnExactTranslateFormulaRow.origin Rows.fnExactTranslateFormulaRow.targs := of_decide_eq_true (by kernel_rfl)
theorem wrap : Try.f8.isWrapper Try.prog Rows.fnExactTranslateFormulaRow.wrapper Rows.fnExactTranslateFormulaRow.mainSum := by unfold Func.isWrapper; first | (rw [if_pos (by decide +kernel)]; kernel_rfl) | (rw [if_neg (by decide +kernel)]; exact ⟨rfl, rfl⟩)
theorem proved : Rows.FnExactTranslateFormulaSaid :=
  OpenClaim.holds_of_wide 8 Try.f8 rfl rfl rfl rfl rfl rfl rfl ⟨rfl, rfl, rfl, rfl, rfl⟩ rfl rfl rfl rfl rfl named Try.func8 closed
    inst wrap (fun os started H enc _ => lifted os started H enc)
#print axioms proved
end Go.Proofs.Ytfdoecnpnfojpaa.fnExactTranslateFormula
