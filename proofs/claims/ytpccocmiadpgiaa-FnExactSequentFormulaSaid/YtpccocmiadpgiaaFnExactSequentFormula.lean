/- Proved: for every input the Go law laws.FnExactSequentFormula returns true, and each argument reads behind the call as it read before (the given statement Rows.FnExactSequentFormulaSaid). Conditions: none beside those of the statement. -/
import Derived.Test.YtpccocmiadpgiaaRows
import Derived.Test.YtpccocmiadpgiaaFacts
import Derived.Test.YtpccocmiadpgiaaLawSf
import Derived.WalkKit
import Derived.ProofKit
import Derived.OpenShut
import Derived.ShutString
import Derived.ChangeOld
import Derived.Below
import Derived.Lib.SmallJoins
namespace Go.Proofs.Ytpccocmiadpgiaa.fnExactSequentFormula
open Go.ChangeShapes Go.WideShapes Go.ChangeAt Go.RowKit
open Go.ChangeMaps (open_string shut_string)
set_option linter.unusedVariables false

theorem walk (a0 : Option Addr) (len0 cap0 : Nat) (z0 : List (List UInt8)) (b0 : Option Addr) (m0 d0 : Nat) (y0 : List (List UInt8)) (w : World) (w0 : IsStrs w a0 len0 z0 ∧ IsStrs w b0 m0 y0) :
    Calls Try.prog 5 #[.agg #[.slice a0 len0 cap0, .slice b0 m0 d0]] w fun e w' => e = .returned (.bool true) ∧ Below w.heap.size w w' :=
  lawSequentFormula a0 len0 cap0 z0 b0 m0 d0 y0 w w0

set_option maxRecDepth 100000 in
theorem lifted (os : Os) (started : os.Started) (H : Type) (enc : TypeId × Value → H) :
    ReturnsInHanded {} Try.checked os 5 .any (Rows.fnExactSequentFormulaSpec.pre6 enc Try.prog Try.f5 Rows.fnExactSequentFormulaRow.domain false) (Rows.fnExactSequentFormulaSpec.post enc Try.prog Try.f5 false true false false) := by
  refine returnsInHanded_of_change (C := Try.checked) own started (by kernel_rfl) Try.func5
    (ChangeSpec.witness6 (enc := enc) (C := Try.checked) false ⟨#[], #[.agg #[.slice none 0 0, .slice none 0 0]], []⟩ 8 (by kernel_rfl) (by kernel_rfl) (by kernel_rfl) (by kernel_rfl)) ?_
  intro W base args ds gs before hval0 hW hcnd _
  have hval : ∀ (j : Nat) t v, Try.f5.params[j]? = some t → args[j]? = some v → Value.okWide Try.prog W .any base t v := hval0
  have hW' := hW
  obtain ⟨p, q, hA0, hV, rfl, hfz, hnd⟩ := hW
  have hA : DataW.TrodAll enc Try.prog W 0 (fun _ => true) true Try.f5.params.toList args.toList ds p := hA0
  rw [Try.params5] at hA hval
  obtain ⟨v0, vs0, d0, ds0, p0, q0, hargs, rfl, rfl, h0, r0⟩ := trodAll_cons hA
  obtain ⟨rfl, rfl, rfl⟩ := trodAll_nil r0
  obtain rfl : args = #[v0] := by cases args; simp_all
  obtain ⟨rfl, rfl⟩ := trodVars_none hV
  have k0 := h0
  have lt0 : ∀ x ∈ p0, x.block < W.heap.size := by obtain ⟨m, hm⟩ := k0; exact DataW.trod_lt m _ _ _ hm
  obtain ⟨c0, e0, y0', u0, q0', rfl, rfl, rfl, hy0, hu0⟩ := Joins.open_agg2 Try.underlying25 (by kernel_rfl) (by kernel_rfl) (hval 0 25 v0 rfl rfl) h0
  obtain ⟨a0, len0, cap0, z0, he0, w0⟩ : ∃ a len cap zs, c0 = .slice a len cap ∧ IsStrs W a len zs := by
    obtain ⟨a', l', c', zs, hcs, hn⟩ := open_strs Try.underlying23 Try.underlying9 (by kernel_rfl) hy0
    simp at hcs
    exact ⟨_, _, _, _, hcs, hn⟩
  obtain ⟨b0, m0, d0, y0, he'0, w'0⟩ : ∃ a len cap zs, e0 = .slice a len cap ∧ IsStrs W a len zs := by
    obtain ⟨a', l', c', zs, hcs, hn⟩ := open_strs Try.underlying23 Try.underlying9 (by kernel_rfl) hu0
    simp at hcs
    exact ⟨_, _, _, _, hcs, hn⟩
  subst he0 he'0
  clear hA0 hval0
  refine (walk a0 len0 cap0 z0 b0 m0 d0 y0 W ⟨w0, w'0⟩).mono fun e W' ⟨he, bel⟩ => ?_
  subst he
  exact ⟨_, rfl, _, _, _, [], _, [], hW', trodAll_mk1 (shut_bool Try.underlying4 _), (trodAll_cons_mk (Below.trod laidOut (by kernel_rfl) (of_decide_eq_true (by kernel_rfl)) k0 bel lt0) trodAll_mk0), rfl, bel.frame _, fun h => by cases h⟩

theorem c0 : (Rows.fnExactSequentFormulaRow.wf (OpenSpec.ofChange Rows.fnExactSequentFormulaSpec)) = true := by kernel_rfl
theorem c3 : (Try.f5.params.all (Try.prog.readableRec ·)) = true := by kernel_rfl
theorem c4 : (namedTie Try.prog Rows.fnExactSequentFormulaRow.named Rows.fnExactSequentFormulaSpec.vars) = true := by kernel_rfl
theorem c5 : (Rows.fnExactSequentFormulaRow.stops == []) = true := by kernel_rfl
theorem c7 : (Rows.fnExactSequentFormulaRow.knobs == []) = true := by kernel_rfl
theorem c9 : (Rows.fnExactSequentFormulaRow.inPlace == Try.prog.inPlace 5) = true := by kernel_rfl
theorem c10 : (Rows.fnExactSequentFormulaRow.unfollowed == Try.prog.unfollowed 5) = true := by kernel_rfl
theorem c11 : (Rows.fnExactSequentFormulaRow.recurses == Try.prog.recurses 5) = true := by kernel_rfl
theorem c12 : (Rows.fnExactSequentFormulaRow.named == Try.prog.varsNamed 5) = true := by kernel_rfl
theorem c13 : (Rows.fnExactSequentFormulaRow.maps == (Try.f5.params.toList ++ Rows.fnExactSequentFormulaSpec.plain.varTypes Try.prog).any (Try.prog.mapsRec ·)) = true := by kernel_rfl
theorem c14 : (Rows.fnExactSequentFormulaRow.ifaces == (Try.f5.params.toList ++ Rows.fnExactSequentFormulaSpec.plain.varTypes Try.prog).any (Try.prog.ifacesRec ·)) = true := by kernel_rfl
theorem c15 : (Rows.fnExactSequentFormulaRow.mapsOut == Try.prog.mapsAmong Try.f5.resultTypes.toList) = true := by kernel_rfl
theorem c16 : (Rows.fnExactSequentFormulaRow.loops == (Try.f5.params.toList ++ Rows.fnExactSequentFormulaSpec.plain.varTypes Try.prog).any (Try.prog.loopsFrom ·)) = true := by kernel_rfl
theorem c17 : (Rows.fnExactSequentFormulaRow.wideKeys == (Try.f5.params.toList ++ Rows.fnExactSequentFormulaSpec.plain.varTypes Try.prog ++ Try.f5.resultTypes.toList).any (Try.prog.wideKeysFrom ·)) = true := by kernel_rfl
theorem c18 : (Rows.fnExactSequentFormulaSpec.vars.all (Try.prog.varReadable ·)) = true := by kernel_rfl
theorem c19 : (Try.f5.resultTypes.all (fun t => Try.prog.readableRec t && decide (t < Try.prog.types.size))) = true := by kernel_rfl
theorem c20 : (Rows.fnExactSequentFormulaRow.ifacesOut == Try.f5.resultTypes.toList.any (Try.prog.ifacesRec ·)) = true := by kernel_rfl
theorem c21 : (Rows.fnExactSequentFormulaRow.loopsOut == Try.f5.resultTypes.toList.any (Try.prog.loopsFrom ·)) = true := by kernel_rfl
theorem c22 : (Rows.fnExactSequentFormulaRow.plainKeys == Try.prog.plainKeys) = true := by kernel_rfl
theorem c23 : (Rows.fnExactSequentFormulaRow.shortTexts.isNone) = true := by kernel_rfl
theorem c26 : (Rows.fnExactSequentFormulaRow.lifted == Try.prog.liftsFinal) = true := by kernel_rfl
theorem c27 : (Try.prog.make == some Rows.fnExactSequentFormulaRow.make) = true := by kernel_rfl
theorem c28 : (Rows.fnExactSequentFormulaRow.kinds == (if Rows.fnExactSequentFormulaRow.domain.isEmpty then [] else Try.f5.params.toList.map fun t => match Try.prog.underlying t with | some (.int k) => some k | _ => none)) = true := by kernel_rfl
theorem c29 : (Rows.fnExactSequentFormulaRow.pinned == Rows.fnExactSequentFormulaRow.pinnedBy) = true := by kernel_rfl
theorem c30 : (Rows.fnExactSequentFormulaRow.veiled == (Try.f5.params.toList ++ Rows.fnExactSequentFormulaSpec.plain.varTypes Try.prog ++ Try.f5.resultTypes.toList).any (Try.prog.veiledRec ·)) = true := by kernel_rfl
theorem c31 : (Rows.fnExactSequentFormulaRow.veiledFits Try.prog Try.f5.params.toList (Try.f5.params.toList ++ Rows.fnExactSequentFormulaSpec.plain.varTypes Try.prog ++ Try.f5.resultTypes.toList)) = true := by kernel_rfl

set_option maxRecDepth 100000 in
theorem closed : joinedFacts Try.prog 5 Try.f5 Rows.fnExactSequentFormulaSpec Rows.fnExactSequentFormulaRow = true := by
  unfold joinedFacts
  exact and_mk (and_mk (and_mk (and_mk (and_mk (and_mk (and_mk (and_mk (and_mk (and_mk (and_mk (and_mk (and_mk (and_mk (and_mk (and_mk (and_mk (and_mk (and_mk (and_mk (and_mk (and_mk (and_mk (and_mk (and_mk (and_mk (and_mk (and_mk (and_mk (and_mk (and_mk (c0) jLaid) jMaps) c3) c4) c5) jStops) c7) jKnobs) c9) c10) c11) c12) c13) c14) c15) c16) c17) c18) c19) c20) c21) c22) c23) jHeard) jEnter) c26) c27) c28) c29) c30) c31
theorem named : Try.prog.funcNamed Rows.fnExactSequentFormulaRow.func = some 5 := by kernel_rfl
theorem inst : Try.f5.isInstance Try.prog Rows.fnExactSequentFormulaRow.origin Rows.fnExactSequentFormulaRow.targs := of_decide_eq_true (by kernel_rfl)
theorem wrap : Try.f5.isWrapper Try.prog Rows.fnExactSequentFormulaRow.wrapper Rows.fnExactSequentFormulaRow.mainSum := by unfold Func.isWrapper; first | (rw [if_pos (by decide +kernel)]; kernel_rfl) | (rw [if_neg (by decide +kernel)]; exact ⟨rfl, rfl⟩)
theorem proved : Rows.FnExactSequentFormulaSaid :=
  OpenClaim.holds_of_wide 5 Try.f5 rfl rfl rfl rfl rfl rfl rfl ⟨rfl, rfl, rfl, rfl, rfl⟩ rfl rfl rfl rfl rfl named Try.func5 closed
    inst wrap (fun os started H enc _ => lifted os started H enc)
#print axioms proved
end Go.Proofs.Ytpccocmiadpgiaa.fnExactSequentFormula
