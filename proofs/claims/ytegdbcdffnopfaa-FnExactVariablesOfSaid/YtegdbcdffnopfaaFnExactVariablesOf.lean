/- Proved: for every input the Go law laws.FnExactVariablesOf returns true, and each argument reads behind the call as it read before (the given statement Rows.FnExactVariablesOfSaid). Conditions: none beside those of the statement. -/
import Derived.Test.YtegdbcdffnopfaaRows
import Derived.Test.YtegdbcdffnopfaaFacts
import Derived.Test.YtegdbcdffnopfaaLawVars
import Derived.WalkKit
import Derived.ProofKit
import Derived.OpenShut
import Derived.ShutString
import Derived.ChangeOld
import Derived.Below
namespace Go.Proofs.Ytegdbcdffnopfaa.fnExactVariablesOf
open Go.ChangeShapes Go.WideShapes Go.ChangeAt Go.RowKit
open Go.ChangeMaps (open_string shut_string)
set_option linter.unusedVariables false

theorem walk (a0 : Option Addr) (len0 cap0 : Nat) (z0 : List Nd) (w : World) (w0 : IsNodes w a0 len0 z0) :
    Calls Try.prog 9 #[.slice a0 len0 cap0] w fun e w' => e = .returned (.bool true) ∧ Below w.heap.size w w' :=
  lawVariablesOf z0 a0 len0 cap0 w w0

set_option maxRecDepth 100000 in
theorem lifted (os : Os) (started : os.Started) (H : Type) (enc : TypeId × Value → H) :
    ReturnsInHanded {} Try.checked os 9 .any (Rows.fnExactVariablesOfSpec.pre6 enc Try.prog Try.f9 Rows.fnExactVariablesOfRow.domain false) (Rows.fnExactVariablesOfSpec.post enc Try.prog Try.f9 false true false false) := by
  refine returnsInHanded_of_change (C := Try.checked) own started (by kernel_rfl) Try.func9
    (ChangeSpec.witness6 (enc := enc) (C := Try.checked) false ⟨#[], #[.slice none 0 0], []⟩ 8 (by kernel_rfl) (by kernel_rfl) (by kernel_rfl) (by kernel_rfl)) ?_
  intro W base args ds gs before hval0 hW hcnd _
  have hval : ∀ (j : Nat) t v, Try.f9.params[j]? = some t → args[j]? = some v → Value.okWide Try.prog W .any base t v := hval0
  have hW' := hW
  obtain ⟨p, q, hA0, hV, rfl, hfz, hnd⟩ := hW
  have hA : DataW.TrodAll enc Try.prog W 0 (fun _ => true) true Try.f9.params.toList args.toList ds p := hA0
  rw [Try.params9] at hA hval
  obtain ⟨v0, vs0, d0, ds0, p0, q0, hargs, rfl, rfl, h0, r0⟩ := trodAll_cons hA
  obtain ⟨rfl, rfl, rfl⟩ := trodAll_nil r0
  obtain rfl : args = #[v0] := by cases args; simp_all
  obtain ⟨rfl, rfl⟩ := trodVars_none hV
  obtain ⟨a0, len0, cap0, rfl⟩ := okWide_slice Try.underlying22 (hval 0 22 v0 rfl rfl)
  have k0 := h0
  have lt0 : ∀ x ∈ p0, x.block < W.heap.size := by obtain ⟨m, hm⟩ := k0; exact DataW.trod_lt m _ _ _ hm
  obtain ⟨z0, w0⟩ : ∃ zs, IsNodes W a0 len0 zs := by
    obtain ⟨fuel, hf⟩ := h0
    obtain ⟨a', len', cap', xs, hcs, hn⟩ := open_nodes Try.underlying22 Try.underlying65 Try.underlying2 Try.underlying2 (by kernel_rfl) (by kernel_rfl) hf
    simp [Value.cells] at hcs
    obtain ⟨rfl, rfl, rfl⟩ := hcs
    exact ⟨xs, hn⟩
  clear hA0 hval0
  refine (walk a0 len0 cap0 z0 W w0).mono fun e W' ⟨he, bel⟩ => ?_
  subst he
  exact ⟨_, rfl, _, _, _, [], _, [], hW', trodAll_mk1 (shut_bool Try.underlying4 _), (trodAll_cons_mk (Below.trod laidOut (by kernel_rfl) (of_decide_eq_true (by kernel_rfl)) k0 bel lt0) trodAll_mk0), rfl, bel.frame _, fun h => by cases h⟩

theorem c0 : (Rows.fnExactVariablesOfRow.wf (OpenSpec.ofChange Rows.fnExactVariablesOfSpec)) = true := by kernel_rfl
theorem c3 : (Try.f9.params.all (Try.prog.readableRec ·)) = true := by kernel_rfl
theorem c4 : (namedTie Try.prog Rows.fnExactVariablesOfRow.named Rows.fnExactVariablesOfSpec.vars) = true := by kernel_rfl
theorem c5 : (Rows.fnExactVariablesOfRow.stops == []) = true := by kernel_rfl
theorem c7 : (Rows.fnExactVariablesOfRow.knobs == []) = true := by kernel_rfl
theorem c9 : (Rows.fnExactVariablesOfRow.inPlace == Try.prog.inPlace 9) = true := by kernel_rfl
theorem c10 : (Rows.fnExactVariablesOfRow.unfollowed == Try.prog.unfollowed 9) = true := by kernel_rfl
theorem c11 : (Rows.fnExactVariablesOfRow.recurses == Try.prog.recurses 9) = true := by kernel_rfl
theorem c12 : (Rows.fnExactVariablesOfRow.named == Try.prog.varsNamed 9) = true := by kernel_rfl
theorem c13 : (Rows.fnExactVariablesOfRow.maps == (Try.f9.params.toList ++ Rows.fnExactVariablesOfSpec.plain.varTypes Try.prog).any (Try.prog.mapsRec ·)) = true := by kernel_rfl
theorem c14 : (Rows.fnExactVariablesOfRow.ifaces == (Try.f9.params.toList ++ Rows.fnExactVariablesOfSpec.plain.varTypes Try.prog).any (Try.prog.ifacesRec ·)) = true := by kernel_rfl
theorem c15 : (Rows.fnExactVariablesOfRow.mapsOut == Try.prog.mapsAmong Try.f9.resultTypes.toList) = true := by kernel_rfl
theorem c16 : (Rows.fnExactVariablesOfRow.loops == (Try.f9.params.toList ++ Rows.fnExactVariablesOfSpec.plain.varTypes Try.prog).any (Try.prog.loopsFrom ·)) = true := by kernel_rfl
theorem c17 : (Rows.fnExactVariablesOfRow.wideKeys == (Try.f9.params.toList ++ Rows.fnExactVariablesOfSpec.plain.varTypes Try.prog ++ Try.f9.resultTypes.toList).any (Try.prog.wideKeysFrom ·)) = true := by kernel_rfl
theorem c18 : (Rows.fnExactVariablesOfSpec.vars.all (Try.prog.varReadable ·)) = true := by kernel_rfl
theorem c19 : (Try.f9.resultTypes.all (fun t => Try.prog.readableRec t && decide (t < Try.prog.types.size))) = true := by kernel_rfl
theorem c20 : (Rows.fnExactVariablesOfRow.ifacesOut == Try.f9.resultTypes.toList.any (Try.prog.ifacesRec ·)) = true := by kernel_rfl
theorem c21 : (Rows.fnExactVariablesOfRow.loopsOut == Try.f9.resultTypes.toList.any (Try.prog.loopsFrom ·)) = true := by kernel_rfl
theorem c22 : (Rows.fnExactVariablesOfRow.plainKeys == Try.prog.plainKeys) = true := by kernel_rfl
theorem c23 : (Rows.fnExactVariablesOfRow.shortTexts.isNone) = true := by kernel_rfl
theorem c26 : (Rows.fnExactVariablesOfRow.lifted == Try.prog.liftsFinal) = true := by kernel_rfl
theorem c27 : (Try.prog.make == some Rows.fnExactVariablesOfRow.make) = true := by kernel_rfl
theorem c28 : (Rows.fnExactVariablesOfRow.kinds == (if Rows.fnExactVariablesOfRow.domain.isEmpty then [] else Try.f9.params.toList.map fun t => match Try.prog.underlying t with | some (.int k) => some k | _ => none)) = true := by kernel_rfl
theorem c29 : (Rows.fnExactVariablesOfRow.pinned == Rows.fnExactVariablesOfRow.pinnedBy) = true := by kernel_rfl
theorem c30 : (Rows.fnExactVariablesOfRow.veiled == (Try.f9.params.toList ++ Rows.fnExactVariablesOfSpec.plain.varTypes Try.prog ++ Try.f9.resultTypes.toList).any (Try.prog.veiledRec ·)) = true := by kernel_rfl
theorem c31 : (Rows.fnExactVariablesOfRow.veiledFits Try.prog Try.f9.params.toList (Try.f9.params.toList ++ Rows.fnExactVariablesOfSpec.plain.varTypes Try.prog ++ Try.f9.resultTypes.toList)) = true := by kernel_rfl

set_option maxRecDepth 100000 in
theorem closed : joinedFacts Try.prog 9 Try.f9 Rows.fnExactVariablesOfSpec Rows.fnExactVariablesOfRow = true := by
  unfold joinedFacts
  exact and_mk (and_mk (and_mk (and_mk (and_mk (and_mk (and_mk (and_mk (and_mk (and_mk (and_mk (and_mk (and_mk (and_mk (and_mk (and_mk (and_mk (and_mk (and_mk (and_mk (and_mk (and_mk (and_mk (and_mk (and_mk (and_mk (and_mk (and_mk (and_mk (and_mk (and_mk (c0) jLaid) jMaps) c3) c4) c5) jStops) c7) jKnobs) c9) c10) c11) c12) c13) c14) c15) c16) c17) c18) c19) c20) c21) c22) c23) jHeard) jEnter) c26) c27) c28) c29) c30) c31
theorem named : Try.prog.funcNamed Rows.fnExactVariablesOfRow.func = some 9 := by kernel_rfl
theorem inst : Try.f9.isInstance Try.prog Rows.fnExactVariablesOfRow.origin Rows.fnExactVariablesOfRow.targs := of_decide_eq_true (by kernel_rfl)
theorem wrap : Try.f9.isWrapper Try.prog Rows.fnExactVariablesOfRow.wrapper Rows.fnExactVariablesOfRow.mainSum := by unfold Func.isWrapper; first | (rw [if_pos (by decide +kernel)]; kernel_rfl) | (rw [if_neg (by decide +kernel)]; exact ⟨rfl, rfl⟩)
theorem proved : Rows.FnExactVariablesOfSaid :=
  OpenClaim.holds_of_wide 9 Try.f9 rfl rfl rfl rfl rfl rfl rfl ⟨rfl, rfl, rfl, rfl, rfl⟩ rfl rfl rfl rfl rfl named Try.func9 closed
    inst wrap (fun os started H enc _ => lifted os started H enc)
#print axioms proved
end Go.Proofs.Ytegdbcdffnopfaa.fnExactVariablesOf
