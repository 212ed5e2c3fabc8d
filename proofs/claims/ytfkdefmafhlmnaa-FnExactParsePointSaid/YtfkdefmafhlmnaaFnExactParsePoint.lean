/- Proved: for every input the Go law laws.FnExactParsePoint returns true, and each argument reads behind the call as it read before (the given statement Rows.FnExactParsePointSaid). Conditions: none beside those of the statement. -/
import Derived.Test.YtfkdefmafhlmnaaRows
import Derived.Test.YtfkdefmafhlmnaaFacts
import Derived.Test.YtfkdefmafhlmnaaLawPp
import Derived.WalkKit
import Derived.ProofKit
import Derived.OpenShut
import Derived.ShutString
import Derived.ChangeOld
import Derived.Below
namespace Go.Proofs.Ytfkdefmafhlmnaa.fnExactParsePoint
open Go.ChangeShapes Go.WideShapes Go.ChangeAt Go.RowKit
open Go.ChangeMaps (open_string shut_string)
set_option linter.unusedVariables false

theorem walk (z0 : ByteArray) (w : World)  :
    Calls Try.prog 6 #[.string z0] w fun e w' => e = .returned (.bool true) ∧ Below w.heap.size w w' :=
  lawParsePoint z0 w

set_option maxRecDepth 100000 in
theorem lifted (os : Os) (started : os.Started) (H : Type) (enc : TypeId × Value → H) :
    ReturnsInHanded {} Try.checked os 6 .any (Rows.fnExactParsePointSpec.pre6 enc Try.prog Try.f6 Rows.fnExactParsePointRow.domain false) (Rows.fnExactParsePointSpec.post enc Try.prog Try.f6 false true false false) := by
  refine returnsInHanded_of_change (C := Try.checked) own started (by kernel_rfl) Try.func6
    (ChangeSpec.witness6 (enc := enc) (C := Try.checked) false ⟨#[], #[.string ⟨#[]⟩], []⟩ 8 (by kernel_rfl) (by kernel_rfl) (by kernel_rfl) (by kernel_rfl)) ?_
  intro W base args ds gs before hval0 hW hcnd _
  have hval : ∀ (j : Nat) t v, Try.f6.params[j]? = some t → args[j]? = some v → Value.okWide Try.prog W .any base t v := hval0
  have hW' := hW
  obtain ⟨p, q, hA0, hV, rfl, hfz, hnd⟩ := hW
  have hA : DataW.TrodAll enc Try.prog W 0 (fun _ => true) true Try.f6.params.toList args.toList ds p := hA0
  rw [Try.params6] at hA hval
  obtain ⟨v0, vs0, d0, ds0, p0, q0, hargs, rfl, rfl, h0, r0⟩ := trodAll_cons hA
  obtain ⟨rfl, rfl, rfl⟩ := trodAll_nil r0
  obtain rfl : args = #[v0] := by cases args; simp_all
  obtain ⟨rfl, rfl⟩ := trodVars_none hV
  obtain ⟨z0, rfl, rfl, rfl, ws0⟩ := open_string Try.underlying9 (hval 0 9 v0 rfl rfl) h0
  clear hA0 hval0
  refine (walk z0 W ).mono fun e W' ⟨he, bel⟩ => ?_
  subst he
  exact ⟨_, rfl, _, _, _, [], _, [], hW', trodAll_mk1 (shut_bool Try.underlying4 _), (trodAll_cons_mk (shut_string Try.underlying9 ws0) trodAll_mk0), rfl, bel.frame _, fun h => by cases h⟩

theorem c0 : (Rows.fnExactParsePointRow.wf (OpenSpec.ofChange Rows.fnExactParsePointSpec)) = true := by kernel_rfl
theorem c3 : (Try.f6.params.all (Try.prog.readableRec ·)) = true := by kernel_rfl
theorem c4 : (namedTie Try.prog Rows.fnExactParsePointRow.named Rows.fnExactParsePointSpec.vars) = true := by kernel_rfl
theorem c5 : (Rows.fnExactParsePointRow.stops == []) = true := by kernel_rfl
theorem c7 : (Rows.fnExactParsePointRow.knobs == []) = true := by kernel_rfl
theorem c9 : (Rows.fnExactParsePointRow.inPlace == Try.prog.inPlace 6) = true := by kernel_rfl
theorem c10 : (Rows.fnExactParsePointRow.unfollowed == Try.prog.unfollowed 6) = true := by kernel_rfl
theorem c11 : (Rows.fnExactParsePointRow.recurses == Try.prog.recurses 6) = true := by kernel_rfl
theorem c12 : (Rows.fnExactParsePointRow.named == Try.prog.varsNamed 6) = true := by kernel_rfl
theorem c13 : (Rows.fnExactParsePointRow.maps == (Try.f6.params.toList ++ Rows.fnExactParsePointSpec.plain.varTypes Try.prog).any (Try.prog.mapsRec ·)) = true := by kernel_rfl
theorem c14 : (Rows.fnExactParsePointRow.ifaces == (Try.f6.params.toList ++ Rows.fnExactParsePointSpec.plain.varTypes Try.prog).any (Try.prog.ifacesRec ·)) = true := by kernel_rfl
theorem c15 : (Rows.fnExactParsePointRow.mapsOut == Try.prog.mapsAmong Try.f6.resultTypes.toList) = true := by kernel_rfl
theorem c16 : (Rows.fnExactParsePointRow.loops == (Try.f6.params.toList ++ Rows.fnExactParsePointSpec.plain.varTypes Try.prog).any (Try.prog.loopsFrom ·)) = true := by kernel_rfl
theorem c17 : (Rows.fnExactParsePointRow.wideKeys == (Try.f6.params.toList ++ Rows.fnExactParsePointSpec.plain.varTypes Try.prog ++ Try.f6.resultTypes.toList).any (Try.prog.wideKeysFrom ·)) = true := by kernel_rfl
theorem c18 : (Rows.fnExactParsePointSpec.vars.all (Try.prog.varReadable ·)) = true := by kernel_rfl
theorem c19 : (Try.f6.resultTypes.all (fun t => Try.prog.readableRec t && decide (t < Try.prog.types.size))) = true := by kernel_rfl
theorem c20 : (Rows.fnExactParsePointRow.ifacesOut == Try.f6.resultTypes.toList.any (Try.prog.ifacesRec ·)) = true := by kernel_rfl
theorem c21 : (Rows.fnExactParsePointRow.loopsOut == Try.f6.resultTypes.toList.any (Try.prog.loopsFrom ·)) = true := by kernel_rfl
theorem c22 : (Rows.fnExactParsePointRow.plainKeys == Try.prog.plainKeys) = true := by kernel_rfl
theorem c23 : (Rows.fnExactParsePointRow.shortTexts.isNone) = true := by kernel_rfl
theorem c26 : (Rows.fnExactParsePointRow.lifted == Try.prog.liftsFinal) = true := by kernel_rfl
theorem c27 : (Try.prog.make == some Rows.fnExactParsePointRow.make) = true := by kernel_rfl
theorem c28 : (Rows.fnExactParsePointRow.kinds == (if Rows.fnExactParsePointRow.domain.isEmpty then [] else Try.f6.params.toList.map fun t => match Try.prog.underlying t with | some (.int k) => some k | _ => none)) = true := by kernel_rfl
theorem c29 : (Rows.fnExactParsePointRow.pinned == Rows.fnExactParsePointRow.pinnedBy) = true := by kernel_rfl
theorem c30 : (Rows.fnExactParsePointRow.veiled == (Try.f6.params.toList ++ Rows.fnExactParsePointSpec.plain.varTypes Try.prog ++ Try.f6.resultTypes.toList).any (Try.prog.veiledRec ·)) = true := by kernel_rfl
theorem c31 : (Rows.fnExactParsePointRow.veiledFits Try.prog Try.f6.params.toList (Try.f6.params.toList ++ Rows.fnExactParsePointSpec.plain.varTypes Try.prog ++ Try.f6.resultTypes.toList)) = true := by kernel_rfl

set_option maxRecDepth 100000 in
theorem closed : joinedFacts Try.prog 6 Try.f6 Rows.fnExactParsePointSpec Rows.fnExactParsePointRow = true := by
  unfold joinedFacts
  exact and_mk (and_mk (and_mk (and_mk (and_mk (and_mk (and_mk (and_mk (and_mk (and_mk (and_mk (and_mk (and_mk (and_mk (and_mk (and_mk (and_mk (and_mk (and_mk (and_mk (and_mk (and_mk (and_mk (and_mk (and_mk (and_mk (and_mk (and_mk (and_mk (and_mk (and_mk (c0) jLaid) jMaps) c3) c4) c5) jStops) c7) jKnobs) c9) c10) c11) c12) c13) c14) c15) c16) c17) c18) c19) c20) c21) c22) c23) jHeard) jEnter) c26) c27) c28) c29) c30) c31
theorem named : Try.prog.funcNamed Rows.fnExactParsePointRow.func = some 6 := by kernel_rfl
theorem inst : Try.f6.isInstance Try.prog Rows.fnExactParsePointRow.origin Rows.fnExactParsePointRow.targs := of_decide_eq_true (by kernel_rfl)
theorem wrap : Try.f6.isWrapper Try.prog Rows.fnExactParsePointRow.wrapper Rows.fnExactParsePointRow.mainSum := by unfold Func.isWrapper; first | (rw [if_pos (by decide +kernel)]; kernel_rfl) | (rw [if_neg (by decide +kernel)]; exact ⟨rfl, rfl⟩)
theorem proved : Rows.FnExactParsePointSaid :=
  OpenClaim.holds_of_wide 6 Try.f6 rfl rfl rfl rfl rfl rfl rfl ⟨rfl, rfl, rfl, rfl, rfl⟩ rfl rfl rfl rfl rfl named Try.func6 closed
    inst wrap (fun os started H enc _ => lifted os started H enc)
#print axioms proved
end Go.Proofs.Ytfkdefmafhlmnaa.fnExactParsePoint
