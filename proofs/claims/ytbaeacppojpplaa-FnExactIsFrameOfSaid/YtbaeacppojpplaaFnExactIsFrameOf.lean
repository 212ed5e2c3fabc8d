/- Proved: for every input the Go law laws.FnExactIsFrameOf returns true, and each argument reads behind the call as it read before (the given statement Rows.FnExactIsFrameOfSaid). Conditions: none beside those of the statement. -/
import Derived.Test.YtbaeacppojpplaaRows
import Derived.Test.YtbaeacppojpplaaFacts
import Derived.Test.YtbaeacppojpplaaLawIfo
import Derived.WalkKit
import Derived.ProofKit
import Derived.OpenShut
import Derived.ShutString
import Derived.ChangeOld
import Derived.Below
import Derived.Lib.SmallJoins
namespace Go.Proofs.Ytbaeacppojpplaa.fnExactIsFrameOf
open Go.ChangeShapes Go.WideShapes Go.ChangeAt Go.RowKit
open Go.ChangeMaps (open_string shut_string)
set_option linter.unusedVariables false

theorem walk (n0 : Int) (a0 : Option Addr) (len0 cap0 : Nat) (z0 : List Int) (z1 : ByteArray) (w : World) (w0 : IsArr w a0 len0 z0) :
    Calls Try.prog 7 #[.agg #[.int .i64 n0, .slice a0 len0 cap0], .string z1] w fun e w' => e = .returned (.bool true) ∧ Below w.heap.size w w' :=
  lawIsFrameOf n0 z0 z1 a0 len0 cap0 w w0

set_option maxRecDepth 100000 in
theorem lifted (os : Os) (started : os.Started) (H : Type) (enc : TypeId × Value → H) :
    ReturnsInHanded {} Try.checked os 7 .any (Rows.fnExactIsFrameOfSpec.pre6 enc Try.prog Try.f7 Rows.fnExactIsFrameOfRow.domain false) (Rows.fnExactIsFrameOfSpec.post enc Try.prog Try.f7 false true false false) := by
  refine returnsInHanded_of_change (C := Try.checked) own started (by kernel_rfl) Try.func7
    (ChangeSpec.witness6 (enc := enc) (C := Try.checked) false ⟨#[], #[.agg #[.int .i64 0, .slice none 0 0], .string ⟨#[]⟩], []⟩ 8 (by kernel_rfl) (by kernel_rfl) (by kernel_rfl) (by kernel_rfl)) ?_
  intro W base args ds gs before hval0 hW hcnd _
  have hval : ∀ (j : Nat) t v, Try.f7.params[j]? = some t → args[j]? = some v → Value.okWide Try.prog W .any base t v := hval0
  have hW' := hW
  obtain ⟨p, q, hA0, hV, rfl, hfz, hnd⟩ := hW
  have hA : DataW.TrodAll enc Try.prog W 0 (fun _ => true) true Try.f7.params.toList args.toList ds p := hA0
  rw [Try.params7] at hA hval
  obtain ⟨v0, vs0, d0, ds0, p0, q0, hargs, rfl, rfl, h0, r0⟩ := trodAll_cons hA
  obtain ⟨v1, vs1, d1, ds1, p1, q1, rfl, rfl, rfl, h1, r1⟩ := trodAll_cons r0
  obtain ⟨rfl, rfl, rfl⟩ := trodAll_nil r1
  obtain rfl : args = #[v0, v1] := by cases args; simp_all
  obtain ⟨rfl, rfl⟩ := trodVars_none hV
  have k0 := h0
  have lt0 : ∀ x ∈ p0, x.block < W.heap.size := by obtain ⟨m, hm⟩ := k0; exact DataW.trod_lt m _ _ _ hm
  obtain ⟨c0, e0, y0, u0, m0, rfl, rfl, rfl, hy0, hu0⟩ := Joins.open_agg2 Try.underlying27 (by kernel_rfl) (by kernel_rfl) (hval 0 27 v0 rfl rfl) h0
  obtain ⟨n0, hn0, rfl, wn0⟩ := DataW.trod_int Try.underlying2 hy0
  simp at hn0
  subst hn0
  obtain ⟨a0, len0, cap0, z0, he0, w0⟩ : ∃ a len cap zs, e0 = .slice a len cap ∧ IsArr W a len zs := by
    rcases open_ints Try.underlying25 Try.underlying2 (by kernel_rfl) hu0 with ⟨hcs, _⟩ | ⟨x, l, c, zs, hcs, _, hl, hm, hz, _, hcell, hwz⟩
    · simp at hcs
      exact ⟨_, _, _, [], hcs, At.of_row (cap := 0) (.inl ⟨rfl, rfl, rfl, rfl⟩), Nat.zero_le _⟩
    · simp at hcs
      exact ⟨_, _, _, _, hcs, At.of_row (cap := c) (.inr ⟨x, rfl, hl, hm, by simpa using hz, hcell, hwz⟩), Nat.le_trans hl hm⟩
  subst he0
  obtain ⟨z1, rfl, rfl, rfl, ws1⟩ := open_string Try.underlying9 (hval 1 9 v1 rfl rfl) h1
  clear hA0 hval0
  refine (walk n0 a0 len0 cap0 z0 z1 W w0).mono fun e W' ⟨he, bel⟩ => ?_
  subst he
  exact ⟨_, rfl, _, _, _, [], _, [], hW', trodAll_mk1 (shut_bool Try.underlying4 _), (trodAll_cons_mk (Below.trod laidOut (by kernel_rfl) (of_decide_eq_true (by kernel_rfl)) k0 bel lt0) (trodAll_cons_mk (shut_string Try.underlying9 ws1) trodAll_mk0)), rfl, bel.frame _, fun h => by cases h⟩

theorem c0 : (Rows.fnExactIsFrameOfRow.wf (OpenSpec.ofChange Rows.fnExactIsFrameOfSpec)) = true := by kernel_rfl
theorem c3 : (Try.f7.params.all (Try.prog.readableRec ·)) = true := by kernel_rfl
theorem c4 : (namedTie Try.prog Rows.fnExactIsFrameOfRow.named Rows.fnExactIsFrameOfSpec.vars) = true := by kernel_rfl
theorem c5 : (Rows.fnExactIsFrameOfRow.stops == []) = true := by kernel_rfl
theorem c7 : (Rows.fnExactIsFrameOfRow.knobs == []) = true := by kernel_rfl
theorem c9 : (Rows.fnExactIsFrameOfRow.inPlace == Try.prog.inPlace 7) = true := by kernel_rfl
theorem c10 : (Rows.fnExactIsFrameOfRow.unfollowed == Try.prog.unfollowed 7) = true := by kernel_rfl
theorem c11 : (Rows.fnExactIsFrameOfRow.recurses == Try.prog.recurses 7) = true := by kernel_rfl
theorem c12 : (Rows.fnExactIsFrameOfRow.named == Try.prog.varsNamed 7) = true := by kernel_rfl
theorem c13 : (Rows.fnExactIsFrameOfRow.maps == (Try.f7.params.toList ++ Rows.fnExactIsFrameOfSpec.plain.varTypes Try.prog).any (Try.prog.mapsRec ·)) = true := by kernel_rfl
theorem c14 : (Rows.fnExactIsFrameOfRow.ifaces == (Try.f7.params.toList ++ Rows.fnExactIsFrameOfSpec.plain.varTypes Try.prog).any (Try.prog.ifacesRec ·)) = true := by kernel_rfl
theorem c15 : (Rows.fnExactIsFrameOfRow.mapsOut == Try.prog.mapsAmong Try.f7.resultTypes.toList) = true := by kernel_rfl
theorem c16 : (Rows.fnExactIsFrameOfRow.loops == (Try.f7.params.toList ++ Rows.fnExactIsFrameOfSpec.plain.varTypes Try.prog).any (Try.prog.loopsFrom ·)) = true := by kernel_rfl
theorem c17 : (Rows.fnExactIsFrameOfRow.wideKeys == (Try.f7.params.toList ++ Rows.fnExactIsFrameOfSpec.plain.varTypes Try.prog ++ Try.f7.resultTypes.toList).any (Try.prog.wideKeysFrom ·)) = true := by kernel_rfl
theorem c18 : (Rows.fnExactIsFrameOfSpec.vars.all (Try.prog.varReadable ·)) = true := by kernel_rfl
theorem c19 : (Try.f7.resultTypes.all (fun t => Try.prog.readableRec t && decide (t < Try.prog.types.size))) = true := by kernel_rfl
theorem c20 : (Rows.fnExactIsFrameOfRow.ifacesOut == Try.f7.resultTypes.toList.any (Try.prog.ifacesRec ·)) = true := by kernel_rfl
theorem c21 : (Rows.fnExactIsFrameOfRow.loopsOut == Try.f7.resultTypes.toList.any (Try.prog.loopsFrom ·)) = true := by kernel_rfl
theorem c22 : (Rows.fnExactIsFrameOfRow.plainKeys == Try.prog.plainKeys) = true := by kernel_rfl
theorem c23 : (Rows.fnExactIsFrameOfRow.shortTexts.isNone) = true := by kernel_rfl
theorem c26 : (Rows.fnExactIsFrameOfRow.lifted == Try.prog.liftsFinal) = true := by kernel_rfl
theorem c27 : (Try.prog.make == some Rows.fnExactIsFrameOfRow.make) = true := by kernel_rfl
theorem c28 : (Rows.fnExactIsFrameOfRow.kinds == (if Rows.fnExactIsFrameOfRow.domain.isEmpty then [] else Try.f7.params.toList.map fun t => match Try.prog.underlying t with | some (.int k) => some k | _ => none)) = true := by kernel_rfl
theorem c29 : (Rows.fnExactIsFrameOfRow.pinned == Rows.fnExactIsFrameOfRow.pinnedBy) = true := by kernel_rfl
theorem c30 : (Rows.fnExactIsFrameOfRow.veiled == (Try.f7.params.toList ++ Rows.fnExactIsFrameOfSpec.plain.varTypes Try.prog ++ Try.f7.resultTypes.toList).any (Try.prog.veiledRec ·)) = true := by kernel_rfl
theorem c31 : (Rows.fnExactIsFrameOfRow.veiledFits Try.prog Try.f7.params.toList (Try.f7.params.toList ++ Rows.fnExactIsFrameOfSpec.plain.varTypes Try.prog ++ Try.f7.resultTypes.toList)) = true := by kernel_rfl

set_option maxRecDepth 100000 in
theorem closed : joinedFacts Try.prog 7 Try.f7 Rows.fnExactIsFrameOfSpec Rows.fnExactIsFrameOfRow = true := by
  unfold joinedFacts
  exact and_mk (and_mk (and_mk (and_mk (and_mk (and_mk (and_mk (and_mk (and_mk (and_mk (and_mk (and_mk (and_mk (and_mk (and_mk (and_mk (and_mk (and_mk (and_mk (and_mk (and_mk (and_mk (and_mk (and_mk (and_mk (and_mk (and_mk (and_mk (and_mk (and_mk (and_mk (c0) jLaid) jMaps) c3) c4) c5) jStops) c7) jKnobs) c9) c10) c11) c12) c13) c14) c15) c16) c17) c18) c19) c20) c21) c22) c23) jHeard) jEnter) c26) c27) c28) c29) c30) c31
theorem named : Try.prog.funcNamed Rows.fnExactIsFrameOfRow.func = some 7 := by kernel_rfl
theorem inst : Try.f7.isInstance Try.prog Rows.fnExactIsFrameOfRow.origin Rows.fnExactIsFrameOfRow.targs := of_decide_eq_true (by kernel_rfl)
theorem wrap : Try.f7.isWrapper Try.prog Rows.fnExactIsFrameOfRow.wrapper Rows.fnExactIsFrameOfRow.mainSum := by unfold Func.isWrapper; first | (rw [if_pos (by decide +kernel)]; kernel_rfl) | (rw [if_neg (by decide +kernel)]; exact ⟨rfl, rfl⟩)
theorem proved : Rows.FnExactIsFrameOfSaid :=
  OpenClaim.holds_of_wide 7 Try.f7 rfl rfl rfl rfl rfl rfl rfl ⟨rfl, rfl, rfl, rfl, rfl⟩ rfl rfl rfl rfl rfl named Try.func7 closed
    inst wrap (fun os started H enc _ => lifted os started H enc)
#print axioms proved
end Go.Proofs.Ytbaeacppojpplaa.fnExactIsFrameOf
