/- Proved: for every input the Go law laws.FnExactFrameHolds returns true, and each argument reads behind the call as it read before (the given statement Rows.FnExactFrameHoldsSaid). Conditions: none beside those of the statement. -/
import Derived.Test.YtbfnagmjnaacoaaRows
import Derived.Test.YtbfnagmjnaacoaaFacts
import Derived.Test.YtbfnagmjnaacoaaLawFh
import Derived.WalkKit
import Derived.ProofKit
import Derived.OpenShut
import Derived.ShutString
import Derived.ChangeOld
import Derived.Below
import Derived.Lib.SmallJoins
namespace Go.Proofs.Ytbfnagmjnaacoaa.fnExactFrameHolds
open Go.ChangeShapes Go.WideShapes Go.ChangeAt Go.RowKit
open Go.ChangeMaps (open_string shut_string)
set_option linter.unusedVariables false

theorem walk (n0 : Int) (a0 : Option Addr) (len0 cap0 : Nat) (z0 : List Int) (a1 : Option Addr) (len1 cap1 : Nat) (z1 : List Pd) (w : World) (w0 : IsArr w a0 len0 z0) (w1 : IsPts w a1 len1 z1) :
    Calls Try.prog 5 #[.agg #[.int .i64 n0, .slice a0 len0 cap0], .slice a1 len1 cap1] w fun e w' => e = .returned (.bool true) ∧ Below w.heap.size w w' :=
  lawFrameHolds n0 z0 z1 a0 len0 cap0 a1 len1 cap1 w w0 w1

set_option maxRecDepth 100000 in
theorem lifted (os : Os) (started : os.Started) (H : Type) (enc : TypeId × Value → H) :
    ReturnsInHanded {} Try.checked os 5 .any (Rows.fnExactFrameHoldsSpec.pre6 enc Try.prog Try.f5 Rows.fnExactFrameHoldsRow.domain false) (Rows.fnExactFrameHoldsSpec.post enc Try.prog Try.f5 false true false false) := by
  refine returnsInHanded_of_change (C := Try.checked) own started (by kernel_rfl) Try.func5
    (ChangeSpec.witness6 (enc := enc) (C := Try.checked) false ⟨#[], #[.agg #[.int .i64 0, .slice none 0 0], .slice none 0 0], []⟩ 8 (by kernel_rfl) (by kernel_rfl) (by kernel_rfl) (by kernel_rfl)) ?_
  intro W base args ds gs before hval0 hW hcnd _
  have hval : ∀ (j : Nat) t v, Try.f5.params[j]? = some t → args[j]? = some v → Value.okWide Try.prog W .any base t v := hval0
  have hW' := hW
  obtain ⟨p, q, hA0, hV, rfl, hfz, hnd⟩ := hW
  have hA : DataW.TrodAll enc Try.prog W 0 (fun _ => true) true Try.f5.params.toList args.toList ds p := hA0
  rw [Try.params5] at hA hval
  obtain ⟨v0, vs0, d0, ds0, p0, q0, hargs, rfl, rfl, h0, r0⟩ := trodAll_cons hA
  obtain ⟨v1, vs1, d1, ds1, p1, q1, rfl, rfl, rfl, h1, r1⟩ := trodAll_cons r0
  obtain ⟨rfl, rfl, rfl⟩ := trodAll_nil r1
  obtain rfl : args = #[v0, v1] := by cases args; simp_all
  obtain ⟨rfl, rfl⟩ := trodVars_none hV
  have k0 := h0
  have lt0 : ∀ x ∈ p0, x.block < W.heap.size := by obtain ⟨m, hm⟩ := k0; exact DataW.trod_lt m _ _ _ hm
  obtain ⟨c0, e0, y0, u0, m0, rfl, rfl, rfl, hy0, hu0⟩ := Joins.open_agg2 Try.underlying30 (by kernel_rfl) (by kernel_rfl) (hval 0 30 v0 rfl rfl) h0
  obtain ⟨n0, hn0, rfl, wn0⟩ := DataW.trod_int Try.underlying2 hy0
  simp at hn0
  subst hn0
  obtain ⟨a0, len0, cap0, z0, he0, w0⟩ : ∃ a len cap zs, e0 = .slice a len cap ∧ IsArr W a len zs := by
    rcases open_ints Try.underlying28 Try.underlying2 (by kernel_rfl) hu0 with ⟨hcs, _⟩ | ⟨x, l, c, zs, hcs, _, hl, hm, hz, _, hcell, hwz⟩
    · simp at hcs
      exact ⟨_, _, _, [], hcs, At.of_row (cap := 0) (.inl ⟨rfl, rfl, rfl, rfl⟩), Nat.zero_le _⟩
    · simp at hcs
      exact ⟨_, _, _, _, hcs, At.of_row (cap := c) (.inr ⟨x, rfl, hl, hm, by simpa using hz, hcell, hwz⟩), Nat.le_trans hl hm⟩
  subst he0
  obtain ⟨a1, len1, cap1, rfl⟩ := okWide_slice Try.underlying33 (hval 1 33 v1 rfl rfl)
  have k1 := h1
  have lt1 : ∀ x ∈ p1, x.block < W.heap.size := by obtain ⟨m, hm⟩ := k1; exact DataW.trod_lt m _ _ _ hm
  obtain ⟨z1, w1⟩ : ∃ zs, IsPts W a1 len1 zs := by
    obtain ⟨fuel, hf⟩ := h1
    obtain ⟨a', len', cap', xs, hcs, hn⟩ := open_points Try.underlying33 Try.underlying83 Try.underlying2 Try.underlying2 Try.underlying2 (by kernel_rfl) (by kernel_rfl) hf
    simp [Value.cells] at hcs
    obtain ⟨rfl, rfl, rfl⟩ := hcs
    exact ⟨xs, hn⟩
  clear hA0 hval0
  refine (walk n0 a0 len0 cap0 z0 a1 len1 cap1 z1 W w0 w1).mono fun e W' ⟨he, bel⟩ => ?_
  subst he
  exact ⟨_, rfl, _, _, _, [], _, [], hW', trodAll_mk1 (shut_bool Try.underlying4 _), (trodAll_cons_mk (Below.trod laidOut (by kernel_rfl) (of_decide_eq_true (by kernel_rfl)) k0 bel lt0) (trodAll_cons_mk (Below.trod laidOut (by kernel_rfl) (of_decide_eq_true (by kernel_rfl)) k1 bel lt1) trodAll_mk0)), rfl, bel.frame _, fun h => by cases h⟩

theorem c0 : (Rows.fnExactFrameHoldsRow.wf (OpenSpec.ofChange Rows.fnExactFrameHoldsSpec)) = true := by kernel_rfl
theorem c3 : (Try.f5.params.all (Try.prog.readableRec ·)) = true := by kernel_rfl
theorem c4 : (namedTie Try.prog Rows.fnExactFrameHoldsRow.named Rows.fnExactFrameHoldsSpec.vars) = true := by kernel_rfl
theorem c5 : (Rows.fnExactFrameHoldsRow.stops == []) = true := by kernel_rfl
theorem c7 : (Rows.fnExactFrameHoldsRow.knobs == []) = true := by kernel_rfl
theorem c9 : (Rows.fnExactFrameHoldsRow.inPlace == Try.prog.inPlace 5) = true := by kernel_rfl
theorem c10 : (Rows.fnExactFrameHoldsRow.unfollowed == Try.prog.unfollowed 5) = true := by kernel_rfl
theorem c11 : (Rows.fnExactFrameHoldsRow.recurses == Try.prog.recurses 5) = true := by kernel_rfl
theorem c12 : (Rows.fnExactFrameHoldsRow.named == Try.prog.varsNamed 5) = true := by kernel_rfl
theorem c13 : (Rows.fnExactFrameHoldsRow.maps == (Try.f5.params.toList ++ Rows.fnExactFrameHoldsSpec.plain.varTypes Try.prog).any (Try.prog.mapsRec ·)) = true := by kernel_rfl
theorem c14 : (Rows.fnExactFrameHoldsRow.ifaces == (Try.f5.params.toList ++ Rows.fnExactFrameHoldsSpec.plain.varTypes Try.prog).any (Try.prog.ifacesRec ·)) = true := by kernel_rfl
theorem c15 : (Rows.fnExactFrameHoldsRow.mapsOut == Try.prog.mapsAmong Try.f5.resultTypes.toList) = true := by kernel_rfl
theorem c16 : (Rows.fnExactFrameHoldsRow.loops == (Try.f5.params.toList ++ Rows.fnExactFrameHoldsSpec.plain.varTypes Try.prog).any (Try.prog.loopsFrom ·)) = true := by kernel_rfl
theorem c17 : (Rows.fnExactFrameHoldsRow.wideKeys == (Try.f5.params.toList ++ Rows.fnExactFrameHoldsSpec.plain.varTypes Try.prog ++ Try.f5.resultTypes.toList).any (Try.prog.wideKeysFrom ·)) = true := by kernel_rfl
theorem c18 : (Rows.fnExactFrameHoldsSpec.vars.all (Try.prog.varReadable ·)) = true := by kernel_rfl
theorem c19 : (Try.f5.resultTypes.all (fun t => Try.prog.readableRec t && decide (t < Try.prog.types.size))) = true := by kernel_rfl
theorem c20 : (Rows.fnExactFrameHoldsRow.ifacesOut == Try.f5.resultTypes.toList.any (Try.prog.ifacesRec ·)) = true := by kernel_rfl
theorem c21 : (Rows.fnExactFrameHoldsRow.loopsOut == Try.f5.resultTypes.toList.any (Try.prog.loopsFrom ·)) = true := by kernel_rfl
theorem c22 : (Rows.fnExactFrameHoldsRow.plainKeys == Try.prog.plainKeys) = true := by kernel_rfl
theorem c23 : (Rows.fnExactFrameHoldsRow.shortTexts.isNone) = true := by kernel_rfl
theorem c26 : (Rows.fnExactFrameHoldsRow.lifted == Try.prog.liftsFinal) = true := by kernel_rfl
theorem c27 : (Try.prog.make == some Rows.fnExactFrameHoldsRow.make) = true := by kernel_rfl
theorem c28 : (Rows.fnExactFrameHoldsRow.kinds == (if Rows.fnExactFrameHoldsRow.domain.isEmpty then [] else Try.f5.params.toList.map fun t => match Try.prog.underlying t with | some (.int k) => some k | _ => none)) = true := by kernel_rfl
theorem c29 : (Rows.fnExactFrameHoldsRow.pinned == Rows.fnExactFrameHoldsRow.pinnedBy) = true := by kernel_rfl
theorem c30 : (Rows.fnExactFrameHoldsRow.veiled == (Try.f5.params.toList ++ Rows.fnExactFrameHoldsSpec.plain.varTypes Try.prog ++ Try.f5.resultTypes.toList).any (Try.prog.veiledRec ·)) = true := by kernel_rfl
theorem c31 : (Rows.fnExactFrameHoldsRow.veiledFits Try.prog Try.f5.params.toList (Try.f5.params.toList ++ Rows.fnExactFrameHoldsSpec.plain.varTypes Try.prog ++ Try.f5.resultTypes.toList)) = true := by kernel_rfl

set_option maxRecDepth 100000 in
theorem closed : joinedFacts Try.prog 5 Try.f5 Rows.fnExactFrameHoldsSpec Rows.fnExactFrameHoldsRow = true := by
  unfold joinedFacts
  exact and_mk (and_mk (and_mk (and_mk (and_mk (and_mk (and_mk (and_mk (and_mk (and_mk (and_mk (and_mk (and_mk (and_mk (and_mk (and_mk (and_mk (and_mk (and_mk (and_mk (and_mk (and_mk (and_mk (and_mk (and_mk (and_mk (and_mk (and_mk (and_mk (and_mk (and_mk (c0) jLaid) jMaps) c3) c4) c5) jStops) c7) jKnobs) c9) c10) c11) c12) c13) c14) c15) c16) c17) c18) c19) c20) c21) c22) c23) jHeard) jEnter) c26) c27) c28) c29) c30) c31
theorem named : Try.prog.funcNamed Rows.fnExactFrameHoldsRow.func = some 5 := by kernel_rfl
theorem inst : Try.f5.isInstance Try.prog Rows.fnExactFrameHoldsRow.origin Rows.fnExactFrameHoldsRow.targs := of_decide_eq_true (by kernel_rfl)
theorem wrap : Try.f5.isWrapper Try.prog Rows.fnExactFrameHoldsRow.wrapper Rows.fnExactFrameHoldsRow.mainSum := by unfold Func.isWrapper; first | (rw [if_pos (by decide +kernel)]; kernel_rfl) | (rw [if_neg (by decide +kernel)]; exact ⟨rfl, rfl⟩)
theorem proved : Rows.FnExactFrameHoldsSaid :=
  OpenClaim.holds_of_wide 5 Try.f5 rfl rfl rfl rfl rfl rfl rfl ⟨rfl, rfl, rfl, rfl, rfl⟩ rfl rfl rfl rfl rfl named Try.func5 closed
    inst wrap (fun os started H enc _ => lifted os started H enc)
#print axioms proved
end Go.Proofs.Ytbfnagmjnaacoaa.fnExactFrameHolds
