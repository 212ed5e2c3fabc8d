/- Proved: for every input the Go law laws.FnExactReducedModel returns true, and each argument reads behind the call as it read before (the given statement Rows.FnExactReducedModelSaid). Conditions: none beside those of the statement. -/
import Derived.Test.YtomldealpmohhaaRows
import Derived.Test.YtomldealpmohhaaFacts
import Derived.Test.YtomldealpmohhaaLawRd
import Derived.WalkKit
import Derived.ProofKit
import Derived.OpenShut
import Derived.ShutString
import Derived.ChangeOld
import Derived.Below
import Derived.Lib.SmallJoins
namespace Go.Proofs.Ytomldealpmohhaa.fnExactReducedModel
open Go.ChangeShapes Go.WideShapes Go.ChangeAt Go.RowKit
open Go.ChangeMaps (open_string shut_string)
set_option linter.unusedVariables false

theorem walk (n0 : Int) (a0 : Option Addr) (len0 cap0 : Nat) (z0 : List Int) (b0 : Option Addr) (m0 d0 : Nat) (y0 : List Int) (a1 : Int) (w : World) (w0 : IsMod w a0 len0 z0 b0 m0 y0) (w1 : (Lit.int .i64 a1).wf = true) :
    Calls Try.prog 7 #[.agg #[.int .i64 n0, .slice a0 len0 cap0, .slice b0 m0 d0], .int .i64 a1] w fun e w' => e = .returned (.bool true) ∧ Below w.heap.size w w' :=
  lawReducedModel n0 z0 y0 a1 a0 len0 cap0 b0 m0 d0 w w0

set_option maxRecDepth 100000 in
theorem lifted (os : Os) (started : os.Started) (H : Type) (enc : TypeId × Value → H) :
    ReturnsInHanded {} Try.checked os 7 .any (Rows.fnExactReducedModelSpec.pre6 enc Try.prog Try.f7 Rows.fnExactReducedModelRow.domain false) (Rows.fnExactReducedModelSpec.post enc Try.prog Try.f7 false true false false) := by
  refine returnsInHanded_of_change (C := Try.checked) own started (by kernel_rfl) Try.func7
    (ChangeSpec.witness6 (enc := enc) (C := Try.checked) false ⟨#[], #[.agg #[.int .i64 0, .slice none 0 0, .slice none 0 0], .int .i64 0], []⟩ 8 (by kernel_rfl) (by kernel_rfl) (by kernel_rfl) (by kernel_rfl)) ?_
  intro W base args ds gs before hval0 hW hcnd _
  have hval : ∀ (j : Nat) t v, Try.f7.params[j]? = some t → args[j]? = some v → Value.okWide Try.prog W .any base t v := hval0
  have hW' := hW
  obtain ⟨p, q, hA0, hV, rfl, hfz, hnd⟩ := hW
  have hA : DataW.TrodAll enc Try.prog W 0 (fun _ => true) true Try.f7.params.toList args.toList ds p := hA0
  rw [Try.params7] at hA hval
  obtain ⟨v0, vs0, d0, ds0, p0, q0, hargs, rfl, rfl, h0, r0⟩ := trodAll_cons hA
  obtain ⟨v1, vs1, d1, ds1, p1, q1, rfl, rfl, rfl, h1, r1⟩ := trodAll_cons r0
  obtain ⟨rfl, rfl, rfl⟩ := trodAll_nil r1
  obtain rfl : args = #[v0, v1] := by cases args; simp_all
  obtain ⟨rfl, rfl⟩ := trodVars_none hV
  have k0 := h0
  have lt0 : ∀ x ∈ p0, x.block < W.heap.size := by obtain ⟨m, hm⟩ := k0; exact DataW.trod_lt m _ _ _ hm
  obtain ⟨cs0, rfl, hsz0⟩ := okWide_struct Try.underlying26 (hval 0 26 v0 rfl rfl)
  obtain ⟨ca0, cb0, cc0, rfl⟩ := Joins.array3 (hsz0.trans (by kernel_rfl))
  obtain ⟨fu0, hf0⟩ := h0
  obtain ⟨t0, u0, q0, hx0, -, ht0, hu0⟩ := trod_struct2 Try.underlying26 hf0
  rw [show Try.prog.cellsOf 24 = 2 from by kernel_rfl] at ht0
  rw [show Try.prog.cellsOf 22 = 1 from by kernel_rfl] at hu0
  obtain ⟨t'0, u'0, q'0, hx'0, -, ht'0, hu'0⟩ := trod_struct2 Try.underlying24 ht0
  rw [show Try.prog.cellsOf 2 = 1 from by kernel_rfl] at ht'0
  rw [show Try.prog.cellsOf 22 = 1 from by kernel_rfl] at hu'0
  replace ht'0 : DataW.trod enc Try.prog W 0 (fun _ => true) true q'0 2 [ca0] = some t'0 := ht'0
  replace hu'0 : DataW.trod enc Try.prog W 0 (fun _ => true) true q'0 22 [cb0] = some u'0 := hu'0
  replace hu0 : DataW.trod enc Try.prog W 0 (fun _ => true) true q0 22 [cc0] = some u0 := hu0
  obtain ⟨n0, hn0, -, wn0⟩ := DataW.trod_int Try.underlying2 ht'0
  simp at hn0
  subst hn0
  obtain ⟨a0, len0, cap0, z0, he0, w0⟩ : ∃ a len cap zs, cb0 = .slice a len cap ∧ IsArr W a len zs := by
    rcases open_ints Try.underlying22 Try.underlying2 (by kernel_rfl) hu'0 with ⟨hcs, _⟩ | ⟨x, l, c, zs, hcs, _, hl, hm, hz, _, hcell, hwz⟩
    · simp at hcs
      exact ⟨_, _, _, [], hcs, At.of_row (cap := 0) (.inl ⟨rfl, rfl, rfl, rfl⟩), Nat.zero_le _⟩
    · simp at hcs
      exact ⟨_, _, _, _, hcs, At.of_row (cap := c) (.inr ⟨x, rfl, hl, hm, by simpa using hz, hcell, hwz⟩), Nat.le_trans hl hm⟩
  obtain ⟨b0, m0, d0, y0, he'0, w'0⟩ : ∃ a len cap zs, cc0 = .slice a len cap ∧ IsArr W a len zs := by
    rcases open_ints Try.underlying22 Try.underlying2 (by kernel_rfl) hu0 with ⟨hcs, _⟩ | ⟨x, l, c, zs, hcs, _, hl, hm, hz, _, hcell, hwz⟩
    · simp at hcs
      exact ⟨_, _, _, [], hcs, At.of_row (cap := 0) (.inl ⟨rfl, rfl, rfl, rfl⟩), Nat.zero_le _⟩
    · simp at hcs
      exact ⟨_, _, _, _, hcs, At.of_row (cap := c) (.inr ⟨x, rfl, hl, hm, by simpa using hz, hcell, hwz⟩), Nat.le_trans hl hm⟩
  subst he0 he'0
  obtain ⟨a1, rfl, rfl, rfl, w1⟩ := open_int Try.underlying2 (hval 1 2 v1 rfl rfl) h1
  clear hA0 hval0
  refine (walk n0 a0 len0 cap0 z0 b0 m0 d0 y0 a1 W ⟨w0, w'0⟩ w1).mono fun e W' ⟨he, bel⟩ => ?_
  subst he
  exact ⟨_, rfl, _, _, _, [], _, [], hW', trodAll_mk1 (shut_bool Try.underlying4 _), (trodAll_cons_mk (Below.trod laidOut (by kernel_rfl) (of_decide_eq_true (by kernel_rfl)) k0 bel lt0) (trodAll_cons_mk (shut_int Try.underlying2 w1) trodAll_mk0)), rfl, bel.frame _, fun h => by cases h⟩

theorem c0 : (Rows.fnExactReducedModelRow.wf (OpenSpec.ofChange Rows.fnExactReducedModelSpec)) = true := by kernel_rfl
theorem c3 : (Try.f7.params.all (Try.prog.readableRec ·)) = true := by kernel_rfl
theorem c4 : (namedTie Try.prog Rows.fnExactReducedModelRow.named Rows.fnExactReducedModelSpec.vars) = true := by kernel_rfl
theorem c5 : (Rows.fnExactReducedModelRow.stops == []) = true := by kernel_rfl
theorem c7 : (Rows.fnExactReducedModelRow.knobs == []) = true := by kernel_rfl
theorem c9 : (Rows.fnExactReducedModelRow.inPlace == Try.prog.inPlace 7) = true := by kernel_rfl
theorem c10 : (Rows.fnExactReducedModelRow.unfollowed == Try.prog.unfollowed 7) = true := by kernel_rfl
theorem c11 : (Rows.fnExactReducedModelRow.recurses == Try.prog.recurses 7) = true := by kernel_rfl
theorem c12 : (Rows.fnExactReducedModelRow.named == Try.prog.varsNamed 7) = true := by kernel_rfl
theorem c13 : (Rows.fnExactReducedModelRow.maps == (Try.f7.params.toList ++ Rows.fnExactReducedModelSpec.plain.varTypes Try.prog).any (Try.prog.mapsRec ·)) = true := by kernel_rfl
theorem c14 : (Rows.fnExactReducedModelRow.ifaces == (Try.f7.params.toList ++ Rows.fnExactReducedModelSpec.plain.varTypes Try.prog).any (Try.prog.ifacesRec ·)) = true := by kernel_rfl
theorem c15 : (Rows.fnExactReducedModelRow.mapsOut == Try.prog.mapsAmong Try.f7.resultTypes.toList) = true := by kernel_rfl
theorem c16 : (Rows.fnExactReducedModelRow.loops == (Try.f7.params.toList ++ Rows.fnExactReducedModelSpec.plain.varTypes Try.prog).any (Try.prog.loopsFrom ·)) = true := by kernel_rfl
theorem c17 : (Rows.fnExactReducedModelRow.wideKeys == (Try.f7.params.toList ++ Rows.fnExactReducedModelSpec.plain.varTypes Try.prog ++ Try.f7.resultTypes.toList).any (Try.prog.wideKeysFrom ·)) = true := by kernel_rfl
theorem c18 : (Rows.fnExactReducedModelSpec.vars.all (Try.prog.varReadable ·)) = true := by kernel_rfl
theorem c19 : (Try.f7.resultTypes.all (fun t => Try.prog.readableRec t && decide (t < Try.prog.types.size))) = true := by kernel_rfl
theorem c20 : (Rows.fnExactReducedModelRow.ifacesOut == Try.f7.resultTypes.toList.any (Try.prog.ifacesRec ·)) = true := by kernel_rfl
theorem c21 : (Rows.fnExactReducedModelRow.loopsOut == Try.f7.resultTypes.toList.any (Try.prog.loopsFrom ·)) = true := by kernel_rfl
theorem c22 : (Rows.fnExactReducedModelRow.plainKeys == Try.prog.plainKeys) = true := by kernel_rfl
theorem c23 : (Rows.fnExactReducedModelRow.shortTexts.isNone) = true := by kernel_rfl
theorem c26 : (Rows.fnExactReducedModelRow.lifted == Try.prog.liftsFinal) = true := by kernel_rfl
theorem c27 : (Try.prog.make == some Rows.fnExactReducedModelRow.make) = true := by kernel_rfl
theorem c28 : (Rows.fnExactReducedModelRow.kinds == (if Rows.fnExactReducedModelRow.domain.isEmpty then [] else Try.f7.params.toList.map fun t => match Try.prog.underlying t with | some (.int k) => some k | _ => none)) = true := by kernel_rfl
theorem c29 : (Rows.fnExactReducedModelRow.pinned == Rows.fnExactReducedModelRow.pinnedBy) = true := by kernel_rfl
theorem c30 : (Rows.fnExactReducedModelRow.veiled == (Try.f7.params.toList ++ Rows.fnExactReducedModelSpec.plain.varTypes Try.prog ++ Try.f7.resultTypes.toList).any (Try.prog.veiledRec ·)) = true := by kernel_rfl
theorem c31 : (Rows.fnExactReducedModelRow.veiledFits Try.prog Try.f7.params.toList (Try.f7.params.toList ++ Rows.fnExactReducedModelSpec.plain.varTypes Try.prog ++ Try.f7.resultTypes.toList)) = true := by kernel_rfl

set_option maxRecDepth 100000 in
theorem closed : joinedFacts Try.prog 7 Try.f7 Rows.fnExactReducedModelSpec Rows.fnExactReducedModelRow = true := by
  unfold joinedFacts
  exact and_mk (and_mk (and_mk (and_mk (and_mk (and_mk (and_mk (and_mk (and_mk (and_mk (and_mk (and_mk (and_mk (and_mk (and_mk (and_mk (and_mk (and_mk (and_mk (and_mk (and_mk (and_mk (and_mk (and_mk (and_mk (and_mk (and_mk (and_mk (and_mk (and_mk (and_mk (c0) jLaid) jMaps) c3) c4) c5) jStops) c7) jKnobs) c9) c10) c11) c12) c13) c14) c15) c16) c17) c18) c19) c20) c21) c22) c23) jHeard) jEnter) c26) c27) c28) c29) c30) c31
theorem named : Try.prog.funcNamed Rows.fnExactReducedModelRow.func = some 7 := by kernel_rfl
theorem inst : Try.f7.isInstance Try.prog Rows.fnExactReducedModelRow.origin Rows.fnExactReducedModelRow.targs := of_decide_eq_true (by kernel_rfl)
theorem wrap : Try.f7.isWrapper Try.prog Rows.fnExactReducedModelRow.wrapper Rows.fnExactReducedModelRow.mainSum := by unfold Func.isWrapper; first | (rw [if_pos (by decide +kernel)]; kernel_rfl) | (rw [if_neg (by decide +kernel)]; exact ⟨rfl, rfl⟩)
theorem proved : Rows.FnExactReducedModelSaid :=
  OpenClaim.holds_of_wide 7 Try.f7 rfl rfl rfl rfl rfl rfl rfl ⟨rfl, rfl, rfl, rfl, rfl⟩ rfl rfl rfl rfl rfl named Try.func7 closed
    inst wrap (fun os started H enc _ => lifted os started H enc)
#print axioms proved
end Go.Proofs.Ytomldealpmohhaa.fnExactReducedModel
