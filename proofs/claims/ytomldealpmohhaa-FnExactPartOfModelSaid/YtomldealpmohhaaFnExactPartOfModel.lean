/- Proved: for every input the Go law laws.FnExactPartOfModel returns true, and each argument reads behind the call as it read before (the given statement Rows.FnExactPartOfModelSaid). Conditions: none beside those of the statement. -/
import Derived.Test.YtomldealpmohhaaRows
import Derived.Test.YtomldealpmohhaaFacts
import Derived.Test.YtomldealpmohhaaLawPm
import Derived.WalkKit
import Derived.ProofKit
import Derived.OpenShut
import Derived.ShutString
import Derived.ChangeOld
import Derived.Below
import Derived.Lib.SmallJoins
namespace Go.Proofs.Ytomldealpmohhaa.fnExactPartOfModel
open Go.ChangeShapes Go.WideShapes Go.ChangeAt Go.RowKit
open Go.ChangeMaps (open_string shut_string)
set_option linter.unusedVariables false

theorem walk (n0 : Int) (a0 : Option Addr) (len0 cap0 : Nat) (z0 : List Int) (b0 : Option Addr) (m0 d0 : Nat) (y0 : List Int) (a1 : Int) (w : World) (w0 : IsMod w a0 len0 z0 b0 m0 y0) (w1 : (Lit.int .i64 a1).wf = true) :
    Calls Try.prog 6 #[.agg #[.int .i64 n0, .slice a0 len0 cap0, .slice b0 m0 d0], .int .i64 a1] w fun e w' => e = .returned (.bool true) ∧ Below w.heap.size w w' :=
  lawPartOfModel n0 z0 y0 a1 a0 len0 cap0 b0 m0 d0 w w0

set_option maxRecDepth 100000 in
theorem lifted (os : Os) (started : os.Started) (H : Type) (enc : TypeId × Value → H) :
    ReturnsInHanded {} Try.checked os 6 .any (Rows.fnExactPartOfModelSpec.pre6 enc Try.prog Try.f6 Rows.fnExactPartOfModelRow.domain false) (Rows.fnExactPartOfModelSpec.post enc Try.prog Try.f6 false true false false) := by
  refine returnsInHanded_of_change (C := Try.checked) own started (by kernel_rfl) Try.func6
    (ChangeSpec.witness6 (enc := enc) (C := Try.checked) false ⟨#[], #[.agg #[.int .i64 0, .slice none 0 0, .slice none 0 0], .int .i64 0], []⟩ 8 (by kernel_rfl) (by kernel_rfl) (by kernel_rfl) (by kernel_rfl)) ?_
  intro W base args ds gs before hval0 hW hcnd _
  have hval : ∀ (j : Nat) t v, Try.f6.params[j]? = some t → args[j]? = some v → Value.okWide Try.prog W .any base t v := hval0
  have hW' := hW
  obtain ⟨p, q, hA0, hV, rfl, hfz, hnd⟩ := hW
  have hA : DataW.TrodAll enc Try.prog W 0 (fun _ => true) true Try.f6.params.toList args.toList ds p := hA0
  rw [Try.params6] at hA hval
  obtain ⟨v0, vs0, d0, ds0, p0, q0, hargs, rfl, rfl, h0, r0⟩ := trodAll_cons hA
  obtain ⟨v1, vs1, d1, ds1, p1, q1, rfl, rfl, rfl, h1, r1⟩ := trodAll_cons r0
  obtain ⟨rfl, rfl, rfl⟩ := trodAll_nil r1
  obtain rfl : args = #[v0, v1] := by cases args; simp_all
  obtain ⟨rfl, rfl⟩ := trodVars_none hV
  have k0 := h0
  have lt0 : ∀ x ∈ p0, x.block < W.heap.size := by obtain ⟨m, hm⟩ := k0; exact DataW.trod_lt m _ _ _ hm
  obtain ⟨cs0, rfl, hsz0⟩ := okWide_struct Try.underlying26 (hval 0 26 v0 rfl rfl)
  obtain ⟨ca0, cb0, cc0, rfl⟩ := Joins.array3 (hsz0.trans (by kernel_rfl))
  obtain ⟨fu0, hf0⟩ := h0
  obtain ⟨t0, u0, q0, hx0, -, ht0, hu0⟩ := trod_struct2 Try.underlying26 hf0
  rw [show Try.prog.cellsOf 24 = 2 from by kernel_rfl] at ht0
  rw [show Try.prog.cellsOf 22 = 1 from by kernel_rfl] at hu0
  obtain ⟨t'0, u'0, q'0, hx'0, -, ht'0, hu'0⟩ := trod_struct2 Try.underlying24 ht0
  rw [show Try.prog.cellsOf 2 = 1 from by kernel_rfl] at ht'0
  rw [show Try.prog.cellsOf 22 = 1 from by kernel_rfl] at hu'0
  replace ht'0 : DataW.trod enc Try.prog W 0 (fun _ => true) true q'0 2 [ca0] = some t'0 := ht'0
  replace hu'0 : DataW.trod enc Try.prog W 0 (fun _ => true) true q'0 22 [cb0] = some u'0 := hu'0
  replace hu0 : DataW.trod enc Try.prog W 0 (fun _ => true) true q0 22 [cc0] = some u0 := hu0
  obtain ⟨n0, hn0, -, wn0⟩ := DataW.trod_int Try.underlying2 ht'0
  simp at hn0
  subst hn0
  obtain ⟨a0, len0, cap0, z0, he0, w0⟩ : ∃ a len cap zs, cb0 = .slice a len cap ∧ IsArr W a len zs := by
    rcases open_ints Try.underlying22 Try.underlying2 (by kernel_rfl) hu'0 with ⟨hcs, _⟩ | ⟨x, l, c, zs, hcs, _, hl, hm, hz, _, hcell, hwz⟩
    · simp at hcs
      exact ⟨_, _, _, [], hcs, At.of_row (cap := 0) (.inl ⟨rfl, rfl, rfl, rfl⟩), Nat.zero_le _⟩
    · simp at hcs
      exact ⟨_, _, _, _, hcs, At.of_row (cap := c) (.inr ⟨x, rfl, hl, hm, by simpa using hz, hcell, hwz⟩), Nat.le_trans hl hm⟩
  obtain ⟨b0, m0, d0, y0, he'0, w'0⟩ : ∃ a len cap zs, cc0 = .slice a len cap ∧ IsArr W a len zs := by
    rcases open_ints Try.underlying22 Try.underlying2 (by kernel_rfl) hu0 with ⟨hcs, _⟩ | ⟨x, l, c, zs, hcs, _, hl, hm, hz, _, hcell, hwz⟩
    · simp at hcs
      exact ⟨_, _, _, [], hcs, At.of_row (cap := 0) (.inl ⟨rfl, rfl, rfl, rfl⟩), Nat.zero_le _⟩
    · simp at hcs
      exact ⟨_, _, _, _, hcs, At.of_row (cap := c) (.inr ⟨x, rfl, hl, hm, by simpa using hz, hcell, hwz⟩), Nat.le_trans hl hm⟩
  subst he0 he'0
  obtain ⟨a1, rfl, rfl, rfl, w1⟩ := open_int Try.underlying2 (hval 1 2 v1 rfl rfl) h1
  clear hA0 hval0
  refine (walk n0 a0 len0 cap0 z0 b0 m0 d0 y0 a1 W ⟨w0, w'0⟩ w1).mono fun e W' ⟨he, bel⟩ => ?_
  subst he
  exact ⟨_, rfl, _, _, _, [], _, [], hW', trodAll_mk1 (shut_bool Try.underlying4 _), (trodAll_cons_mk (Below.trod laidOut (by kernel_rfl) (of_decide_eq_true (by kernel_rfl)) k0 bel lt0) (trodAll_cons_mk (shut_int Try.underlying2 w1) trodAll_mk0)), rfl, bel.frame _, fun h => by cases h⟩

theorem c0 : (Rows.fnExactPartOfModelRow.wf (OpenSpec.ofChange Rows.fnExactPartOfModelSpec)) = true := by kernel_rfl
theorem c3 : (Try.f6.params.all (Try.prog.readableRec ·)) = true := by kernel_rfl
theorem c4 : (namedTie Try.prog Rows.fnExactPartOfModelRow.named Rows.fnExactPartOfModelSpec.vars) = true := by kernel_rfl
theorem c5 : (Rows.fnExactPartOfModelRow.stops == []) = true := by kernel_rfl
theorem c7 : (Rows.fnExactPartOfModelRow.knobs == []) = true := by kernel_rfl
theorem c9 : (Rows.fnExactPartOfModelRow.inPlace == Try.prog.inPlace 6) = true := by kernel_rfl
theorem c10 : (Rows.fnExactPartOfModelRow.unfollowed == Try.prog.unfollowed 6) = true := by kernel_rfl
theorem c11 : (Rows.fnExactPartOfModelRow.recurses == Try.prog.recurses 6) = true := by kernel_rfl
theorem c12 : (Rows.fnExactPartOfModelRow.named == Try.prog.varsNamed 6) = true := by kernel_rfl
theorem c13 : (Rows.fnExactPartOfModelRow.maps == (Try.f6.params.toList ++ Rows.fnExactPartOfModelSpec.plain.varTypes Try.prog).any (Try.prog.mapsRec ·)) = true := by kernel_rfl
theorem c14 : (Rows.fnExactPartOfModelRow.ifaces == (Try.f6.params.toList ++ Rows.fnExactPartOfModelSpec.plain.varTypes Try.prog).any (Try.prog.ifacesRec ·)) = true := by kernel_rfl
theorem c15 : (Rows.fnExactPartOfModelRow.mapsOut == Try.prog.mapsAmong Try.f6.resultTypes.toList) = true := by kernel_rfl
theorem c16 : (Rows.fnExactPartOfModelRow.loops == (Try.f6.params.toList ++ Rows.fnExactPartOfModelSpec.plain.varTypes Try.prog).any (Try.prog.loopsFrom ·)) = true := by kernel_rfl
theorem c17 : (Rows.fnExactPartOfModelRow.wideKeys == (Try.f6.params.toList ++ Rows.fnExactPartOfModelSpec.plain.varTypes Try.prog ++ Try.f6.resultTypes.toList).any (Try.prog.wideKeysFrom ·)) = true := by kernel_rfl
theorem c18 : (Rows.fnExactPartOfModelSpec.vars.all (Try.prog.varReadable ·)) = true := by kernel_rfl
theorem c19 : (Try.f6.resultTypes.all (fun t => Try.prog.readableRec t && decide (t < Try.prog.types.size))) = true := by kernel_rfl
theorem c20 : (Rows.fnExactPartOfModelRow.ifacesOut == Try.f6.resultTypes.toList.any (Try.prog.ifacesRec ·)) = true := by kernel_rfl
theorem c21 : (Rows.fnExactPartOfModelRow.loopsOut == Try.f6.resultTypes.toList.any (Try.prog.loopsFrom ·)) = true := by kernel_rfl
theorem c22 : (Rows.fnExactPartOfModelRow.plainKeys == Try.prog.plainKeys) = true := by kernel_rfl
theorem c23 : (Rows.fnExactPartOfModelRow.shortTexts.isNone) = true := by kernel_rfl
theorem c26 : (Rows.fnExactPartOfModelRow.lifted == Try.prog.liftsFinal) = true := by kernel_rfl
theorem c27 : (Try.prog.make == some Rows.fnExactPartOfModelRow.make) = true := by kernel_rfl
theorem c28 : (Rows.fnExactPartOfModelRow.kinds == (if Rows.fnExactPartOfModelRow.domain.isEmpty then [] else Try.f6.params.toList.map fun t => match Try.prog.underlying t with | some (.int k) => some k | _ => none)) = true := by kernel_rfl
theorem c29 : (Rows.fnExactPartOfModelRow.pinned == Rows.fnExactPartOfModelRow.pinnedBy) = true := by kernel_rfl
theorem c30 : (Rows.fnExactPartOfModelRow.veiled == (Try.f6.params.toList ++ Rows.fnExactPartOfModelSpec.plain.varTypes Try.prog ++ Try.f6.resultTypes.toList).any (Try.prog.veiledRec ·)) = true := by kernel_rfl
theorem c31 : (Rows.fnExactPartOfModelRow.veiledFits Try.prog Try.f6.params.toList (Try.f6.params.toList ++ Rows.fnExactPartOfModelSpec.plain.varTypes Try.prog ++ Try.f6.resultTypes.toList)) = true := by kernel_rfl

set_option maxRecDepth 100000 in
theorem closed : joinedFacts Try.prog 6 Try.f6 Rows.fnExactPartOfModelSpec Rows.fnExactPartOfModelRow = true := by
  unfold joinedFacts
  exact and_mk (and_mk (and_mk (and_mk (and_mk (and_mk (and_mk (and_mk (and_mk (and_mk (and_mk (and_mk (and_mk (and_mk (and_mk (and_mk (and_mk (and_mk (and_mk (and_mk (and_mk (and_mk (and_mk (and_mk (and_mk (and_mk (and_mk (and_mk (and_mk (and_mk (and_mk (c0) jLaid) jMaps) c3) c4) c5) jStops) c7) jKnobs) c9) c10) c11) c12) c13) c14) c15) c16) c17) c18) c19) c20) c21) c22) c23) jHeard) jEnter) c26) c27) c28) c29) c30) c31
theorem named : Try.prog.funcNamed Rows.fnExactPartOfModelRow.func = some 6 := by kernel_rfl
theorem inst : Try.f6.isInstance Try.prog Rows.fnExactPartOfModelRow.origin Rows.fnExactPartOfModelRow.targs := of_decide_eq_true (by kernel_rfl)
theorem wrap : Try.f6.isWrapper Try.prog Rows.fnExactPartOfModelRow.wrapper Rows.fnExactPartOfModelRow.mainSum := by unfold Func.isWrapper; first | (rw [if_pos (by decide +kernel)]; kernel_rfl) | (rw [if_neg (by decide +kernel)]; exact ⟨rfl, rfl⟩)
theorem proved : Rows.FnExactPartOfModelSaid :=
  OpenClaim.holds_of_wide 6 Try.f6 rfl rfl rfl rfl rfl rfl rfl ⟨rfl, rfl, rfl, rfl, rfl⟩ rfl rfl rfl rfl rfl named Try.func6 closed
    inst wrap (fun os started H enc _ => lifted os started H enc)
#print axioms proved
end Go.Proofs.Ytomldealpmohhaa.fnExactPartOfModel
