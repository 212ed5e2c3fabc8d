/- Proved: for every input the Go law laws.FnExactPointsHold returns true, and each argument reads behind the call as it read before (the given statement Rows.FnExactPointsHoldSaid). Conditions: none beside those of the statement. -/
import Derived.Test.YtbfnagmjnaacoaaRows
import Derived.Test.YtbfnagmjnaacoaaFacts
import Derived.Test.YtbfnagmjnaacoaaLawPh
import Derived.WalkKit
import Derived.ProofKit
import Derived.OpenShut
import Derived.ShutString
import Derived.ChangeOld
import Derived.Below
import Derived.Lib.SmallJoins
namespace Go.Proofs.Ytbfnagmjnaacoaa.fnExactPointsHold
open Go.ChangeShapes Go.WideShapes Go.ChangeAt Go.RowKit
open Go.ChangeMaps (open_string shut_string)
set_option linter.unusedVariables false

theorem walk (n0 : Int) (a0 : Option Addr) (len0 cap0 : Nat) (z0 : List Int) (b0 : Option Addr) (m0 d0 : Nat) (y0 : List Int) (a1 : Option Addr) (len1 cap1 : Nat) (z1 : List Pd) (a2 : Option Addr) (len2 cap2 : Nat) (z2 : List Int) (w : World) (w0 : IsMod w a0 len0 z0 b0 m0 y0) (w1 : IsPts w a1 len1 z1) (w2 : IsRow .i64 w a2 len2 cap2 z2) :
    Calls Try.prog 4 #[.agg #[.int .i64 n0, .slice a0 len0 cap0, .slice b0 m0 d0], .slice a1 len1 cap1, .slice a2 len2 cap2] w fun e w' => e = .returned (.bool true) ∧ Below w.heap.size w w' :=
  lawPointsHold n0 z0 y0 z1 (z2.take len2) a0 len0 cap0 b0 m0 d0 a1 len1 cap1 a2 len2 cap2 w w0 w1 (At.of_row w2)

set_option maxRecDepth 100000 in
theorem lifted (os : Os) (started : os.Started) (H : Type) (enc : TypeId × Value → H) :
    ReturnsInHanded {} Try.checked os 4 .any (Rows.fnExactPointsHoldSpec.pre6 enc Try.prog Try.f4 Rows.fnExactPointsHoldRow.domain false) (Rows.fnExactPointsHoldSpec.post enc Try.prog Try.f4 false true false false) := by
  refine returnsInHanded_of_change (C := Try.checked) own started (by kernel_rfl) Try.func4
    (ChangeSpec.witness6 (enc := enc) (C := Try.checked) false ⟨#[], #[.agg #[.int .i64 0, .slice none 0 0, .slice none 0 0], .slice none 0 0, .slice none 0 0], []⟩ 8 (by kernel_rfl) (by kernel_rfl) (by kernel_rfl) (by kernel_rfl)) ?_
  intro W base args ds gs before hval0 hW hcnd _
  have hval : ∀ (j : Nat) t v, Try.f4.params[j]? = some t → args[j]? = some v → Value.okWide Try.prog W .any base t v := hval0
  have hW' := hW
  obtain ⟨p, q, hA0, hV, rfl, hfz, hnd⟩ := hW
  have hA : DataW.TrodAll enc Try.prog W 0 (fun _ => true) true Try.f4.params.toList args.toList ds p := hA0
  rw [Try.params4] at hA hval
  obtain ⟨v0, vs0, d0, ds0, p0, q0, hargs, rfl, rfl, h0, r0⟩ := trodAll_cons hA
  obtain ⟨v1, vs1, d1, ds1, p1, q1, rfl, rfl, rfl, h1, r1⟩ := trodAll_cons r0
  obtain ⟨v2, vs2, d2, ds2, p2, q2, rfl, rfl, rfl, h2, r2⟩ := trodAll_cons r1
  obtain ⟨rfl, rfl, rfl⟩ := trodAll_nil r2
  obtain rfl : args = #[v0, v1, v2] := by cases args; simp_all
  obtain ⟨rfl, rfl⟩ := trodVars_none hV
  have k0 := h0
  have lt0 : ∀ x ∈ p0, x.block < W.heap.size := by obtain ⟨m, hm⟩ := k0; exact DataW.trod_lt m _ _ _ hm
  obtain ⟨cs0, rfl, hsz0⟩ := okWide_struct Try.underlying32 (hval 0 32 v0 rfl rfl)
  obtain ⟨ca0, cb0, cc0, rfl⟩ := Joins.array3 (hsz0.trans (by kernel_rfl))
  obtain ⟨fu0, hf0⟩ := h0
  obtain ⟨t0, u0, q0, hx0, -, ht0, hu0⟩ := trod_struct2 Try.underlying32 hf0
  rw [show Try.prog.cellsOf 30 = 2 from by kernel_rfl] at ht0
  rw [show Try.prog.cellsOf 28 = 1 from by kernel_rfl] at hu0
  obtain ⟨t'0, u'0, q'0, hx'0, -, ht'0, hu'0⟩ := trod_struct2 Try.underlying30 ht0
  rw [show Try.prog.cellsOf 2 = 1 from by kernel_rfl] at ht'0
  rw [show Try.prog.cellsOf 28 = 1 from by kernel_rfl] at hu'0
  replace ht'0 : DataW.trod enc Try.prog W 0 (fun _ => true) true q'0 2 [ca0] = some t'0 := ht'0
  replace hu'0 : DataW.trod enc Try.prog W 0 (fun _ => true) true q'0 28 [cb0] = some u'0 := hu'0
  replace hu0 : DataW.trod enc Try.prog W 0 (fun _ => true) true q0 28 [cc0] = some u0 := hu0
  obtain ⟨n0, hn0, -, wn0⟩ := DataW.trod_int Try.underlying2 ht'0
  simp at hn0
  subst hn0
  obtain ⟨a0, len0, cap0, z0, he0, w0⟩ : ∃ a len cap zs, cb0 = .slice a len cap ∧ IsArr W a len zs := by
    rcases open_ints Try.underlying28 Try.underlying2 (by kernel_rfl) hu'0 with ⟨hcs, _⟩ | ⟨x, l, c, zs, hcs, _, hl, hm, hz, _, hcell, hwz⟩
    · simp at hcs
      exact ⟨_, _, _, [], hcs, At.of_row (cap := 0) (.inl ⟨rfl, rfl, rfl, rfl⟩), Nat.zero_le _⟩
    · simp at hcs
      exact ⟨_, _, _, _, hcs, At.of_row (cap := c) (.inr ⟨x, rfl, hl, hm, by simpa using hz, hcell, hwz⟩), Nat.le_trans hl hm⟩
  obtain ⟨b0, m0, d0, y0, he'0, w'0⟩ : ∃ a len cap zs, cc0 = .slice a len cap ∧ IsArr W a len zs := by
    rcases open_ints Try.underlying28 Try.underlying2 (by kernel_rfl) hu0 with ⟨hcs, _⟩ | ⟨x, l, c, zs, hcs, _, hl, hm, hz, _, hcell, hwz⟩
    · simp at hcs
      exact ⟨_, _, _, [], hcs, At.of_row (cap := 0) (.inl ⟨rfl, rfl, rfl, rfl⟩), Nat.zero_le _⟩
    · simp at hcs
      exact ⟨_, _, _, _, hcs, At.of_row (cap := c) (.inr ⟨x, rfl, hl, hm, by simpa using hz, hcell, hwz⟩), Nat.le_trans hl hm⟩
  subst he0 he'0
  obtain ⟨a1, len1, cap1, rfl⟩ := okWide_slice Try.underlying33 (hval 1 33 v1 rfl rfl)
  have k1 := h1
  have lt1 : ∀ x ∈ p1, x.block < W.heap.size := by obtain ⟨m, hm⟩ := k1; exact DataW.trod_lt m _ _ _ hm
  obtain ⟨z1, w1⟩ : ∃ zs, IsPts W a1 len1 zs := by
    obtain ⟨fuel, hf⟩ := h1
    obtain ⟨a', len', cap', xs, hcs, hn⟩ := open_points Try.underlying33 Try.underlying83 Try.underlying2 Try.underlying2 Try.underlying2 (by kernel_rfl) (by kernel_rfl) hf
    simp [Value.cells] at hcs
    obtain ⟨rfl, rfl, rfl⟩ := hcs
    exact ⟨xs, hn⟩
  obtain ⟨a2, len2, cap2, rfl⟩ := okWide_slice Try.underlying28 (hval 2 28 v2 rfl rfl)
  have k2 := h2
  have lt2 : ∀ x ∈ p2, x.block < W.heap.size := by obtain ⟨m, hm⟩ := k2; exact DataW.trod_lt m _ _ _ hm
  obtain ⟨z2, w2⟩ : ∃ zs, IsRow .i64 W a2 len2 cap2 zs := by
    obtain ⟨fuel, hf⟩ := h2
    rcases open_ints Try.underlying28 Try.underlying2 (by kernel_rfl) hf with ⟨hcs, _⟩ | ⟨x, l, c, zs, hcs, _, hl, hm, hz, _, hcell, hwz⟩
    · simp [Value.cells] at hcs
      obtain ⟨rfl, rfl, rfl⟩ := hcs
      exact ⟨[], .inl ⟨rfl, rfl, rfl, rfl⟩⟩
    · simp [Value.cells] at hcs
      obtain ⟨rfl, rfl, rfl⟩ := hcs
      exact ⟨zs, .inr ⟨_, rfl, hl, hm, by simpa using hz, hcell, hwz⟩⟩
  clear hA0 hval0
  refine (walk n0 a0 len0 cap0 z0 b0 m0 d0 y0 a1 len1 cap1 z1 a2 len2 cap2 z2 W ⟨w0, w'0⟩ w1 w2).mono fun e W' ⟨he, bel⟩ => ?_
  subst he
  exact ⟨_, rfl, _, _, _, [], _, [], hW', trodAll_mk1 (shut_bool Try.underlying4 _), (trodAll_cons_mk (Below.trod laidOut (by kernel_rfl) (of_decide_eq_true (by kernel_rfl)) k0 bel lt0) (trodAll_cons_mk (Below.trod laidOut (by kernel_rfl) (of_decide_eq_true (by kernel_rfl)) k1 bel lt1) (trodAll_cons_mk (Below.trod laidOut (by kernel_rfl) (of_decide_eq_true (by kernel_rfl)) k2 bel lt2) trodAll_mk0))), rfl, bel.frame _, fun h => by cases h⟩

theorem c0 : (Rows.fnExactPointsHoldRow.wf (OpenSpec.ofChange Rows.fnExactPointsHoldSpec)) = true := by kernel_rfl
theorem c3 : (Try.f4.params.all (Try.prog.readableRec ·)) = true := by kernel_rfl
theorem c4 : (namedTie Try.prog Rows.fnExactPointsHoldRow.named Rows.fnExactPointsHoldSpec.vars) = true := by kernel_rfl
theorem c5 : (Rows.fnExactPointsHoldRow.stops == []) = true := by kernel_rfl
theorem c7 : (Rows.fnExactPointsHoldRow.knobs == []) = true := by kernel_rfl
theorem c9 : (Rows.fnExactPointsHoldRow.inPlace == Try.prog.inPlace 4) = true := by kernel_rfl
theorem c10 : (Rows.fnExactPointsHoldRow.unfollowed == Try.prog.unfollowed 4) = true := by kernel_rfl
theorem c11 : (Rows.fnExactPointsHoldRow.recurses == Try.prog.recurses 4) = true := by kernel_rfl
theorem c12 : (Rows.fnExactPointsHoldRow.named == Try.prog.varsNamed 4) = true := by kernel_rfl
theorem c13 : (Rows.fnExactPointsHoldRow.maps == (Try.f4.params.toList ++ Rows.fnExactPointsHoldSpec.plain.varTypes Try.prog).any (Try.prog.mapsRec ·)) = true := by kernel_rfl
theorem c14 : (Rows.fnExactPointsHoldRow.ifaces == (Try.f4.params.toList ++ Rows.fnExactPointsHoldSpec.plain.varTypes Try.prog).any (Try.prog.ifacesRec ·)) = true := by kernel_rfl
theorem c15 : (Rows.fnExactPointsHoldRow.mapsOut == Try.prog.mapsAmong Try.f4.resultTypes.toList) = true := by kernel_rfl
theorem c16 : (Rows.fnExactPointsHoldRow.loops == (Try.f4.params.toList ++ Rows.fnExactPointsHoldSpec.plain.varTypes Try.prog).any (Try.prog.loopsFrom ·)) = true := by kernel_rfl
theorem c17 : (Rows.fnExactPointsHoldRow.wideKeys == (Try.f4.params.toList ++ Rows.fnExactPointsHoldSpec.plain.varTypes Try.prog ++ Try.f4.resultTypes.toList).any (Try.prog.wideKeysFrom ·)) = true := by kernel_rfl
theorem c18 : (Rows.fnExactPointsHoldSpec.vars.all (Try.prog.varReadable ·)) = true := by kernel_rfl
theorem c19 : (Try.f4.resultTypes.all (fun t => Try.prog.readableRec t && decide (t < Try.prog.types.size))) = true := by kernel_rfl
theorem c20 : (Rows.fnExactPointsHoldRow.ifacesOut == Try.f4.resultTypes.toList.any (Try.prog.ifacesRec ·)) = true := by kernel_rfl
theorem c21 : (Rows.fnExactPointsHoldRow.loopsOut == Try.f4.resultTypes.toList.any (Try.prog.loopsFrom ·)) = true := by kernel_rfl
theorem c22 : (Rows.fnExactPointsHoldRow.plainKeys == Try.prog.plainKeys) = true := by kernel_rfl
theorem c23 : (Rows.fnExactPointsHoldRow.shortTexts.isNone) = true := by kernel_rfl
theorem c26 : (Rows.fnExactPointsHoldRow.lifted == Try.prog.liftsFinal) = true := by kernel_rfl
theorem c27 : (Try.prog.make == some Rows.fnExactPointsHoldRow.make) = true := by kernel_rfl
theorem c28 : (Rows.fnExactPointsHoldRow.kinds == (if Rows.fnExactPointsHoldRow.domain.isEmpty then [] else Try.f4.params.toList.map fun t => match Try.prog.underlying t with | some (.int k) => some k | _ => none)) = true := by kernel_rfl
theorem c29 : (Rows.fnExactPointsHoldRow.pinned == Rows.fnExactPointsHoldRow.pinnedBy) = true := by kernel_rfl
theorem c30 : (Rows.fnExactPointsHoldRow.veiled == (Try.f4.params.toList ++ Rows.fnExactPointsHoldSpec.plain.varTypes Try.prog ++ Try.f4.resultTypes.toList).any (Try.prog.veiledRec ·)) = true := by kernel_rfl
theorem c31 : (Rows.fnExactPointsHoldRow.veiledFits Try.prog Try.f4.params.toList (Try.f4.params.toList ++ Rows.fnExactPointsHoldSpec.plain.varTypes Try.prog ++ Try.f4.resultTypes.toList)) = true := by kernel_rfl

set_option maxRecDepth 100000 in
theorem closed : joinedFacts Try.prog 4 Try.f4 Rows.fnExactPointsHoldSpec Rows.fnExactPointsHoldRow = true := by
  unfold joinedFacts
  exact and_mk (and_mk (and_mk (and_mk (and_mk (and_mk (and_mk (and_mk (and_mk (and_mk (and_mk (and_mk (and_mk (and_mk (and_mk (and_mk (and_mk (and_mk (and_mk (and_mk (and_mk (and_mk (and_mk (and_mk (and_mk (and_mk (and_mk (and_mk (and_mk (and_mk (and_mk (c0) jLaid) jMaps) c3) c4) c5) jStops) c7) jKnobs) c9) c10) c11) c12) c13) c14) c15) c16) c17) c18) c19) c20) c21) c22) c23) jHeard) jEnter) c26) c27) c28) c29) c30) c31
theorem named : Try.prog.funcNamed Rows.fnExactPointsHoldRow.func = some 4 := by kernel_rfl
theorem inst : Try.f4.isInstance Try.prog Rows.fnExactPointsHoldRow.origin Rows.fnExactPointsHoldRow.targs := of_decide_eq_true (by kernel_rfl)
theorem wrap : Try.f4.isWrapper Try.prog Rows.fnExactPointsHoldRow.wrapper Rows.fnExactPointsHoldRow.mainSum := by unfold Func.isWrapper; first | (rw [if_pos (by decide +kernel)]; kernel_rfl) | (rw [if_neg (by decide +kernel)]; exact ⟨rfl, rfl⟩)
theorem proved : Rows.FnExactPointsHoldSaid :=
  OpenClaim.holds_of_wide 4 Try.f4 rfl rfl rfl rfl rfl rfl rfl ⟨rfl, rfl, rfl, rfl, rfl⟩ rfl rfl rfl rfl rfl named Try.func4 closed
    inst wrap (fun os started H enc _ => lifted os started H enc)
#print axioms proved
end Go.Proofs.Ytbfnagmjnaacoaa.fnExactPointsHold
