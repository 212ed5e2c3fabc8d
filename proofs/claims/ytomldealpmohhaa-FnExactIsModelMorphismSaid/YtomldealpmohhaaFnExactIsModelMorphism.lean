/- Proved: for every input the Go law laws.FnExactIsModelMorphism returns true, and each argument reads behind the call as it read before (the given statement Rows.FnExactIsModelMorphismSaid). Conditions: none beside those of the statement. -/
import Derived.Test.YtomldealpmohhaaRows
import Derived.Test.YtomldealpmohhaaFacts
import Derived.Test.YtomldealpmohhaaLawMm
import Derived.WalkKit
import Derived.ProofKit
import Derived.OpenShut
import Derived.ShutString
import Derived.ChangeOld
import Derived.Below
import Derived.Lib.SmallJoins
namespace Go.Proofs.Ytomldealpmohhaa.fnExactIsModelMorphism
open Go.ChangeShapes Go.WideShapes Go.ChangeAt Go.RowKit
open Go.ChangeMaps (open_string shut_string)
set_option linter.unusedVariables false

theorem walk (n0 : Int) (a0 : Option Addr) (len0 cap0 : Nat) (z0 : List Int) (b0 : Option Addr) (m0 d0 : Nat) (y0 : List Int) (n1 : Int) (a1 : Option Addr) (len1 cap1 : Nat) (z1 : List Int) (b1 : Option Addr) (m1 d1 : Nat) (y1 : List Int) (a2 : Option Addr) (len2 cap2 : Nat) (z2 : List Int) (w : World) (w0 : IsMod w a0 len0 z0 b0 m0 y0) (w1 : IsMod w a1 len1 z1 b1 m1 y1) (w2 : IsRow .i64 w a2 len2 cap2 z2) :
    Calls Try.prog 10 #[.agg #[.int .i64 n0, .slice a0 len0 cap0, .slice b0 m0 d0], .agg #[.int .i64 n1, .slice a1 len1 cap1, .slice b1 m1 d1], .slice a2 len2 cap2] w fun e w' => e = .returned (.bool true) ∧ Below w.heap.size w w' :=
  lawIsModelMorphism n0 z0 y0 n1 z1 y1 (z2.take len2) a0 len0 cap0 b0 m0 d0 a1 len1 cap1 b1 m1 d1 a2 len2 cap2 w w0 w1 (At.of_row w2)

set_option maxRecDepth 100000 in
theorem lifted (os : Os) (started : os.Started) (H : Type) (enc : TypeId × Value → H) :
    ReturnsInHanded {} Try.checked os 10 .any (Rows.fnExactIsModelMorphismSpec.pre6 enc Try.prog Try.f10 Rows.fnExactIsModelMorphismRow.domain false) (Rows.fnExactIsModelMorphismSpec.post enc Try.prog Try.f10 false true false false) := by
  refine returnsInHanded_of_change (C := Try.checked) own started (by kernel_rfl) Try.func10
    (ChangeSpec.witness6 (enc := enc) (C := Try.checked) false ⟨#[], #[.agg #[.int .i64 0, .slice none 0 0, .slice none 0 0], .agg #[.int .i64 0, .slice none 0 0, .slice none 0 0], .slice none 0 0], []⟩ 8 (by kernel_rfl) (by kernel_rfl) (by kernel_rfl) (by kernel_rfl)) ?_
  intro W base args ds gs before hval0 hW hcnd _
  have hval : ∀ (j : Nat) t v, Try.f10.params[j]? = some t → args[j]? = some v → Value.okWide Try.prog W .any base t v := hval0
  have hW' := hW
  obtain ⟨p, q, hA0, hV, rfl, hfz, hnd⟩ := hW
  have hA : DataW.TrodAll enc Try.prog W 0 (fun _ => true) true Try.f10.params.toList args.toList ds p := hA0
  rw [Try.params10] at hA hval
  obtain ⟨v0, vs0, d0, ds0, p0, q0, hargs, rfl, rfl, h0, r0⟩ := trodAll_cons hA
  obtain ⟨v1, vs1, d1, ds1, p1, q1, rfl, rfl, rfl, h1, r1⟩ := trodAll_cons r0
  obtain ⟨v2, vs2, d2, ds2, p2, q2, rfl, rfl, rfl, h2, r2⟩ := trodAll_cons r1
  obtain ⟨rfl, rfl, rfl⟩ := trodAll_nil r2
  obtain rfl : args = #[v0, v1, v2] := by cases args; simp_all
  obtain ⟨rfl, rfl⟩ := trodVars_none hV
  have k0 := h0
  have lt0 : ∀ x ∈ p0, x.block < W.heap.size := by obtain ⟨m, hm⟩ := k0; exact DataW.trod_lt m _ _ _ hm
  obtain ⟨cs0, rfl, hsz0⟩ := okWide_struct Try.underlying26 (hval 0 26 v0 rfl rfl)
  obtain ⟨ca0, cb0, cc0, rfl⟩ := Joins.array3 (hsz0.trans (by kernel_rfl))
  obtain ⟨fu0, hf0⟩ := h0
  obtain ⟨t0, u0, q0, hx0, -, ht0, hu0⟩ := trod_struct2 Try.underlying26 hf0
  rw [show Try.prog.cellsOf 24 = 2 from by kernel_rfl] at ht0
  rw [show Try.prog.cellsOf 22 = 1 from by kernel_rfl] at hu0
  obtain ⟨t'0, u'0, q'0, hx'0, -, ht'0, hu'0⟩ := trod_struct2 Try.underlying24 ht0
  rw [show Try.prog.cellsOf 2 = 1 from by kernel_rfl] at ht'0
  rw [show Try.prog.cellsOf 22 = 1 from by kernel_rfl] at hu'0
  replace ht'0 : DataW.trod enc Try.prog W 0 (fun _ => true) true q'0 2 [ca0] = some t'0 := ht'0
  replace hu'0 : DataW.trod enc Try.prog W 0 (fun _ => true) true q'0 22 [cb0] = some u'0 := hu'0
  replace hu0 : DataW.trod enc Try.prog W 0 (fun _ => true) true q0 22 [cc0] = some u0 := hu0
  obtain ⟨n0, hn0, -, wn0⟩ := DataW.trod_int Try.underlying2 ht'0
  simp at hn0
  subst hn0
  obtain ⟨a0, len0, cap0, z0, he0, w0⟩ : ∃ a len cap zs, cb0 = .slice a len cap ∧ IsArr W a len zs := by
    rcases open_ints Try.underlying22 Try.underlying2 (by kernel_rfl) hu'0 with ⟨hcs, _⟩ | ⟨x, l, c, zs, hcs, _, hl, hm, hz, _, hcell, hwz⟩
    · simp at hcs
      exact ⟨_, _, _, [], hcs, At.of_row (cap := 0) (.inl ⟨rfl, rfl, rfl, rfl⟩), Nat.zero_le _⟩
    · simp at hcs
      exact ⟨_, _, _, _, hcs, At.of_row (cap := c) (.inr ⟨x, rfl, hl, hm, by simpa using hz, hcell, hwz⟩), Nat.le_trans hl hm⟩
  obtain ⟨b0, m0, d0, y0, he'0, w'0⟩ : ∃ a len cap zs, cc0 = .slice a len cap ∧ IsArr W a len zs := by
    rcases open_ints Try.underlying22 Try.underlying2 (by kernel_rfl) hu0 with ⟨hcs, _⟩ | ⟨x, l, c, zs, hcs, _, hl, hm, hz, _, hcell, hwz⟩
    · simp at hcs
      exact ⟨_, _, _, [], hcs, At.of_row (cap := 0) (.inl ⟨rfl, rfl, rfl, rfl⟩), Nat.zero_le _⟩
    · simp at hcs
      exact ⟨_, _, _, _, hcs, At.of_row (cap := c) (.inr ⟨x, rfl, hl, hm, by simpa using hz, hcell, hwz⟩), Nat.le_trans hl hm⟩
  subst he0 he'0
  have k1 := h1
  have lt1 : ∀ x ∈ p1, x.block < W.heap.size := by obtain ⟨m, hm⟩ := k1; exact DataW.trod_lt m _ _ _ hm
  obtain ⟨cs1, rfl, hsz1⟩ := okWide_struct Try.underlying26 (hval 1 26 v1 rfl rfl)
  obtain ⟨ca1, cb1, cc1, rfl⟩ := Joins.array3 (hsz1.trans (by kernel_rfl))
  obtain ⟨fu1, hf1⟩ := h1
  obtain ⟨t1, u1, q1, hx1, -, ht1, hu1⟩ := trod_struct2 Try.underlying26 hf1
  rw [show Try.prog.cellsOf 24 = 2 from by kernel_rfl] at ht1
  rw [show Try.prog.cellsOf 22 = 1 from by kernel_rfl] at hu1
  obtain ⟨t'1, u'1, q'1, hx'1, -, ht'1, hu'1⟩ := trod_struct2 Try.underlying24 ht1
  rw [show Try.prog.cellsOf 2 = 1 from by kernel_rfl] at ht'1
  rw [show Try.prog.cellsOf 22 = 1 from by kernel_rfl] at hu'1
  replace ht'1 : DataW.trod enc Try.prog W 0 (fun _ => true) true q'1 2 [ca1] = some t'1 := ht'1
  replace hu'1 : DataW.trod enc Try.prog W 0 (fun _ => true) true q'1 22 [cb1] = some u'1 := hu'1
  replace hu1 : DataW.trod enc Try.prog W 0 (fun _ => true) true q1 22 [cc1] = some u1 := hu1
  obtain ⟨n1, hn1, -, wn1⟩ := DataW.trod_int Try.underlying2 ht'1
  simp at hn1
  subst hn1
  obtain ⟨a1, len1, cap1, z1, he1, w1⟩ : ∃ a len cap zs, cb1 = .slice a len cap ∧ IsArr W a len zs := by
    rcases open_ints Try.underlying22 Try.underlying2 (by kernel_rfl) hu'1 with ⟨hcs, _⟩ | ⟨x, l, c, zs, hcs, _, hl, hm, hz, _, hcell, hwz⟩
    · simp at hcs
      exact ⟨_, _, _, [], hcs, At.of_row (cap := 0) (.inl ⟨rfl, rfl, rfl, rfl⟩), Nat.zero_le _⟩
    · simp at hcs
      exact ⟨_, _, _, _, hcs, At.of_row (cap := c) (.inr ⟨x, rfl, hl, hm, by simpa using hz, hcell, hwz⟩), Nat.le_trans hl hm⟩
  obtain ⟨b1, m1, d1, y1, he'1, w'1⟩ : ∃ a len cap zs, cc1 = .slice a len cap ∧ IsArr W a len zs := by
    rcases open_ints Try.underlying22 Try.underlying2 (by kernel_rfl) hu1 with ⟨hcs, _⟩ | ⟨x, l, c, zs, hcs, _, hl, hm, hz, _, hcell, hwz⟩
    · simp at hcs
      exact ⟨_, _, _, [], hcs, At.of_row (cap := 0) (.inl ⟨rfl, rfl, rfl, rfl⟩), Nat.zero_le _⟩
    · simp at hcs
      exact ⟨_, _, _, _, hcs, At.of_row (cap := c) (.inr ⟨x, rfl, hl, hm, by simpa using hz, hcell, hwz⟩), Nat.le_trans hl hm⟩
  subst he1 he'1
  obtain ⟨a2, len2, cap2, rfl⟩ := okWide_slice Try.underlying22 (hval 2 22 v2 rfl rfl)
  have k2 := h2
  have lt2 : ∀ x ∈ p2, x.block < W.heap.size := by obtain ⟨m, hm⟩ := k2; exact DataW.trod_lt m _ _ _ hm
  obtain ⟨z2, w2⟩ : ∃ zs, IsRow .i64 W a2 len2 cap2 zs := by
    obtain ⟨fuel, hf⟩ := h2
    rcases open_ints Try.underlying22 Try.underlying2 (by kernel_rfl) hf with ⟨hcs, _⟩ | ⟨x, l, c, zs, hcs, _, hl, hm, hz, _, hcell, hwz⟩
    · simp [Value.cells] at hcs
      obtain ⟨rfl, rfl, rfl⟩ := hcs
      exact ⟨[], .inl ⟨rfl, rfl, rfl, rfl⟩⟩
    · simp [Value.cells] at hcs
      obtain ⟨rfl, rfl, rfl⟩ := hcs
      exact ⟨zs, .inr ⟨_, rfl, hl, hm, by simpa using hz, hcell, hwz⟩⟩
  clear hA0 hval0
  refine (walk n0 a0 len0 cap0 z0 b0 m0 d0 y0 n1 a1 len1 cap1 z1 b1 m1 d1 y1 a2 len2 cap2 z2 W ⟨w0, w'0⟩ ⟨w1, w'1⟩ w2).mono fun e W' ⟨he, bel⟩ => ?_
  subst he
  exact ⟨_, rfl, _, _, _, [], _, [], hW', trodAll_mk1 (shut_bool Try.underlying4 _), (trodAll_cons_mk (Below.trod laidOut (by kernel_rfl) (of_decide_eq_true (by kernel_rfl)) k0 bel lt0) (trodAll_cons_mk (Below.trod laidOut (by kernel_rfl) (of_decide_eq_true (by kernel_rfl)) k1 bel lt1) (trodAll_cons_mk (Below.trod laidOut (by kernel_rfl) (of_decide_eq_true (by kernel_rfl)) k2 bel lt2) trodAll_mk0))), rfl, bel.frame _, fun h => by cases h⟩

theorem c0 : (Rows.fnExactIsModelMorphismRow.wf (OpenSpec.ofChange Rows.fnExactIsModelMorphismSpec)) = true := by kernel_rfl
theorem c3 : (Try.f10.params.all (Try.prog.readableRec ·)) = true := by kernel_rfl
theorem c4 : (namedTie Try.prog Rows.fnExactIsModelMorphismRow.named Rows.fnExactIsModelMorphismSpec.vars) = true := by kernel_rfl
theorem c5 : (Rows.fnExactIsModelMorphismRow.stops == []) = true := by kernel_rfl
theorem c7 : (Rows.fnExactIsModelMorphismRow.knobs == []) = true := by kernel_rfl
theorem c9 : (Rows.fnExactIsModelMorphismRow.inPlace == Try.prog.inPlace 10) = true := by kernel_rfl
theorem c10 : (Rows.fnExactIsModelMorphismRow.unfollowed == Try.prog.unfollowed 10) = true := by kernel_rfl
theorem c11 : (Rows.fnExactIsModelMorphismRow.recurses == Try.prog.recurses 10) = true := by kernel_rfl
theorem c12 : (Rows.fnExactIsModelMorphismRow.named == Try.prog.varsNamed 10) = true := by kernel_rfl
theorem c13 : (Rows.fnExactIsModelMorphismRow.maps == (Try.f10.params.toList ++ Rows.fnExactIsModelMorphismSpec.plain.varTypes Try.prog).any (Try.prog.mapsRec ·)) = true := by kernel_rfl
theorem c14 : (Rows.fnExactIsModelMorphismRow.ifaces == (Try.f10.params.toList ++ Rows.fnExactIsModelMorphismSpec.plain.varTypes Try.prog).any (Try.prog.ifacesRec ·)) = true := by kernel_rfl
theorem c15 : (Rows.fnExactIsModelMorphismRow.mapsOut == Try.prog.mapsAmong Try.f10.resultTypes.toList) = true := by kernel_rfl
theorem c16 : (Rows.fnExactIsModelMorphismRow.loops == (Try.f10.params.toList ++ Rows.fnExactIsModelMorphismSpec.plain.varTypes Try.prog).any (Try.prog.loopsFrom ·)) = true := by kernel_rfl
theorem c17 : (Rows.fnExactIsModelMorphismRow.wideKeys == (Try.f10.params.toList ++ Rows.fnExactIsModelMorphismSpec.plain.varTypes Try.prog ++ Try.f10.resultTypes.toList).any (Try.prog.wideKeysFrom ·)) = true := by kernel_rfl
theorem c18 : (Rows.fnExactIsModelMorphismSpec.vars.all (Try.prog.varReadable ·)) = true := by kernel_rfl
theorem c19 : (Try.f10.resultTypes.all (fun t => Try.prog.readableRec t && decide (t < Try.prog.types.size))) = true := by kernel_rfl
theorem c20 : (Rows.fnExactIsModelMorphismRow.ifacesOut == Try.f10.resultTypes.toList.any (Try.prog.ifacesRec ·)) = true := by kernel_rfl
theorem c21 : (Rows.fnExactIsModelMorphismRow.loopsOut == Try.f10.resultTypes.toList.any (Try.prog.loopsFrom ·)) = true := by kernel_rfl
theorem c22 : (Rows.fnExactIsModelMorphismRow.plainKeys == Try.prog.plainKeys) = true := by kernel_rfl
theorem c23 : (Rows.fnExactIsModelMorphismRow.shortTexts.isNone) = true := by kernel_rfl
theorem c26 : (Rows.fnExactIsModelMorphismRow.lifted == Try.prog.liftsFinal) = true := by kernel_rfl
theorem c27 : (Try.prog.make == some Rows.fnExactIsModelMorphismRow.make) = true := by kernel_rfl
theorem c28 : (Rows.fnExactIsModelMorphismRow.kinds == (if Rows.fnExactIsModelMorphismRow.domain.isEmpty then [] else Try.f10.params.toList.map fun t => match Try.prog.underlying t with | some (.int k) => some k | _ => none)) = true := by kernel_rfl
theorem c29 : (Rows.fnExactIsModelMorphismRow.pinned == Rows.fnExactIsModelMorphismRow.pinnedBy) = true := by kernel_rfl
theorem c30 : (Rows.fnExactIsModelMorphismRow.veiled == (Try.f10.params.toList ++ Rows.fnExactIsModelMorphismSpec.plain.varTypes Try.prog ++ Try.f10.resultTypes.toList).any (Try.prog.veiledRec ·)) = true := by kernel_rfl
theorem c31 : (Rows.fnExactIsModelMorphismRow.veiledFits Try.prog Try.f10.params.toList (Try.f10.params.toList ++ Rows.fnExactIsModelMorphismSpec.plain.varTypes Try.prog ++ Try.f10.resultTypes.toList)) = true := by kernel_rfl

set_option maxRecDepth 100000 in
theorem closed : joinedFacts Try.prog 10 Try.f10 Rows.fnExactIsModelMorphismSpec Rows.fnExactIsModelMorphismRow = true := by
  unfold joinedFacts
  exact and_mk (and_mk (and_mk (and_mk (and_mk (and_mk (and_mk (and_mk (and_mk (and_mk (and_mk (and_mk (and_mk (and_mk (and_mk (and_mk (and_mk (and_mk (and_mk (and_mk (and_mk (and_mk (and_mk (and_mk (and_mk (and_mk (and_mk (and_mk (and_mk (and_mk (and_mk (c0) jLaid) jMaps) c3) c4) c5) jStops) c7) jKnobs) c9) c10) c11) c12) c13) c14) c15) c16) c17) c18) c19) c20) c21) c22) c23) jHeard) jEnter) c26) c27) c28) c29) c30) c31
theorem named : Try.prog.funcNamed Rows.fnExactIsModelMorphismRow.func = some 10 := by kernel_rfl
theorem inst : Try.f10.isInstance Try.prog Rows.fnExactIsModelMorphismRow.origin Rows.fnExactIsModelMorphismRow.targs := of_decide_eq_true (by kernel_rfl)
theorem wrap : Try.f10.isWrapper Try.prog Rows.fnExactIsModelMorphismRow.wrapper Rows.fnExactIsModelMorphismRow.mainSum := by unfold Func.isWrapper; first | (rw [if_pos (by decide +kernel)]; kernel_rfl) | (rw [if_neg (by decide +kernel)]; exact ⟨rfl, rfl⟩)
theorem proved : Rows.FnExactIsModelMorphismSaid :=
  OpenClaim.holds_of_wide 10 Try.f10 rfl rfl rfl rfl rfl rfl rfl ⟨rfl, rfl, rfl, rfl, rfl⟩ rfl rfl rfl rfl rfl named Try.func10 closed
    inst wrap (fun os started H enc _ => lifted os started H enc)
#print axioms proved
end Go.Proofs.Ytomldealpmohhaa.fnExactIsModelMorphism
