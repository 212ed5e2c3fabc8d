/- Proved: for every input the Go law laws.FnExactCountModels returns true, and each argument reads behind the call as it read before; the listed package-level variables are tied to the program's text (the given statement Rows.FnExactCountModelsCardSaid). Conditions: none beside those of the statement: the listed variables hold what the program's text lays when the call begins. -/
import Derived.Test.YtfpnmeacnhcakaaDoorCards
import Derived.Test.YtfpnmeacnhcakaaDoorTie
import Derived.Test.YtfpnmeacnhcakaaDoorFacts
import Derived.Test.YtfpnmeacnhcakaaDoorLawCm
import Derived.WalkKit
import Derived.ProofKit
import Derived.OpenShut
import Derived.ShutString
import Derived.ChangeOld
import Derived.ChangeVars
import Derived.Below
import Derived.Deep.DeepHandedRow
import Derived.Lib.LaidTab
namespace Go.Proofs.YtfpnmeacnhcakaaDoor.fnExactCountModels
open Go.ChangeShapes Go.WideShapes Go.ChangeAt Go.RowKit
open Go.ChangeMaps (open_string shut_string)
set_option linter.unusedVariables false

theorem walk (a0 : Option Addr) (len0 cap0 : Nat) (z0 : List Nd) (a1 : Int) (w : World) (w0 : IsNodes w a0 len0 z0) (w1 : (Lit.int .i64 a1).wf = true) (hT : ∀ s, s < 6 → w.cell? ⟨0, s, none⟩ = some (.int .u64 (U (vr s)))) :
    Calls Tryd.prog 7 #[.slice a0 len0 cap0, .int .i64 a1] w fun e w' => e = .returned (.bool true) ∧ Below w.heap.size w w' :=
  lawCountModels z0 a1 a0 len0 cap0 w w0 hT

theorem gTab : Tryd.prog.globalNamed "loop.example/g01089/impl.variableRows" = some 0 := by kernel_rfl
theorem gTabType : (Tryd.prog.globals[0]?).map (·.type) = some 74 := by kernel_rfl
theorem cellsT : Tryd.prog.cellsOf 74 = 6 := by kernel_rfl
theorem cellsE : Tryd.prog.cellsOf 56 = 1 := by kernel_rfl
def zs : List Int := [12297829382473034410, 14757395258967641292, 17361641481138401520, 18374966859414961920, 18446462603027742720, 18446744069414584320]
def cells : Array Value := (zs.map fun z => Value.int .u64 z).toArray
theorem zs_vr : ∀ s, s < 6 → zs.getD s 0 = U (vr s) := by decide
theorem table {W : World} (h : laidMetH Tryd.prog Rows.fnExactCountModelsRow.laid W) : Lib.TabIs Tryd.prog W "loop.example/g01089/impl.variableRows" .u64 zs :=
  Lib.tabIs_of_head (rest := []) gTab gTabType Tryd.underlying74 Tryd.underlying56 cellsE cellsT h
theorem reads_table {H : Type} (enc : TypeId × Value → H) (W : World) (sp : Nat → Bool) : DataW.trod enc Tryd.prog W 0 sp true 3 74 cells.toList = some (Rows.laid_loop_example_g01089_impl_variableRows (H := H), []) := by kernel_rfl
theorem var_kept {W W' : World} {cs : Array Value} (h : Below W.heap.size W W') (hb : 0 < W.heap.size) (hv : W.var? Tryd.prog "loop.example/g01089/impl.variableRows" = some cs) : W'.var? Tryd.prog "loop.example/g01089/impl.variableRows" = some cs := by
  unfold World.var? at hv ⊢
  simp only [gTab, Option.bind_some] at hv ⊢
  rw [h.block _ hb]
  exact hv

set_option maxRecDepth 100000 in
theorem contract (H : Type) (enc : TypeId × Value → H) (W : World) (base : Nat) (args : Array Value) (ds gs : List (DataW H)) (before : List MemPlace)
    (hval : ∀ (j : Nat) t v, Tryd.f7.params[j]? = some t → args[j]? = some v → Value.okWide Tryd.prog W .any base t v)
    (hW : DataW.Whole enc Tryd.prog Tryd.f7.params.toList Rows.fnExactCountModelsSpec.vars false W args.toList ds gs before) (hL : laidMetH Tryd.prog Rows.fnExactCountModelsRow.laid W) :
    Calls Tryd.prog 7 args W fun e W' => ∃ v, e = .returned v ∧ Rows.fnExactCountModelsSpec.post enc Tryd.prog Tryd.f7 false true false false W args v W' := by
  have hW' := hW
  obtain ⟨p, q, hA0, hV0, rfl, hfz, hnd⟩ := hW
  have hA : DataW.TrodAll enc Tryd.prog W 0 (fun _ => true) true Tryd.f7.params.toList args.toList ds p := hA0
  have hV : DataW.TrodVars enc Tryd.prog W (fun _ => true) ["loop.example/g01089/impl.variableRows"] gs q := hV0
  rw [Tryd.params7] at hA hval
  obtain ⟨v0, vs0, d0, ds0, p0, q0, hargs, rfl, rfl, h0, r0⟩ := trodAll_cons hA
  obtain ⟨v1, vs1, d1, ds1, p1, q1, rfl, rfl, rfl, h1, r1⟩ := trodAll_cons r0
  obtain ⟨rfl, rfl, rfl⟩ := trodAll_nil r1
  obtain rfl : args = #[v0, v1] := by cases args; simp_all
  have hvt : W.var? Tryd.prog "loop.example/g01089/impl.variableRows" = some cells := table hL
  obtain ⟨g', t', cs', fuel', d', p', rfl, hg, ht, hvar, hd, rfl⟩ := trodVars_one hV
  obtain rfl := Option.some.inj (gTab.symm.trans hg)
  obtain rfl := Option.some.inj (gTabType.symm.trans ht)
  obtain rfl : cs' = cells := Option.some.inj (hvar.symm.trans hvt)
  obtain ⟨rfl, rfl⟩ := DataW.Trod.unique (v := .agg cells) ⟨fuel', hd⟩ ⟨3, reads_table enc W _⟩
  obtain ⟨a0, len0, cap0, rfl⟩ := okWide_slice Tryd.underlying22 (hval 0 22 v0 rfl rfl)
  have k0 := h0
  have lt0 : ∀ x ∈ p0, x.block < W.heap.size := by obtain ⟨m, hm⟩ := k0; exact DataW.trod_lt m _ _ _ hm
  obtain ⟨z0, w0⟩ : ∃ zs, IsNodes W a0 len0 zs := by
    obtain ⟨fuel, hf⟩ := h0
    obtain ⟨a', len', cap', xs, hcs, hn⟩ := open_nodes Tryd.underlying22 Tryd.underlying54 Tryd.underlying2 Tryd.underlying2 (by kernel_rfl) (by kernel_rfl) hf
    simp [Value.cells] at hcs
    obtain ⟨rfl, rfl, rfl⟩ := hcs
    exact ⟨xs, hn⟩
  obtain ⟨a1, rfl, rfl, rfl, w1⟩ := open_int Tryd.underlying2 (hval 1 2 v1 rfl rfl) h1
  clear hA0 hV0
  have hT : ∀ s, s < 6 → W.cell? ⟨0, s, none⟩ = some (.int .u64 (U (vr s))) := fun s hs => by rw [← zs_vr s hs]; exact (table hL).cell gTab s hs
  have hlt : 0 < W.heap.size := World.block_lt_of_cell? _ _ (hT 0 (by decide))
  refine (walk a0 len0 cap0 z0 a1 W w0 w1 hT).mono fun e W' ⟨he, bel⟩ => ?_
  subst he
  exact ⟨_, rfl, _, _, _, [], _, _, hW', trodAll_mk1 (shut_bool Tryd.underlying4 _), (trodAll_cons_mk (Below.trod laidOut (by kernel_rfl) (of_decide_eq_true (by kernel_rfl)) k0 bel lt0) (trodAll_cons_mk (shut_int Tryd.underlying2 w1) trodAll_mk0)), ⟨0, 74, cells, 3, [], [], gTab, gTabType, var_kept bel hlt hvt, reads_table enc W' _, rfl, rfl⟩, bel.frame _, fun h => by cases h⟩

noncomputable def laidWorld (os : Os) : World :=
  { World.holding Tryd.prog os ⟨#[], #[], []⟩ with heap := (World.holding Tryd.prog os ⟨#[], #[], []⟩).heap.modify 0 fun
      | .cells _ t frozen => .cells cells t frozen
      | o => o }
theorem laid_met (os : Os) : laidMet Tryd.prog Rows.fnExactCountModelsRow.laid ((laidWorld os).forCall (fun _ _ => 0) ⟨#[], #[.slice none 0 0, .int .i64 0], []⟩).memory := laidMet_of_run' 8 (by kernel_rfl) (by kernel_rfl)
theorem reads (os : Os) {H : Type} (enc : TypeId × Value → H) : ∃ places, DataW.whole enc Tryd.prog ((laidWorld os).forCall (fun _ _ => 0) ⟨#[], #[.slice none 0 0, .int .i64 0], []⟩).memory Tryd.f7.params.toList Rows.fnExactCountModelsSpec.vars false #[.slice none 0 0, .int .i64 0].toList 8 = some ([.nil, .lit (.int .i64 0)], [Rows.laid_loop_example_g01089_impl_variableRows], places) :=
  ⟨[MemPlace.cell 0 0, MemPlace.cell 0 1, MemPlace.cell 0 2, MemPlace.cell 0 3, MemPlace.cell 0 4, MemPlace.cell 0 5], by kernel_rfl⟩

set_option maxRecDepth 100000 in
theorem lifted (os : Os) (started : os.Started) (H : Type) (enc : TypeId × Value → H) (F : Stop.Interp) :
    ReturnsInHanded {} Tryd.checked os 7 .any ((OpenSpec.ofChange Rows.fnExactCountModelsSpec).preRow enc Tryd.prog Tryd.f7 Rows.fnExactCountModelsRow.domain false Rows.fnExactCountModelsRow.laid) (((OpenSpec.ofChange Rows.fnExactCountModelsSpec).at F).post enc Tryd.prog Tryd.f7 false true false false) := by
  obtain ⟨places, hx⟩ := reads os enc
  refine returnsInHanded_of_row (C := Tryd.checked) (s := OpenSpec.ofChange Rows.fnExactCountModelsSpec) own started (by kernel_rfl) Tryd.func7
    (witness_row_at (enc := enc) (C := Tryd.checked) false (laidWorld os) #[.slice none 0 0, .int .i64 0] rfl (by kernel_rfl) (by kernel_rfl) (by kernel_rfl)
      (OpenSpec.preRow_of_cond 8 hx (by kernel_rfl) (fun k hk => by cases hk) (by kernel_rfl) (laid_met os))) ?_
  intro W base args ds gs before hval hW _ _ _ hL _ _
  exact contract H enc W base args ds gs before hval hW hL

theorem named : Tryd.prog.funcNamed Rows.fnExactCountModelsRow.func = some 7 := by kernel_rfl
theorem inst : Tryd.f7.isInstance Tryd.prog Rows.fnExactCountModelsRow.origin Rows.fnExactCountModelsRow.targs := of_decide_eq_true (by kernel_rfl)
theorem wrap : Tryd.f7.isWrapper Tryd.prog Rows.fnExactCountModelsRow.wrapper Rows.fnExactCountModelsRow.mainSum := by unfold Func.isWrapper; first | (rw [if_pos (by decide +kernel)]; kernel_rfl) | (rw [if_neg (by decide +kernel)]; exact ⟨rfl, rfl⟩)
theorem said : Rows.FnExactCountModelsSaid :=
  OpenClaim.holds_of_cond 7 Tryd.f7 rfl rfl rfl rfl rfl rfl rfl ⟨rfl, rfl, rfl, rfl, rfl⟩ rfl rfl rfl rfl rfl named Tryd.func7 (by kernel_rfl)
    inst wrap (fun os started H enc _ F => by rw [OpenClaim.pre_eq_preRow]; exact lifted os started H enc F)
theorem plain (f : FuncId) (fn : Func) (hf : Tryd.pinned.checked.prog.funcNamed "loop.example/g01089/laws.FnExactCountModels" = some f) (hfn : Tryd.pinned.checked.prog.funcs[f]? = some fn) :
    false = Tryd.pinned.checked.prog.looks [] ∧ ∀ (j : Nat) t, fn.params[j]? = some t → Tryd.pinned.checked.prog.wantsStandIn t = false := by
  obtain rfl : f = 7 := Option.some.inj ((show Tryd.prog.funcNamed "loop.example/g01089/laws.FnExactCountModels" = some 7 by kernel_rfl).symm.trans hf) |>.symm
  obtain rfl : fn = Tryd.f7 := (Option.some.inj (Tryd.func7.symm.trans hfn)).symm
  refine ⟨by kernel_rfl, fun j t ht => ?_⟩
  have hall : (Tryd.f7.params.all fun u => !Tryd.prog.wantsStandIn u) = true := by kernel_rfl
  have := Array.all_eq_true'.1 hall t (Array.mem_of_getElem? ht)
  exact (show Tryd.prog.wantsStandIn t = false by simpa using this)
theorem proved : Rows.FnExactCountModelsCardSaid :=
  Claim7.holds_tied_plain_at .later [] _ _ _ _ said (fun _ h => by cases h) (by kernel_rfl) (fun _ h => by cases h) fnExactCountModels_row_tie rfl ⟨rfl, rfl⟩ (by kernel_rfl) rfl plain (by kernel_rfl)
#print axioms proved
end Go.Proofs.YtfpnmeacnhcakaaDoor.fnExactCountModels
