/-
  No cell of these rows narrows 'for every input' (looked for: loops, veiled, ifaces, maps, wideKeys, modest, calm, conditions, laid).
  DERIVED. THE GIVEN ROWS OF THIS SEAT. 11 by the template 'for every input the law returns true; each argument reads behind the call as it read before'; 0 by the template 'total and deterministic' (their statements: YtkpbcpkapjnchaaTotals.lean).
  GIVEN WITH THE SEED: the statements are not yours to turn. If you find one false, say at which input.
  Laid BY PROGRAM, IN A SANDBOX (cutbox-rows.mjs): the forced cells as the released guide's own fill.sh prints them over the translation 05d7ebbe5f0fbea7… (all of the seat's roots in one cut). By AI agents, Wed Nov 11 2026. No macro, syntax, notation, axiom, sorry.
-/
import Derived.Test.YtkpbcpkapjnchaaChecked
import GoSem.Claim
import GoSem.ClaimJoined
import GoSem.ClaimMapViews
import Derived.JoinedTies
import Derived.KernelRfl
namespace Go.Proofs.Ytkpbcpkapjnchaa
/- THE CELL 'sum', in the pinned program and in every row, IS THE sha256 OF THE DUMP (.gsa) THAT YtkpbcpkapjnchaaProg.lean LOADS. Nothing in Lean hashes anything: it is a label: what it is worth is what the hold of that sum in a sandbox is worth. -/
noncomputable def Try.pinned : Pinned := { name := "ytkpbcpkapjnchaa", sum := "05d7ebbe5f0fbea71940d44c4dd757b645d3843e9db38356e8a836a0b36046db", checked := Try.checked }
namespace Rows
def none {H : Type} : Left H := { results := [], args := [] }

/-- 'laws.FnExactIsFrame': WHATEVER THE INPUT: true; the input reads as it did. -/
def fnExactIsFrameSpec : ChangeSpec := { name := "fnExactIsFrame", fn := fun _ => fun
  | [d] => { results := [.lit (.bool true)], args := [d] }
  | _ => none }
def fnExactIsFrameRow : OpenClaim := { program := "ytkpbcpkapjnchaa", sum := "05d7ebbe5f0fbea71940d44c4dd757b645d3843e9db38356e8a836a0b36046db", func := "loop.example/g01089/laws.FnExactIsFrame", spec := "fnExactIsFrame", apart := false }
def FnExactIsFrameSaid : Prop := fnExactIsFrameRow.holds Try.pinned (OpenSpec.ofChange fnExactIsFrameSpec)

/-- ITS FALSE NEIGHBOUR: 'it returns false'. Refute it at one input. -/
def fnExactIsFrameWrong : ChangeSpec := { name := "fnExactIsFrame", fn := fun _ => fun
  | [d] => { results := [.lit (.bool false)], args := [d] }
  | _ => none }
def FnExactIsFrameWrongFalsely : Prop := fnExactIsFrameRow.holds Try.pinned (OpenSpec.ofChange fnExactIsFrameWrong)

/-- 'laws.FnExactGeneratedWorlds': WHATEVER THE INPUT: true; the input reads as it did. -/
def fnExactGeneratedWorldsSpec : ChangeSpec := { name := "fnExactGeneratedWorlds", fn := fun _ => fun
  | [d1, d2] => { results := [.lit (.bool true)], args := [d1, d2] }
  | _ => none }
def fnExactGeneratedWorldsRow : OpenClaim := { program := "ytkpbcpkapjnchaa", sum := "05d7ebbe5f0fbea71940d44c4dd757b645d3843e9db38356e8a836a0b36046db", func := "loop.example/g01089/laws.FnExactGeneratedWorlds", spec := "fnExactGeneratedWorlds", apart := false }
def FnExactGeneratedWorldsSaid : Prop := fnExactGeneratedWorldsRow.holds Try.pinned (OpenSpec.ofChange fnExactGeneratedWorldsSpec)

/-- ITS FALSE NEIGHBOUR: 'it returns false'. Refute it at one input. -/
def fnExactGeneratedWorldsWrong : ChangeSpec := { name := "fnExactGeneratedWorlds", fn := fun _ => fun
  | [d1, d2] => { results := [.lit (.bool false)], args := [d1, d2] }
  | _ => none }
def FnExactGeneratedWorldsWrongFalsely : Prop := fnExactGeneratedWorldsRow.holds Try.pinned (OpenSpec.ofChange fnExactGeneratedWorldsWrong)

/-- 'laws.FnExactRootsOf': WHATEVER THE INPUT: true; the input reads as it did. -/
def fnExactRootsOfSpec : ChangeSpec := { name := "fnExactRootsOf", fn := fun _ => fun
  | [d] => { results := [.lit (.bool true)], args := [d] }
  | _ => none }
def fnExactRootsOfRow : OpenClaim := { program := "ytkpbcpkapjnchaa", sum := "05d7ebbe5f0fbea71940d44c4dd757b645d3843e9db38356e8a836a0b36046db", func := "loop.example/g01089/laws.FnExactRootsOf", spec := "fnExactRootsOf", apart := false }
def FnExactRootsOfSaid : Prop := fnExactRootsOfRow.holds Try.pinned (OpenSpec.ofChange fnExactRootsOfSpec)

/-- ITS FALSE NEIGHBOUR: 'it returns false'. Refute it at one input. -/
def fnExactRootsOfWrong : ChangeSpec := { name := "fnExactRootsOf", fn := fun _ => fun
  | [d] => { results := [.lit (.bool false)], args := [d] }
  | _ => none }
def FnExactRootsOfWrongFalsely : Prop := fnExactRootsOfRow.holds Try.pinned (OpenSpec.ofChange fnExactRootsOfWrong)

/-- 'laws.FnExactSumFrames': WHATEVER THE INPUT: true; the input reads as it did. -/
def fnExactSumFramesSpec : ChangeSpec := { name := "fnExactSumFrames", fn := fun _ => fun
  | [d1, d2] => { results := [.lit (.bool true)], args := [d1, d2] }
  | _ => none }
def fnExactSumFramesRow : OpenClaim := { program := "ytkpbcpkapjnchaa", sum := "05d7ebbe5f0fbea71940d44c4dd757b645d3843e9db38356e8a836a0b36046db", func := "loop.example/g01089/laws.FnExactSumFrames", spec := "fnExactSumFrames", apart := false }
def FnExactSumFramesSaid : Prop := fnExactSumFramesRow.holds Try.pinned (OpenSpec.ofChange fnExactSumFramesSpec)

/-- ITS FALSE NEIGHBOUR: 'it returns false'. Refute it at one input. -/
def fnExactSumFramesWrong : ChangeSpec := { name := "fnExactSumFrames", fn := fun _ => fun
  | [d1, d2] => { results := [.lit (.bool false)], args := [d1, d2] }
  | _ => none }
def FnExactSumFramesWrongFalsely : Prop := fnExactSumFramesRow.holds Try.pinned (OpenSpec.ofChange fnExactSumFramesWrong)

/-- 'laws.FnExactPartOfFrame': WHATEVER THE INPUT: true; the input reads as it did. -/
def fnExactPartOfFrameSpec : ChangeSpec := { name := "fnExactPartOfFrame", fn := fun _ => fun
  | [d1, d2] => { results := [.lit (.bool true)], args := [d1, d2] }
  | _ => none }
def fnExactPartOfFrameRow : OpenClaim := { program := "ytkpbcpkapjnchaa", sum := "05d7ebbe5f0fbea71940d44c4dd757b645d3843e9db38356e8a836a0b36046db", func := "loop.example/g01089/laws.FnExactPartOfFrame", spec := "fnExactPartOfFrame", apart := false }
def FnExactPartOfFrameSaid : Prop := fnExactPartOfFrameRow.holds Try.pinned (OpenSpec.ofChange fnExactPartOfFrameSpec)

/-- ITS FALSE NEIGHBOUR: 'it returns false'. Refute it at one input. -/
def fnExactPartOfFrameWrong : ChangeSpec := { name := "fnExactPartOfFrame", fn := fun _ => fun
  | [d1, d2] => { results := [.lit (.bool false)], args := [d1, d2] }
  | _ => none }
def FnExactPartOfFrameWrongFalsely : Prop := fnExactPartOfFrameRow.holds Try.pinned (OpenSpec.ofChange fnExactPartOfFrameWrong)

/-- 'laws.FnExactCloseFrame': WHATEVER THE INPUT: true; the input reads as it did. -/
def fnExactCloseFrameSpec : ChangeSpec := { name := "fnExactCloseFrame", fn := fun _ => fun
  | [d1, d2] => { results := [.lit (.bool true)], args := [d1, d2] }
  | _ => none }
def fnExactCloseFrameRow : OpenClaim := { program := "ytkpbcpkapjnchaa", sum := "05d7ebbe5f0fbea71940d44c4dd757b645d3843e9db38356e8a836a0b36046db", func := "loop.example/g01089/laws.FnExactCloseFrame", spec := "fnExactCloseFrame", apart := false }
def FnExactCloseFrameSaid : Prop := fnExactCloseFrameRow.holds Try.pinned (OpenSpec.ofChange fnExactCloseFrameSpec)

/-- ITS FALSE NEIGHBOUR: 'it returns false'. Refute it at one input. -/
def fnExactCloseFrameWrong : ChangeSpec := { name := "fnExactCloseFrame", fn := fun _ => fun
  | [d1, d2] => { results := [.lit (.bool false)], args := [d1, d2] }
  | _ => none }
def FnExactCloseFrameWrongFalsely : Prop := fnExactCloseFrameRow.holds Try.pinned (OpenSpec.ofChange fnExactCloseFrameWrong)

/-- 'laws.FnExactProductFrames': WHATEVER THE INPUT: true; the input reads as it did. -/
def fnExactProductFramesSpec : ChangeSpec := { name := "fnExactProductFrames", fn := fun _ => fun
  | [d1, d2] => { results := [.lit (.bool true)], args := [d1, d2] }
  | _ => none }
def fnExactProductFramesRow : OpenClaim := { program := "ytkpbcpkapjnchaa", sum := "05d7ebbe5f0fbea71940d44c4dd757b645d3843e9db38356e8a836a0b36046db", func := "loop.example/g01089/laws.FnExactProductFrames", spec := "fnExactProductFrames", apart := false }
def FnExactProductFramesSaid : Prop := fnExactProductFramesRow.holds Try.pinned (OpenSpec.ofChange fnExactProductFramesSpec)

/-- ITS FALSE NEIGHBOUR: 'it returns false'. Refute it at one input. -/
def fnExactProductFramesWrong : ChangeSpec := { name := "fnExactProductFrames", fn := fun _ => fun
  | [d1, d2] => { results := [.lit (.bool false)], args := [d1, d2] }
  | _ => none }
def FnExactProductFramesWrongFalsely : Prop := fnExactProductFramesRow.holds Try.pinned (OpenSpec.ofChange fnExactProductFramesWrong)

/-- 'laws.FnExactFrameFlags': WHATEVER THE INPUT: true; the input reads as it did. -/
def fnExactFrameFlagsSpec : ChangeSpec := { name := "fnExactFrameFlags", fn := fun _ => fun
  | [d] => { results := [.lit (.bool true)], args := [d] }
  | _ => none }
def fnExactFrameFlagsRow : OpenClaim := { program := "ytkpbcpkapjnchaa", sum := "05d7ebbe5f0fbea71940d44c4dd757b645d3843e9db38356e8a836a0b36046db", func := "loop.example/g01089/laws.FnExactFrameFlags", spec := "fnExactFrameFlags", apart := false }
def FnExactFrameFlagsSaid : Prop := fnExactFrameFlagsRow.holds Try.pinned (OpenSpec.ofChange fnExactFrameFlagsSpec)

/-- ITS FALSE NEIGHBOUR: 'it returns false'. Refute it at one input. -/
def fnExactFrameFlagsWrong : ChangeSpec := { name := "fnExactFrameFlags", fn := fun _ => fun
  | [d] => { results := [.lit (.bool false)], args := [d] }
  | _ => none }
def FnExactFrameFlagsWrongFalsely : Prop := fnExactFrameFlagsRow.holds Try.pinned (OpenSpec.ofChange fnExactFrameFlagsWrong)

/-- 'laws.FnExactDepthsOfWorlds': WHATEVER THE INPUT: true; the input reads as it did. -/
def fnExactDepthsOfWorldsSpec : ChangeSpec := { name := "fnExactDepthsOfWorlds", fn := fun _ => fun
  | [d] => { results := [.lit (.bool true)], args := [d] }
  | _ => none }
def fnExactDepthsOfWorldsRow : OpenClaim := { program := "ytkpbcpkapjnchaa", sum := "05d7ebbe5f0fbea71940d44c4dd757b645d3843e9db38356e8a836a0b36046db", func := "loop.example/g01089/laws.FnExactDepthsOfWorlds", spec := "fnExactDepthsOfWorlds", recurses := true, apart := false }
def FnExactDepthsOfWorldsSaid : Prop := fnExactDepthsOfWorldsRow.holds Try.pinned (OpenSpec.ofChange fnExactDepthsOfWorldsSpec)

/-- ITS FALSE NEIGHBOUR: 'it returns false'. Refute it at one input. -/
def fnExactDepthsOfWorldsWrong : ChangeSpec := { name := "fnExactDepthsOfWorlds", fn := fun _ => fun
  | [d] => { results := [.lit (.bool false)], args := [d] }
  | _ => none }
def FnExactDepthsOfWorldsWrongFalsely : Prop := fnExactDepthsOfWorldsRow.holds Try.pinned (OpenSpec.ofChange fnExactDepthsOfWorldsWrong)

/-- 'laws.FnClosures': WHATEVER THE INPUT: true; the input reads as it did. -/
def fnClosuresSpec : ChangeSpec := { name := "fnClosures", fn := fun _ => fun
  | [d] => { results := [.lit (.bool true)], args := [d] }
  | _ => none }
def fnClosuresRow : OpenClaim := { program := "ytkpbcpkapjnchaa", sum := "05d7ebbe5f0fbea71940d44c4dd757b645d3843e9db38356e8a836a0b36046db", func := "loop.example/g01089/laws.FnClosures", spec := "fnClosures", apart := false }
def FnClosuresSaid : Prop := fnClosuresRow.holds Try.pinned (OpenSpec.ofChange fnClosuresSpec)

/-- ITS FALSE NEIGHBOUR: 'it returns false'. Refute it at one input. -/
def fnClosuresWrong : ChangeSpec := { name := "fnClosures", fn := fun _ => fun
  | [d] => { results := [.lit (.bool false)], args := [d] }
  | _ => none }
def FnClosuresWrongFalsely : Prop := fnClosuresRow.holds Try.pinned (OpenSpec.ofChange fnClosuresWrong)

/-- 'laws.FnExactLeastFrame': WHATEVER THE INPUT: true; the input reads as it did. -/
def fnExactLeastFrameSpec : ChangeSpec := { name := "fnExactLeastFrame", fn := fun _ => fun
  | [d] => { results := [.lit (.bool true)], args := [d] }
  | _ => none }
def fnExactLeastFrameRow : OpenClaim := { program := "ytkpbcpkapjnchaa", sum := "05d7ebbe5f0fbea71940d44c4dd757b645d3843e9db38356e8a836a0b36046db", func := "loop.example/g01089/laws.FnExactLeastFrame", spec := "fnExactLeastFrame", inPlace := ["slices.overlaps[int64]"], recurses := true, apart := false }
def FnExactLeastFrameSaid : Prop := fnExactLeastFrameRow.holds Try.pinned (OpenSpec.ofChange fnExactLeastFrameSpec)

/-- ITS FALSE NEIGHBOUR: 'it returns false'. Refute it at one input. -/
def fnExactLeastFrameWrong : ChangeSpec := { name := "fnExactLeastFrame", fn := fun _ => fun
  | [d] => { results := [.lit (.bool false)], args := [d] }
  | _ => none }
def FnExactLeastFrameWrongFalsely : Prop := fnExactLeastFrameRow.holds Try.pinned (OpenSpec.ofChange fnExactLeastFrameWrong)

/- THE SECOND FORM. 'bulk': how many values and letters a reading holds, each counted each time it is reached (what is shared counts as often as it is met; a slice's spare places count too). A statement '..UptoSaid' is the law's where the arguments, and the package variables that the reading takes, are together of bulk at most 1048576: NARROWER than '..Said'. Prove '..Said' where nothing that the law and all that it calls make is longer than what came in: it says more and counts as full. Else prove '..UptoSaid'. A law counts once. -/
mutual
def uptoBulk {H : Type} : DataW H → Nat
  | .lit (.string bytes) => bytes.length + 1
  | .lit _ => 1
  | .nil => 1
  | .ptr d => uptoBulk d + 1
  | .slice elems spare => uptoBulkAll elems + uptoBulkAll spare + 1
  | .agg parts => uptoBulkAll parts + 1
  | .iface _ d => uptoBulk d + 1
  | .map entries => uptoBulkEntries entries + 1
  | .held _ => 1
def uptoBulkAll {H : Type} : List (DataW H) → Nat
  | [] => 0
  | d :: r => uptoBulk d + uptoBulkAll r
def uptoBulkEntries {H : Type} : List (Lit × DataW H) → Nat
  | [] => 0
  | x :: r => uptoBulkEntry x + uptoBulkEntries r
def uptoBulkEntry {H : Type} : Lit × DataW H → Nat
  | (.string bytes, d) => bytes.length + uptoBulk d + 1
  | (_, d) => uptoBulk d + 1
 end
def uptoSmall : (H : Type) → List (DataW H) → Bool := fun _ ds => decide (uptoBulkAll ds ≤ 1048576)
def OpenSpec.upto (s : _root_.Go.ChangeSpec) : _root_.Go.OpenSpec := { _root_.Go.OpenSpec.ofChange s with cond := some uptoSmall }

/-- 'laws.FnExactIsFrame', WHERE WHAT IT READS IS OF BULK AT MOST 1048576: true; the input reads as it did. -/
def fnExactIsFrameUptoRow : OpenClaim := { program := "ytkpbcpkapjnchaa", sum := "05d7ebbe5f0fbea71940d44c4dd757b645d3843e9db38356e8a836a0b36046db", func := "loop.example/g01089/laws.FnExactIsFrame", spec := "fnExactIsFrame", apart := false, narrowed := true }
def FnExactIsFrameUptoSaid : Prop := fnExactIsFrameUptoRow.holds Try.pinned (OpenSpec.upto fnExactIsFrameSpec)

/-- 'laws.FnExactGeneratedWorlds', WHERE WHAT IT READS IS OF BULK AT MOST 1048576: true; the input reads as it did. -/
def fnExactGeneratedWorldsUptoRow : OpenClaim := { program := "ytkpbcpkapjnchaa", sum := "05d7ebbe5f0fbea71940d44c4dd757b645d3843e9db38356e8a836a0b36046db", func := "loop.example/g01089/laws.FnExactGeneratedWorlds", spec := "fnExactGeneratedWorlds", apart := false, narrowed := true }
def FnExactGeneratedWorldsUptoSaid : Prop := fnExactGeneratedWorldsUptoRow.holds Try.pinned (OpenSpec.upto fnExactGeneratedWorldsSpec)

/-- 'laws.FnExactRootsOf', WHERE WHAT IT READS IS OF BULK AT MOST 1048576: true; the input reads as it did. -/
def fnExactRootsOfUptoRow : OpenClaim := { program := "ytkpbcpkapjnchaa", sum := "05d7ebbe5f0fbea71940d44c4dd757b645d3843e9db38356e8a836a0b36046db", func := "loop.example/g01089/laws.FnExactRootsOf", spec := "fnExactRootsOf", apart := false, narrowed := true }
def FnExactRootsOfUptoSaid : Prop := fnExactRootsOfUptoRow.holds Try.pinned (OpenSpec.upto fnExactRootsOfSpec)

/-- 'laws.FnExactSumFrames', WHERE WHAT IT READS IS OF BULK AT MOST 1048576: true; the input reads as it did. -/
def fnExactSumFramesUptoRow : OpenClaim := { program := "ytkpbcpkapjnchaa", sum := "05d7ebbe5f0fbea71940d44c4dd757b645d3843e9db38356e8a836a0b36046db", func := "loop.example/g01089/laws.FnExactSumFrames", spec := "fnExactSumFrames", apart := false, narrowed := true }
def FnExactSumFramesUptoSaid : Prop := fnExactSumFramesUptoRow.holds Try.pinned (OpenSpec.upto fnExactSumFramesSpec)

/-- 'laws.FnExactPartOfFrame', WHERE WHAT IT READS IS OF BULK AT MOST 1048576: true; the input reads as it did. -/
def fnExactPartOfFrameUptoRow : OpenClaim := { program := "ytkpbcpkapjnchaa", sum := "05d7ebbe5f0fbea71940d44c4dd757b645d3843e9db38356e8a836a0b36046db", func := "loop.example/g01089/laws.FnExactPartOfFrame", spec := "fnExactPartOfFrame", apart := false, narrowed := true }
def FnExactPartOfFrameUptoSaid : Prop := fnExactPartOfFrameUptoRow.holds Try.pinned (OpenSpec.upto fnExactPartOfFrameSpec)

/-- 'laws.FnExactCloseFrame', WHERE WHAT IT READS IS OF BULK AT MOST 1048576: true; the input reads as it did. -/
def fnExactCloseFrameUptoRow : OpenClaim := { program := "ytkpbcpkapjnchaa", sum := "05d7ebbe5f0fbea71940d44c4dd757b645d3843e9db38356e8a836a0b36046db", func := "loop.example/g01089/laws.FnExactCloseFrame", spec := "fnExactCloseFrame", apart := false, narrowed := true }
def FnExactCloseFrameUptoSaid : Prop := fnExactCloseFrameUptoRow.holds Try.pinned (OpenSpec.upto fnExactCloseFrameSpec)

/-- 'laws.FnExactProductFrames', WHERE WHAT IT READS IS OF BULK AT MOST 1048576: true; the input reads as it did. -/
def fnExactProductFramesUptoRow : OpenClaim := { program := "ytkpbcpkapjnchaa", sum := "05d7ebbe5f0fbea71940d44c4dd757b645d3843e9db38356e8a836a0b36046db", func := "loop.example/g01089/laws.FnExactProductFrames", spec := "fnExactProductFrames", apart := false, narrowed := true }
def FnExactProductFramesUptoSaid : Prop := fnExactProductFramesUptoRow.holds Try.pinned (OpenSpec.upto fnExactProductFramesSpec)

/-- 'laws.FnExactFrameFlags', WHERE WHAT IT READS IS OF BULK AT MOST 1048576: true; the input reads as it did. -/
def fnExactFrameFlagsUptoRow : OpenClaim := { program := "ytkpbcpkapjnchaa", sum := "05d7ebbe5f0fbea71940d44c4dd757b645d3843e9db38356e8a836a0b36046db", func := "loop.example/g01089/laws.FnExactFrameFlags", spec := "fnExactFrameFlags", apart := false, narrowed := true }
def FnExactFrameFlagsUptoSaid : Prop := fnExactFrameFlagsUptoRow.holds Try.pinned (OpenSpec.upto fnExactFrameFlagsSpec)

/-- 'laws.FnExactDepthsOfWorlds', WHERE WHAT IT READS IS OF BULK AT MOST 1048576: true; the input reads as it did. -/
def fnExactDepthsOfWorldsUptoRow : OpenClaim := { program := "ytkpbcpkapjnchaa", sum := "05d7ebbe5f0fbea71940d44c4dd757b645d3843e9db38356e8a836a0b36046db", func := "loop.example/g01089/laws.FnExactDepthsOfWorlds", spec := "fnExactDepthsOfWorlds", recurses := true, apart := false, narrowed := true }
def FnExactDepthsOfWorldsUptoSaid : Prop := fnExactDepthsOfWorldsUptoRow.holds Try.pinned (OpenSpec.upto fnExactDepthsOfWorldsSpec)

/-- 'laws.FnClosures', WHERE WHAT IT READS IS OF BULK AT MOST 1048576: true; the input reads as it did. -/
def fnClosuresUptoRow : OpenClaim := { program := "ytkpbcpkapjnchaa", sum := "05d7ebbe5f0fbea71940d44c4dd757b645d3843e9db38356e8a836a0b36046db", func := "loop.example/g01089/laws.FnClosures", spec := "fnClosures", apart := false, narrowed := true }
def FnClosuresUptoSaid : Prop := fnClosuresUptoRow.holds Try.pinned (OpenSpec.upto fnClosuresSpec)

/-- 'laws.FnExactLeastFrame', WHERE WHAT IT READS IS OF BULK AT MOST 1048576: true; the input reads as it did. -/
def fnExactLeastFrameUptoRow : OpenClaim := { program := "ytkpbcpkapjnchaa", sum := "05d7ebbe5f0fbea71940d44c4dd757b645d3843e9db38356e8a836a0b36046db", func := "loop.example/g01089/laws.FnExactLeastFrame", spec := "fnExactLeastFrame", inPlace := ["slices.overlaps[int64]"], recurses := true, apart := false, narrowed := true }
def FnExactLeastFrameUptoSaid : Prop := fnExactLeastFrameUptoRow.holds Try.pinned (OpenSpec.upto fnExactLeastFrameSpec)

end Rows
end Go.Proofs.Ytkpbcpkapjnchaa
