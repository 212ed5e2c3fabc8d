/- Closed facts of the whole program that every claim's frame asks for, one declaration each. No conditions. -/
import Derived.Test.YtngllobakfnhiaaDoorRows
import Derived.ProofKit
import Derived.OpenShut
import Derived.WalkKit
namespace Go.Proofs.YtngllobakfnhiaaDoor
open Go.RowKit

theorem and_mk {a b : Bool} (ha : a = true) (hb : b = true) : (a && b) = true := by rw [ha, hb]; rfl
theorem jLaid : laidOutB Tryd.prog = true := by kernel_rfl
theorem jMaps : mapsRowed Tryd.prog = true := by kernel_rfl
theorem jStops : (Tryd.prog.stops == []) = true := by kernel_rfl
theorem jKnobs : (Tryd.prog.stopKnobs == []) = true := by kernel_rfl
theorem jHeard : Tryd.prog.stopsHeard = true := by kernel_rfl
/- mayEnter in one piece takes more than the lid on a great program: in parts. -/
theorem words_of (a r : List Char) (h : a.all (· != Char.ofNat 32) = true) : wordsSigns (a ++ Char.ofNat 32 :: r) = a :: wordsSigns r := by
  induction a with
  | nil => rfl
  | cons c a ih =>
    simp only [List.all_cons, Bool.and_eq_true, bne_iff_ne, ne_eq] at h
    have e := ih h.2
    show wordsSigns (c :: (a ++ Char.ofNat 32 :: r)) = _
    rw [wordsSigns]
    · rw [e]
    · exact fun hc => h.1 hc
theorem words_head (l S : List Char) (h0 : l.take 77 = "harness".toList ++ Char.ofNat 32 :: (S ++ Char.ofNat 32 :: ("cut".toList ++ [Char.ofNat 32])))
    (h1 : S.all (· != Char.ofNat 32) = true) (h2 : isSumSigns S = true) : ∃ rest, behindMainWord (wordsSigns l) = "cut".toList :: rest := by
  have e : l = "harness".toList ++ Char.ofNat 32 :: (S ++ Char.ofNat 32 :: ("cut".toList ++ Char.ofNat 32 :: l.drop 77)) := by
    have := List.take_append_drop 77 l
    rw [h0] at this
    generalize l.drop 77 = D at this ⊢
    rw [← this]
    simp
  refine ⟨wordsSigns (l.drop 77), ?_⟩
  rw [e, words_of _ _ (by decide), words_of _ _ h1, words_of _ _ (by decide)]
  have e2 : behindMainWord ("harness".toList :: S :: "cut".toList :: wordsSigns (l.drop 77)) = "cut".toList :: wordsSigns (l.drop 77) := by
    rw [behindMainWord, h2]
    rfl
  rw [← e]
  exact e2
def headSigns : List Char := List.map Char.ofNat [104, 97, 114, 110, 101, 115, 115, 32, 57, 102, 97, 53, 50, 48, 52, 49, 99, 102, 55, 99, 48, 51, 100, 48, 101, 52, 50, 54, 98, 55, 97, 49, 54, 54, 52, 53, 50, 50, 51, 102, 48, 49, 51, 48, 102, 98, 101, 56, 56, 57, 54, 53, 57, 100, 102, 97, 53, 49, 54, 50, 53, 102, 57, 101, 48, 102, 52, 100, 48, 50, 52, 50, 32, 99, 117, 116, 32, 97, 116, 32, 108, 111, 111, 112, 46, 101, 120, 97, 109, 112, 108, 101, 47, 103, 48, 49, 48, 56, 57, 47, 108, 97, 119, 115, 46, 70, 110, 69, 120, 97, 99, 116, 70, 114, 97, 109, 101, 84, 101, 120, 116]
theorem jStr : Tryd.prog.initOrder = String.ofList headSigns := by kernel_rfl
theorem jTake : headSigns.take 77 = "harness".toList ++ Char.ofNat 32 :: ((headSigns.drop 8).take 64 ++ Char.ofNat 32 :: ("cut".toList ++ [Char.ofNat 32])) := by kernel_rfl
theorem jSum : isSumSigns ((headSigns.drop 8).take 64) = true := by kernel_rfl
theorem jBlank : ((headSigns.drop 8).take 64).all (· != Char.ofNat 32) = true := by kernel_rfl
theorem jWords : ∃ rest, behindMainWord (wordsSigns Tryd.prog.initOrder.toList) = "cut".toList :: rest := by
  rw [jStr, String.toList_ofList]
  exact words_head _ _ jTake jBlank jSum
theorem jLater : Tryd.prog.laysLater = false := by kernel_rfl
theorem jRefl : Tryd.prog.bearsReflect = false := by kernel_rfl
theorem jDoor : Tryd.prog.doorFits [] = true := by kernel_rfl
theorem jStrip (rest : List (List Char)) : stripLifts liftWords ("cut".toList :: rest) = ([], "cut".toList :: rest) := by kernel_rfl
theorem enter_of (P : Program) (rest : List (List Char)) (h : behindMainWord (wordsSigns P.initOrder.toList) = "cut".toList :: rest) (h1 : P.laysLater = false) (h2 : P.bearsReflect = false) (h3 : P.doorFits [] = true) : P.mayEnter = true := by
  unfold Program.mayEnter
  rw [h]
  show (_ || _) = true
  rw [Bool.or_eq_true]
  right
  rw [jStrip rest, h1, h2, h3]
  rfl
theorem jEnter : Tryd.prog.mayEnter = true := by
  obtain ⟨rest, h⟩ := jWords
  exact enter_of _ rest h jLater jRefl jDoor

end Go.Proofs.YtngllobakfnhiaaDoor
