/- Contracts of the program's functions that write the text of a formula. Conditions: those in the theorems. -/
import Derived.Test.YthiannpkfcijdaaDeep
import Derived.Test.YthiannpkfcijdaaPs
import Derived.Lib.AppendStr
import Derived.Laws.BytesArg
namespace Go.Proofs.Ythiannpkfcijdaa
open Go.RowKit

theorem info8 : (Try.prog.info? 5).map (fun i => (i.zero, i.size, i.bytes)) = some (some (.int .u8 0), 1, 1) := by kernel_rfl
/-- The cells of a list of bytes. -/
def cY (ys : List UInt8) : List Value := ys.map fun c => .int .u8 (c.toNat : Int)
theorem cY_len (ys : List UInt8) : (cY ys).length = ys.length := by simp [cY]
theorem cY_app (xs ys : List UInt8) : cY (xs ++ ys) = cY xs ++ cY ys := by simp [cY]
def OwnY (w : World) (B : Nat) (v : Value) (ys : List UInt8) : Prop := w.ownsRow B 5 1 v ys.length (cY ys)
theorem ownY_nil (w : World) (B : Nat) : OwnY w B (.slice none 0 0) [] := World.ownsRow_nil w B 5 1
theorem AtN.keepB {w w' : World} {B b off len : Nat} {xs : List Nd} (h : AtN w (some ⟨b, off, none⟩) len xs) (hb : Below B w w') (hB : b < B) : AtN w' (some ⟨b, off, none⟩) len xs := by
  refine ⟨h.1, ?_⟩
  rcases h.2 with h2 | ⟨b', off', ha, hlt, hc⟩
  · exact .inl h2
  · cases ha
    exact .inr ⟨b, off, rfl, Nat.lt_of_lt_of_le hlt hb.size, fun j hj => ⟨(hb.cell (p := ⟨b, off + j * 2, none⟩) hB).trans (hc j hj).1, (hb.cell (p := ⟨b, off + j * 2 + 1, none⟩) hB).trans (hc j hj).2⟩⟩
theorem below_appY {B : Nat} {w X w1 : World} {v : Value} {ys : List UInt8} (hbel : Below B w X) (hB : B ≤ X.heap.size) (ho : OwnY X B v ys) (hg : X.grownBy w1 v.ownBlock) : Below B w w1 :=
  hbel.grown hg hB (fun k hk => (World.ownsRow.lt ho k hk).1)

namespace Fm
def isNeg : Fm → Bool
  | bi k _ b => k == 4 && b.isFa
  | _ => false
def isTr : Fm → Bool
  | bi k a b => k == 4 && b.isFa && a.isFa
  | _ => false
end Fm
theorem kind_fa {f : Fm} (hf : f.ok) : (f.kind == 1) = f.isFa := by
  cases f with
  | va s => rfl
  | fa => rfl
  | bi k a b => rcases hf.1 with h | h | h <;> (show (k == 1) = false; rw [h]; rfl)
  | un k a => rcases hf.1 with h | h <;> (show (k == 1) = false; rw [h]; rfl)

end Go.Proofs.Ythiannpkfcijdaa
