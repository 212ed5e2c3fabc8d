/- Images of formulas under a substitution: the model's l03Sub and the program's imageOf over its two closures. Conditions: those in the theorems. -/
import Derived.Test.YtfpnmeacnhcakaaPut
import Derived.Test.YtfpnmeacnhcakaaAreF
import Derived.OwnWalk
namespace Go.Proofs.Ytfpnmeacnhcakaa
open Go.RowKit

/-- The image of the first k nodes, where s tells the image of a variable. -/
def subTo (s : Int → List Nd) (xs : List Nd) : Nat → List Nd
  | 0 => []
  | k + 1 => subTo s xs k ++ (if kd xs k = 0 then s (sy xs k) else [(kd xs k, sy xs k)])
def sgI (xss : List (List Nd)) (v : Int) : List Nd := nthL xss v.toNat
def sgB (x : Int) (b : List Nd) (v : Int) : List Nd := if v = x then b else [(0, v)]
theorem sub_var {s : Int → List Nd} {xs : List Nd} {k : Nat} (h : kd xs k = 0) : subTo s xs (k + 1) = subTo s xs k ++ s (sy xs k) := by rw [subTo, if_pos h]
theorem sub_else {s : Int → List Nd} {xs : List Nd} {k : Nat} (h : ¬ kd xs k = 0) : subTo s xs (k + 1) = subTo s xs k ++ [(kd xs k, sy xs k)] := by rw [subTo, if_neg h]
theorem sy_six {xs : List Nd} {len k : Nat} (h : treeTo xs len = true) (hk : k < len) : ∃ q : Nat, sy xs k = q ∧ q ≤ 5 := by
  have := ok_at h hk
  simp only [okN, inB, Bool.and_eq_true, decide_eq_true_eq] at this
  obtain ⟨q, hq⟩ := Int.eq_ofNat_of_zero_le this.1.2.1
  exact ⟨q, hq, by omega⟩
theorem subTo_len {s : Int → List Nd} {xs : List Nd} {len m : Nat} (hm : 1 ≤ m) (ht : treeTo xs len = true) (hs : ∀ q : Nat, q ≤ 5 → (s q).length ≤ m) : ∀ k, k ≤ len → (subTo s xs k).length ≤ k * m := by
  intro k
  induction k with
  | zero => intro _; simp [subTo]
  | succ k ih =>
    intro hk
    have := ih (by omega)
    rw [Nat.succ_mul]
    by_cases h : kd xs k = 0
    · obtain ⟨q, hq, hq5⟩ := sy_six ht (show k < len by omega)
      have := hs q hq5
      rw [sub_var h, List.length_append, hq]
      omega
    · rw [sub_else h, List.length_append]
      simp
      omega
theorem lit_at (w : World) (k s : Int) : AtN (w.alloc (.cells #[.int .i64 k, .int .i64 s] 46)) (some ⟨w.heap.size, 0, none⟩) 1 [(k, s)] := by
  obtain ⟨aa, cc, hv, at1, -⟩ := (litN w w.heap.size k s (Nat.le_refl _)).at
  simp only [List.length_cons, List.length_nil, Value.slice.injEq] at hv
  rw [← hv.1] at at1
  exact at1
theorem OwnN.alloc {w : World} {B : Nat} {v : Value} {xs : List Nd} (h : OwnN w B v xs) (o : Obj) : OwnN (w.alloc o) B v xs := World.ownsRow.alloc h o
theorem OwnN.keepN {w w' : World} {B C : Nat} {v : Value} {xs : List Nd} (h : OwnN w B v xs) (hb : Below C w w') (hC : w.heap.size ≤ C) : OwnN w' B v xs :=
  (h.inn.below hb hC).1

/-- Where six images lie, each a formula or at least not empty and short. -/
def Img (w : World) (a : Option Addr) (xss : List (List Nd)) : Prop := AtNN w a 6 xss ∧ ∀ q : Nat, q ≤ 5 → 0 < (nthL xss q).length ∧ (nthL xss q).length ≤ 40
theorem Img.get {w : World} {a : Option Addr} {xss : List (List Nd)} (h : Img w a xss) {q : Nat} (hq : q ≤ 5) : ∃ b off a' cap', a = some ⟨b, off, none⟩ ∧ b < w.heap.size ∧ w.cell? ⟨b, off + q, none⟩ = some (.slice a' (nthL xss q).length cap') ∧ AtN w a' (nthL xss q).length (nthL xss q) := by
  obtain ⟨b, off, ha, hb, hc⟩ := h.1.2.resolve_left (by omega)
  obtain ⟨a', cap', h1, h2⟩ := hc q (by omega)
  exact ⟨b, off, a', cap', ha, hb, h1, h2⟩
theorem Img.keep {w w' : World} {C : Nat} {a : Option Addr} {xss : List (List Nd)} (h : Img w a xss) (hb : Below C w w') (hC : w.heap.size ≤ C) : Img w' a xss := ⟨h.1.keep hb hC, h.2⟩

theorem variableNodes_any (s : Int) (w : World) : Calls Try.prog 45 #[.int .i64 s] w fun e w' => e = .returned (.slice (some ⟨w.heap.size, 0, none⟩) 1 1) ∧ AtN w' (some ⟨w.heap.size, 0, none⟩) 1 [(0, s)] ∧ OwnN w' w.heap.size (.slice (some ⟨w.heap.size, 0, none⟩) 1 1) [(0, s)] ∧ Below w.heap.size w w' := by
  have A := Lib.hid (lit_at w 0 s)
  have L := Lib.hid (litN w w.heap.size 0 s (Nat.le_refl _))
  go_enter Try.func45, Try.ntmps45
  go_wp2
  go_ret
  exact ⟨rfl, A.out, L.out, (Below.refl _ _).alloc (Nat.le_refl _) _⟩

/-- What a closure of the program leaves at the variable q, of which s is the image. -/
def Img1 (w : World) (g : FuncId) (caps : Array Value) (s : Int → List Nd) : Prop :=
  ∀ (q : Nat) (wr : World), q ≤ 5 → Below w.heap.size w wr → Calls Try.prog g (#[.int .i64 q] ++ caps) wr fun e w' => ∃ a n c, e = .returned (.slice a n c) ∧ AtN w' a n (s q) ∧ Below wr.heap.size wr w'

end Go.Proofs.Ytfpnmeacnhcakaa
