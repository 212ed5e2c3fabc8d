/- Contracts of KindCounts of the model and of the program, at every list of nodes. Conditions: those in the theorems. -/
import Derived.Test.YtnoaaklkbfbdbaaDoorJn09
import Derived.Test.YtnoaaklkbfbdbaaDoorJn05
namespace Go.Proofs.YtnoaaklkbfbdbaaDoor
open Go.RowKit

/-- How many of the first k nodes have the kind t. -/
def cn (xs : List Nd) : Nat → Nat → Nat
  | 0, _ => 0
  | k + 1, t => if kd xs k = t then cn xs k t + 1 else cn xs k t
theorem cn_le (xs : List Nd) (k t : Nat) : cn xs k t ≤ k := by
  induction k with
  | zero => exact Nat.le_refl _
  | succ k ih => rw [cn]; split <;> omega
theorem cn_set {xs : List Nd} {k q : Nat} (h : kd xs k = q) (t : Nat) : (if t = q then ((cn xs k q : Nat) : Int) + 1 else (cn xs k t : Nat)) = (cn xs (k + 1) t : Nat) := by
  rw [cn]
  by_cases e : t = q
  · subst e; rw [if_pos rfl, if_pos h]; simp
  · rw [if_neg e, if_neg (by rw [h]; omega)]
def knL (xs : List Nd) (k : Nat) : List Int := tab 7 (fun t => ((cn xs k t : Nat) : Int))
theorem kd_bd {xs : List Nd} {len k : Nat} (h : treeTo xs len = true) (hk : k < len) : ∃ q : Nat, kd xs k = q ∧ q < 7 := by
  have := ok_at h hk
  simp only [okN, inB, Bool.and_eq_true, decide_eq_true_eq] at this
  obtain ⟨q, hq⟩ := Int.eq_ofNat_of_zero_le this.1.1.1
  exact ⟨q, hq, by omega⟩
theorem is_tree {xs : List Nd} {len : Nat} (h : isB xs len = true) : treeTo xs len = true ∧ len ≤ 40 := by
  simp only [isB, treeB, Bool.and_eq_true, decide_eq_true_eq] at h
  exact ⟨h.2.1.1, h.1⟩
def knR (xs : List Nd) : List Int := if isB xs xs.length then knL xs xs.length else []
def knC (xs : List Nd) : Int := if isB xs xs.length then 0 else 1
theorem KindCounts_len (xs : List Nd) : (knR xs).length ≤ 1048576 := by
  unfold knR
  split
  · rw [knL, tab_len]; omega
  · exact Nat.zero_le _
theorem kn_bad {xs : List Nd} (h : isB xs xs.length = false) : knR xs = [] ∧ knC xs = 1 := by unfold knR knC; rw [h]; exact ⟨rfl, rfl⟩
theorem kn_good {xs : List Nd} (h : isB xs xs.length = true) : knR xs = knL xs xs.length ∧ knC xs = 0 := by unfold knR knC; rw [h]; exact ⟨rfl, rfl⟩
theorem row_of_own {w : World} {B g n : Nat} {z : Int} (h : w.ownsRow B 2 1 (.slice (some ⟨g, 0, none⟩) n n) n (madeCells #[.int .i64 z] (n * 1)).toList) : w.rowIs g 2 n (fun _ => .int .i64 z) := by
  rcases h.2 with ⟨h', _⟩ | ⟨g', cap', cur, h', hb, hg, hnc, hcm, hcs, htake⟩
  · simp at h'
  · simp only [Value.slice.injEq, Option.some.injEq, Addr.mk.injEq, and_true, true_and] at h'
    obtain ⟨rfl, rfl⟩ := h'
    refine ⟨cur, hg, by omega, fun i hi => ?_⟩
    rw [Nat.mul_one, toList_madeCells_one] at htake
    have h1 : (cur.toList.take n)[i]? = some (.int .i64 z) := by rw [htake]; simp [hi]
    rw [List.getElem?_take, if_pos hi, Array.getElem?_toList] at h1
    exact h1
theorem ownI_nil (w : World) (B : Nat) : Own w B (.slice none 0 0) [] := World.ownsRow_nil w B 2 1

end Go.Proofs.YtnoaaklkbfbdbaaDoor
