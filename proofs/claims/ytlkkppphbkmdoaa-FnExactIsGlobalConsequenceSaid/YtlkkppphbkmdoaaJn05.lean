/- 2 texts in one: Law, Pre. -/
import Derived.Test.YtlkkppphbkmdoaaBox
/- What the laws over results that are lists of int64 need: owned slices told by values, and the contracts of compare, mark and held over them. Conditions: those in the theorems. -/
namespace Go.Proofs.Ytlkkppphbkmdoaa
open Go.RowKit

/-- The slice value v is the call's own, its block lies in lo .. hi - 1, and it holds xs. -/
def OwnIn (w : World) (lo hi : Nat) (v : Value) (xs : List Int) : Prop := Own w lo v xs ∧ hi ≤ w.heap.size ∧ ∀ k, v.ownBlock = some k → lo ≤ k ∧ k < hi

theorem Own.inn {w : World} {lo : Nat} {v : Value} {xs : List Int} (h : Own w lo v xs) : OwnIn w lo w.heap.size v xs := ⟨h, Nat.le_refl _, World.ownsRow.lt h⟩
theorem OwnIn.below {w w' : World} {lo hi C : Nat} {v : Value} {xs : List Int} (h : OwnIn w lo hi v xs) (hb : Below C w w') (hC : hi ≤ C) : OwnIn w' lo hi v xs := by
  refine ⟨⟨h.1.1, ?_⟩, Nat.le_trans h.2.1 hb.size, h.2.2⟩
  rcases h.1.2 with h2 | ⟨g, cap, cur, hv, hg, hh, r⟩
  · exact .inl h2
  · have hlt := (h.2.2 g (by rw [hv]; rfl)).2
    exact .inr ⟨g, cap, cur, hv, hg, by rw [hb.block g (by omega)]; exact hh, r⟩
theorem OwnIn.drewN {w : World} {lo hi : Nat} {v : Value} {xs : List Int} (h : OwnIn w lo hi v xs) (q : Nat) : OwnIn (w.drewN q) lo hi v xs := h.below (below_drewN (Below.refl hi w) q) (Nat.le_refl _)
theorem OwnIn.other {w w' : World} {lo hi lo' hi' : Nat} {v u : Value} {xs ys : List Int} (h : OwnIn w lo hi v xs) (hu : OwnIn w lo' hi' u ys) (hg : w.grownBy w' u.ownBlock) (hd : hi ≤ lo' ∨ hi' ≤ lo) : OwnIn w' lo hi v xs := by
  refine ⟨World.ownsRow.kept h.1 hg ?_, Nat.le_trans h.2.1 hg.size, h.2.2⟩
  cases hv : v.ownBlock with
  | none => exact .inl rfl
  | some k =>
    right
    intro e
    have h1 := h.2.2 k hv
    have h2 := hu.2.2 k e.symm
    omega

theorem eq_own (xs : List Int) (v v' : Value) (lo hi lo' hi' : Nat) (w : World) (hl : xs.length ≤ 1048576) (h : OwnIn w lo hi v xs) (h' : OwnIn w lo' hi' v' xs) :
    Calls Try.prog 27 #[v, v'] w (SomeDrew w fun e => e = .returned (.bool true)) := by
  obtain ⟨a, cap, rfl, hat, -, -, -⟩ := h.1.at
  obtain ⟨a', cap', rfl, hat', -, -, -⟩ := h'.1.at
  exact eqInt64S_any xs a a' xs.length cap cap' w hl hat hat'

end Go.Proofs.Ytlkkppphbkmdoaa

/- What the program's preimage answers: the elements that are related to a member of a mask. Conditions: those in the theorems. -/
namespace Go.Proofs.Ytlkkppphbkmdoaa
open Go.RowKit

def piTo (xs : List Int) (m : Int) : Nat → Int
  | 0 => 0
  | k + 1 => if bits .and .i64 (nth xs k) m == 0 then piTo xs m k else bits .or .i64 (piTo xs m k) (one k)

set_option maxHeartbeats 400000 in
theorem preimage_any (xs : List Int) (m : Int) (a : Option Addr) (len cap : Nat) (w : World) (hl : len ≤ 30) (h : At w a len xs) :
    Calls Try.prog 66 #[.slice a len cap, .int .i64 m] w fun e w' => e = .returned (.int .i64 (piTo xs m len)) ∧ w = w' := by
  obtain ⟨hlen, rfl | ⟨b, off, rfl, hb, hc⟩⟩ := h
  · clear hlen
    go_enter Try.func66, Try.ntmps66
    go_wp2
    refine wp_loop_rounds 1 ?_
    rw [rounds_succ]
    go_wp2
    go_ret
    exact ⟨rfl, rfl⟩
  · clear hlen hb
    go_enter Try.func66, Try.ntmps66
    go_wp2
    go_loop [5, 10] (fun s i => ∃ k : Nat, k ≤ len ∧ i = .int .i64 k ∧ s = .int .i64 (piTo xs m k)) (fun _ i => len - (intOf i).toNat)
    case atStart => exact ⟨0, Nat.zero_le _, rfl, rfl⟩
    case round =>
      obtain ⟨k, hk, rfl, rfl⟩ := hrel
      by_cases hlt : k < len
      · have hcell := hc k hlt
        clear hc
        cases hs : (bits .and .i64 (nth xs k) m == 0)
        all_goals
          have hs2 : (bits .and .i64 (nth xs k) m != 0) = !(bits .and .i64 (nth xs k) m == 0) := rfl
          rw [hs] at hs2
          have HB := Lib.hid hs
          clear hs
          go_wp2
          go_round
          case rel => exact ⟨k + 1, hlt, by go_num, by simp only [piTo, HB.out]; first | rfl | simp [one]⟩
          case measure => simp [intOf]; omega
      · obtain rfl : k = len := by omega
        clear hc
        go_wp2
        go_ret
        exact ⟨rfl, rfl⟩

end Go.Proofs.Ytlkkppphbkmdoaa
