/- 3 texts in one: Law, Wi, Pre. -/
import Derived.Test.YtnoaaklkbfbdbaaDoorBox
import Derived.Test.YtnoaaklkbfbdbaaDoorSlices
/- What the laws over results that are lists of int64 need: owned slices told by values, and the contracts of compare, mark and held over them. Conditions: those in the theorems. -/
namespace Go.Proofs.YtnoaaklkbfbdbaaDoor
open Go.RowKit

/-- The slice value v is the call's own, its block lies in lo .. hi - 1, and it holds xs. -/
def OwnIn (w : World) (lo hi : Nat) (v : Value) (xs : List Int) : Prop := Own w lo v xs ∧ hi ≤ w.heap.size ∧ ∀ k, v.ownBlock = some k → lo ≤ k ∧ k < hi

theorem Own.inn {w : World} {lo : Nat} {v : Value} {xs : List Int} (h : Own w lo v xs) : OwnIn w lo w.heap.size v xs := ⟨h, Nat.le_refl _, World.ownsRow.lt h⟩
theorem OwnIn.below {w w' : World} {lo hi C : Nat} {v : Value} {xs : List Int} (h : OwnIn w lo hi v xs) (hb : Below C w w') (hC : hi ≤ C) : OwnIn w' lo hi v xs := by
  refine ⟨⟨h.1.1, ?_⟩, Nat.le_trans h.2.1 hb.size, h.2.2⟩
  rcases h.1.2 with h2 | ⟨g, cap, cur, hv, hg, hh, r⟩
  · exact .inl h2
  · have hlt := (h.2.2 g (by rw [hv]; rfl)).2
    exact .inr ⟨g, cap, cur, hv, hg, by rw [hb.block g (by omega)]; exact hh, r⟩
theorem OwnIn.drewN {w : World} {lo hi : Nat} {v : Value} {xs : List Int} (h : OwnIn w lo hi v xs) (q : Nat) : OwnIn (w.drewN q) lo hi v xs := h.below (below_drewN (Below.refl hi w) q) (Nat.le_refl _)
theorem OwnIn.other {w w' : World} {lo hi lo' hi' : Nat} {v u : Value} {xs ys : List Int} (h : OwnIn w lo hi v xs) (hu : OwnIn w lo' hi' u ys) (hg : w.grownBy w' u.ownBlock) (hd : hi ≤ lo' ∨ hi' ≤ lo) : OwnIn w' lo hi v xs := by
  refine ⟨World.ownsRow.kept h.1 hg ?_, Nat.le_trans h.2.1 hg.size, h.2.2⟩
  cases hv : v.ownBlock with
  | none => exact .inl rfl
  | some k =>
    right
    intro e
    have h1 := h.2.2 k hv
    have h2 := hu.2.2 k e.symm
    omega

theorem eq_own (xs : List Int) (v v' : Value) (lo hi lo' hi' : Nat) (w : World) (hl : xs.length ≤ 1048576) (h : OwnIn w lo hi v xs) (h' : OwnIn w lo' hi' v' xs) :
    Calls Tryd.prog 11 #[v, v'] w (SomeDrew w fun e => e = .returned (.bool true)) := by
  obtain ⟨a, cap, rfl, hat, -, -, -⟩ := h.1.at
  obtain ⟨a', cap', rfl, hat', -, -, -⟩ := h'.1.at
  exact eqInt64S_any xs a a' xs.length cap cap' w hl hat hat'

theorem mark_own (xs : List Int) (v : Value) (lo hi : Nat) (n : Int) (w : World) (hl : xs.length ≤ 1048576) (hn : 0 ≤ n) (hn2 : n ≤ 4611686018427387904) (h : OwnIn w lo hi v xs) :
    Calls Tryd.prog 16 #[v, .int .i64 n] w fun e w' => e = .returned (.int .i64 (n + xs.length)) ∧ OwnIn w' lo hi v (mks n xs.length) ∧ Below lo w w' ∧ w.grownBy w' v.ownBlock :=
  (markInt64S_any xs v lo n w hl hn hn2 h.1).mono fun _ _ ⟨h1, h2, h3, h4⟩ => ⟨h1, ⟨h2, Nat.le_trans h.2.1 h3.size, h.2.2⟩, h3, h4⟩

theorem held_own (m : Nat) (v : Value) (lo hi : Nat) (n : Int) (w : World) (hl : m ≤ 1048576) (hn : 0 ≤ n) (hn2 : n ≤ 4611686018427387904) (h : OwnIn w lo hi v (mks n m)) :
    Calls Tryd.prog 17 #[v, .int .i64 n] w fun e w' => e = .returned (.int .i64 (n + m)) ∧ w = w' := by
  obtain ⟨a, cap, rfl, hat, -, -, -⟩ := h.1.at
  rw [mks_len] at hat ⊢
  exact heldInt64S_any m a cap n w hl hn hn2 hat

end Go.Proofs.YtnoaaklkbfbdbaaDoor

/- Rows that a call owns, whatever their elements: what keeps them. Conditions: those in the theorems. -/
namespace Go.Proofs.YtnoaaklkbfbdbaaDoor
open Go.RowKit

def atV (vs : List Value) (j : Nat) : Value := vs.getD j (.slice none 0 0)
theorem atV_some {vs : List Value} {j : Nat} (h : j < vs.length) : vs[j]? = some (atV vs j) := by simp [atV, List.getD_eq_getElem?_getD, h]
theorem ownsRow_below {w w' : World} {lo C : Nat} {e : TypeId} {sz : Nat} {v : Value} {n : Nat} {xs : List Value} (h : w.ownsRow lo e sz v n xs) (hk : ∀ k, v.ownBlock = some k → k < C) (hb : Below C w w') : w'.ownsRow lo e sz v n xs := by
  refine ⟨h.1, ?_⟩
  rcases h.2 with h2 | ⟨g, cap, cur, hv, hg, hh, r⟩
  · exact .inl h2
  · exact .inr ⟨g, cap, cur, hv, hg, by rw [hb.block g (hk g (by rw [hv]; rfl))]; exact hh, r⟩
theorem ownsRow_mono {w : World} {lo lo' : Nat} {e : TypeId} {sz : Nat} {v : Value} {n : Nat} {xs : List Value} (h : w.ownsRow lo e sz v n xs) (hl : lo' ≤ lo) : w.ownsRow lo' e sz v n xs := by
  refine ⟨h.1, ?_⟩
  rcases h.2 with h2 | ⟨g, cap, cur, hv, hg, r⟩
  · exact .inl h2
  · exact .inr ⟨g, cap, cur, hv, Nat.le_trans hl hg, r⟩

/-- Only blocks lo .. hi - 1 have turned. -/
structure Within (lo hi : Nat) (w w' : World) : Prop where
  os : w'.os = w.os
  tape : w'.tape = w.tape
  output : w'.output = w.output
  size : w.heap.size ≤ w'.heap.size
  block : ∀ k, k < w.heap.size → k < lo ∨ hi ≤ k → w'.heap[k]? = w.heap[k]?
theorem Within.refl (lo hi : Nat) (w : World) : Within lo hi w w := ⟨rfl, rfl, rfl, Nat.le_refl _, fun _ _ _ => rfl⟩
theorem Within.grown {lo hi : Nat} {w a b : World} {r : Option Nat} (h : Within lo hi w a) (hg : a.grownBy b r) (hr : ∀ k, r = some k → lo ≤ k ∧ k < hi) : Within lo hi w b :=
  ⟨hg.os.trans h.os, hg.tape.trans h.tape, hg.output.trans h.output, Nat.le_trans h.size hg.size, fun k hk hd => (hg.block k (Nat.lt_of_lt_of_le hk h.size) (fun e => by have := hr k e.symm; omega)).trans (h.block k hk hd)⟩
theorem Within.below {lo hi : Nat} {w w' : World} (h : Within lo hi w w') (hl : lo ≤ w.heap.size) : Below lo w w' := ⟨h.os, h.tape, h.output, h.size, fun k hk => h.block k (by omega) (.inl hk)⟩

theorem mono_to {p : Nat → Nat} {n : Nat} (h : ∀ j, j < n → p j ≤ p (j + 1)) {i j : Nat} (hij : i ≤ j) (hj : j ≤ n) : p i ≤ p j := by
  induction j with
  | zero => have : i = 0 := by omega
            subst this; exact Nat.le_refl _
  | succ j ih =>
    by_cases e : i = j + 1
    · subst e; exact Nat.le_refl _
    · exact Nat.le_trans (ih (by omega) (by omega)) (h j (by omega))

theorem atV_set {us : List Value} {k j : Nat} {v : Value} : atV (us.set k v) j = if j = k ∧ k < us.length then v else atV us j := by
  unfold atV
  rw [List.getD_eq_getElem?_getD, List.getD_eq_getElem?_getD, List.getElem?_set]
  by_cases e : j = k
  · subst e
    by_cases h : j < us.length <;> simp [h]
  · simp [e, Ne.symm e]

theorem rgrown_set (w : World) (b o : Nat) (v : Value) : w.grownBy (w.setCell ⟨b, o, none⟩ v) (some b) :=
  ⟨rfl, rfl, rfl, by simp [World.setCell], fun k _ hne => Below.heap_setCell _ _ _ _ (fun e => hne (by rw [e]))⟩
theorem row_type {w : World} {lo : Nat} {e : TypeId} {sz : Nat} {v : Value} {n : Nat} {xs : List Value} (h : w.ownsRow lo e sz v n xs) : ∀ k, v.ownBlock = some k → lo ≤ k ∧ ∃ cs f, w.heap[k]? = some (.cells cs e f) := by
  intro k hk
  rcases h.2 with ⟨hv, -⟩ | ⟨g, cap, cur, hv, hg, hh, -⟩
  · rw [hv] at hk; cases hk
  · rw [hv] at hk; cases hk; exact ⟨hg, cur, (0, 0), hh⟩
theorem row_kept {w w' : World} {lo : Nat} {e : TypeId} {sz : Nat} {v : Value} {n : Nat} {xs : List Value} {r : Option Nat} (h : w.ownsRow lo e sz v n xs) (hg : w.grownBy w' r) (hr : ∀ k, r = some k → ∃ cs T f, w.heap[k]? = some (.cells cs T f) ∧ T ≠ e) : w'.ownsRow lo e sz v n xs := by
  refine World.ownsRow.kept h hg ?_
  cases hv : v.ownBlock with
  | none => exact .inl rfl
  | some k =>
    right
    intro e2
    obtain ⟨-, cs, f, h1⟩ := row_type h k hv
    obtain ⟨cs', T, f', h2, h3⟩ := hr k e2.symm
    rw [h1] at h2
    simp only [Option.some.injEq, Obj.cells.injEq] at h2
    exact h3 h2.2.1.symm
theorem row_slice {w : World} {lo : Nat} {e : TypeId} {sz : Nat} {v : Value} {n : Nat} {xs : List Value} (h : w.ownsRow lo e sz v n xs) : ∃ a c, v = .slice a n c := by
  rcases h.2 with ⟨hv, hn⟩ | ⟨g, cap, cur, hv, -⟩
  · exact ⟨none, 0, by rw [hv, hn]⟩
  · exact ⟨_, _, hv⟩
theorem rec_kept {w w' : World} {R : Nat} {c : Array Value} {T : TypeId} {f : Nat × Nat} {r : Option Nat} (h : w.heap[R]? = some (.cells c T f)) (hg : w.grownBy w' r) (hr : ∀ k, r = some k → ∃ cs T' f', w.heap[k]? = some (.cells cs T' f') ∧ T' ≠ T) : w'.heap[R]? = some (.cells c T f) := by
  rw [hg.block R (Array.getElem?_eq_some_iff.1 h).1 (fun e => ?_)]
  · exact h
  · obtain ⟨cs, T', f', h1, h2⟩ := hr R e.symm
    rw [h] at h1
    simp only [Option.some.injEq, Obj.cells.injEq] at h1
    exact h2 h1.2.1.symm
theorem row_other {w : World} {lo : Nat} {e T : TypeId} {sz : Nat} {v : Value} {n : Nat} {xs : List Value} (h : w.ownsRow lo e sz v n xs) (hT : e ≠ T) : ∀ k, v.ownBlock = some k → ∃ cs T' f', w.heap[k]? = some (.cells cs T' f') ∧ T' ≠ T := fun k hk => by
  obtain ⟨-, cs, f, h1⟩ := row_type h k hk
  exact ⟨cs, e, f, h1, hT⟩
theorem rec_other {w : World} {R : Nat} {c : Array Value} {e T : TypeId} {f : Nat × Nat} (h : w.heap[R]? = some (.cells c e f)) (hT : e ≠ T) : ∀ k, some R = some k → ∃ cs T' f', w.heap[k]? = some (.cells cs T' f') ∧ T' ≠ T := fun k hk => by
  cases hk
  exact ⟨c, e, f, h, hT⟩
theorem row_set {w : World} {R lo : Nat} {c : Array Value} {e T : TypeId} {f : Nat × Nat} {sz : Nat} {v : Value} {n : Nat} {xs : List Value} (h : w.ownsRow lo e sz v n xs) (hR : w.heap[R]? = some (.cells c T f)) (hT : T ≠ e) (o : Nat) (u : Value) : (w.setCell ⟨R, o, none⟩ u).ownsRow lo e sz v n xs := row_kept h (rgrown_set w R o u) (rec_other hR hT)

theorem row_take {w : World} {lo : Nat} {e : TypeId} {g n c : Nat} {xs : List Value} (h : w.ownsRow lo e 1 (.slice (some ⟨g, 0, none⟩) n c) n xs) (k : Nat) (hk : k ≤ n) : w.ownsRow lo e 1 (.slice (some ⟨g, 0, none⟩) k c) k (xs.take k) := by
  obtain ⟨hl, ⟨hv, -⟩ | ⟨g', cap, cur, hv, hg, hh, hc, hm, hs, ht⟩⟩ := h
  · cases hv
  · simp only [Value.slice.injEq, Option.some.injEq, Addr.mk.injEq, and_true] at hv
    obtain ⟨rfl, -, rfl⟩ := hv
    refine ⟨by simp; omega, .inr ⟨g, c, cur, rfl, hg, hh, by omega, hm, hs, ?_⟩⟩
    rw [← ht, List.take_take]
    congr 1
    omega
theorem row_some {w : World} {lo : Nat} {e : TypeId} {sz : Nat} {v : Value} {n : Nat} {xs : List Value} (h : w.ownsRow lo e sz v n xs) (hn : 0 < n) : ∃ g c, v = .slice (some ⟨g, 0, none⟩) n c ∧ lo ≤ g := by
  rcases h.2 with ⟨-, h0⟩ | ⟨g, cap, cur, hv, hg, -⟩
  · omega
  · exact ⟨g, cap, hv, hg⟩
theorem row_lt {w : World} {lo : Nat} {e : TypeId} {sz : Nat} {v : Value} {n : Nat} {xs : List Value} (h : w.ownsRow lo e sz v n xs) : ∀ k, v.ownBlock = some k → k < w.heap.size := fun k hk => by
  obtain ⟨-, cs, f, hh⟩ := row_type h k hk
  exact (Array.getElem?_eq_some_iff.1 hh).1
theorem row_within {w w' : World} {lo hi lo' hi' : Nat} {e : TypeId} {sz : Nat} {v : Value} {n : Nat} {xs : List Value} (h : w.ownsRow lo e sz v n xs) (hv : ∀ k, v.ownBlock = some k → lo ≤ k ∧ k < hi) (hw : Within lo' hi' w w') (hd : hi ≤ lo' ∨ hi' ≤ lo) : w'.ownsRow lo e sz v n xs := by
  refine ⟨h.1, ?_⟩
  rcases h.2 with h2 | ⟨g, cap, cur, hv2, hg, hh, r⟩
  · exact .inl h2
  · have hlt := hv g (by rw [hv2]; rfl)
    have hs : g < w.heap.size := (Array.getElem?_eq_some_iff.1 hh).1
    exact .inr ⟨g, cap, cur, hv2, hg, by rw [hw.block g hs (by omega)]; exact hh, r⟩
theorem made_row {w w1 : World} {lo : Nat} {e : TypeId} {g n c : Nat} {us : List Value} {k : Nat} (h : w.ownsRow lo e 1 (.slice (some ⟨g, 0, none⟩) n c) n us) (hk : k < n) (hb : Below w.heap.size w w1) : w1.ownsRow lo e 1 (.slice (some ⟨g, 0, none⟩) n c) n us ∧ w1.cell? ⟨g, k, none⟩ = some (atV us k) ∧ w1.frozen? ⟨g, k, none⟩ = false := by
  have h1 := ownsRow_below h (fun k hk => by obtain ⟨-, cs, f, hh⟩ := row_type h k hk; exact (Array.getElem?_eq_some_iff.1 hh).1) hb
  have hl := h.1
  exact ⟨h1, (h1.cellAt k (by omega)).trans (atV_some (by omega)), h1.frozenAt _⟩

end Go.Proofs.YtnoaaklkbfbdbaaDoor

/- What the program's preimage answers: the elements that are related to a member of a mask. Conditions: those in the theorems. -/
namespace Go.Proofs.YtnoaaklkbfbdbaaDoor
open Go.RowKit

def piTo (xs : List Int) (m : Int) : Nat → Int
  | 0 => 0
  | k + 1 => if bits .and .i64 (nth xs k) m == 0 then piTo xs m k else bits .or .i64 (piTo xs m k) (one k)

set_option maxHeartbeats 400000 in
theorem preimage_any (xs : List Int) (m : Int) (a : Option Addr) (len cap : Nat) (w : World) (hl : len ≤ 30) (h : At w a len xs) :
    Calls Tryd.prog 72 #[.slice a len cap, .int .i64 m] w fun e w' => e = .returned (.int .i64 (piTo xs m len)) ∧ w = w' := by
  obtain ⟨hlen, rfl | ⟨b, off, rfl, hb, hc⟩⟩ := h
  · clear hlen
    go_enter Tryd.func72, Tryd.ntmps72
    go_wp2
    refine wp_loop_rounds 1 ?_
    rw [rounds_succ]
    go_wp2
    go_ret
    exact ⟨rfl, rfl⟩
  · clear hlen hb
    go_enter Tryd.func72, Tryd.ntmps72
    go_wp2
    go_loop [5, 10] (fun s i => ∃ k : Nat, k ≤ len ∧ i = .int .i64 k ∧ s = .int .i64 (piTo xs m k)) (fun _ i => len - (intOf i).toNat)
    case atStart => exact ⟨0, Nat.zero_le _, rfl, rfl⟩
    case round =>
      obtain ⟨k, hk, rfl, rfl⟩ := hrel
      by_cases hlt : k < len
      · have hcell := hc k hlt
        clear hc
        cases hs : (bits .and .i64 (nth xs k) m == 0)
        all_goals
          have hs2 : (bits .and .i64 (nth xs k) m != 0) = !(bits .and .i64 (nth xs k) m == 0) := rfl
          rw [hs] at hs2
          have HB := Lib.hid hs
          clear hs
          go_wp2
          go_round
          case rel => exact ⟨k + 1, hlt, by go_num, by simp only [piTo, HB.out]; first | rfl | simp [one]⟩
          case measure => simp [intOf]; omega
      · obtain rfl : k = len := by omega
        clear hc
        go_wp2
        go_ret
        exact ⟨rfl, rfl⟩

end Go.Proofs.YtnoaaklkbfbdbaaDoor
