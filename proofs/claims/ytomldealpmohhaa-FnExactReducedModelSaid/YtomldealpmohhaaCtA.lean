/- The record of a contest: its cells, its row of rounds; its last round; what labels worlds. Conditions: those in the theorems. -/
import Derived.Test.YtomldealpmohhaaCtM
import Derived.Test.YtomldealpmohhaaJn20
import Derived.Test.YtomldealpmohhaaJn21
namespace Go.Proofs.Ytomldealpmohhaa
open Go.RowKit

def cnF (n : Int) (a : Option Addr) (l c : Nat) (b : Option Addr) (m d : Nat) (v : Value) (t : Nat) : Value := if t = 0 then .int .i64 n else if t = 1 then .slice a l c else if t = 2 then .slice b m d else v
def Cn (w : World) (R : Nat) (n : Int) (a : Option Addr) (l c : Nat) (b : Option Addr) (m d : Nat) (v : Value) : Prop := w.rowIs R 92 4 (cnF n a l c b m d v)
theorem Cn.lit {w : World} {R : Nat} {n : Int} {a : Option Addr} {l c : Nat} {b : Option Addr} {m d : Nat} {v : Value} (h : Cn w R n a l c b m d v) : w.cell? ⟨R, 0, none⟩ = some (.int .i64 n) ∧ w.cell? ⟨R, 1, none⟩ = some (.slice a l c) ∧ w.cell? ⟨R, 2, none⟩ = some (.slice b m d) ∧ w.cell? ⟨R, 3, none⟩ = some v ∧ w.frozen? ⟨R, 3, none⟩ = false :=
  ⟨World.rowIs.cell h (by decide), World.rowIs.cell h (by decide), World.rowIs.cell h (by decide), World.rowIs.cell h (by decide), World.rowIs.frozen h 3⟩
theorem Cn.new (w : World) (n : Int) (a : Option Addr) (l c : Nat) (b : Option Addr) (m d : Nat) (v : Value) : Cn (w.alloc (.cells #[.int .i64 n, .slice a l c, .slice b m d, v] 92)) w.heap.size n a l c b m d v := by
  refine ⟨_, (MapKept.heap_alloc w _).1, rfl, fun i hi => ?_⟩
  match i, hi with
  | 0, _ => rfl
  | 1, _ => rfl
  | 2, _ => rfl
  | 3, _ => rfl
theorem Cn.set {w : World} {R : Nat} {n : Int} {a : Option Addr} {l c : Nat} {b : Option Addr} {m d : Nat} {v : Value} (h : Cn w R n a l c b m d v) (v' : Value) : Cn (w.setCell ⟨R, 3, none⟩ v') R n a l c b m d v' := by
  refine (World.rowIs.set h 3 v').congr fun t ht => ?_
  unfold cnF
  by_cases e : t = 3
  · subst e; simp
  · have : t = 0 ∨ t = 1 ∨ t = 2 := by omega
    rcases this with rfl | rfl | rfl <;> simp

/-- Blocks of other types are other blocks. -/
theorem blk_ne {w : World} {g b : Nat} {c c' : Array Value} {t t' : TypeId} (h : w.heap[g]? = some (.cells c t (0, 0))) (h' : w.heap[b]? = some (.cells c' t' (0, 0))) (ht : t ≠ t') : g ≠ b := by
  rintro rfl
  rw [h] at h'
  simp only [Option.some.injEq, Obj.cells.injEq] at h'
  exact ht h'.2.1
theorem row_blk {w : World} {B n s : Nat} {t : TypeId} {v : Value} {xs : List Value} (h : w.ownsRow B t s v n xs) {g : Nat} (hg : v.ownBlock = some g) : ∃ cur, w.heap[g]? = some (.cells cur t (0, 0)) := by
  obtain ⟨-, ⟨rfl, -⟩ | ⟨g', c', cur, rfl, hB, hh, -⟩⟩ := h
  · cases hg
  · cases hg; exact ⟨cur, hh⟩
theorem row_ne_row {w : World} {B n s B' n' s' : Nat} {t t' : TypeId} {v v' : Value} {xs xs' : List Value} (h : w.ownsRow B t s v n xs) (h' : w.ownsRow B' t' s' v' n' xs') (ht : t ≠ t') : v.ownBlock = none ∨ v.ownBlock ≠ v'.ownBlock := by
  cases hv : v.ownBlock with
  | none => exact .inl rfl
  | some g =>
    right
    intro e
    obtain ⟨c1, h1⟩ := row_blk h hv
    obtain ⟨c2, h2⟩ := row_blk h' e.symm
    exact blk_ne h1 h2 ht rfl
theorem row_ne_is {w : World} {B n s b m : Nat} {t t' : TypeId} {v : Value} {xs : List Value} {f : Nat → Value} (h : w.ownsRow B t s v n xs) (h' : w.rowIs b t' m f) (ht : t ≠ t') : v.ownBlock = none ∨ v.ownBlock ≠ some b := by
  cases hv : v.ownBlock with
  | none => exact .inl rfl
  | some g =>
    right
    intro e
    obtain ⟨c1, h1⟩ := row_blk h hv
    obtain ⟨c2, h2, -⟩ := h'
    cases e
    exact blk_ne h1 h2 ht rfl
theorem grown_setC (w : World) (g o : Nat) (v : Value) : w.grownBy (w.setCell ⟨g, o, none⟩ v) (some g) := ⟨rfl, rfl, rfl, by simp [World.setCell], fun k _ hne2 => Below.heap_setCell _ _ _ _ (fun e => hne2 (by rw [e]))⟩

/-- The row of the rounds. -/
def Rn (w : World) (B : Nat) (v : Value) (us : List Value) (cs : Nat → List Int) (k : Nat) : Prop := w.ownsRow B 89 1 v k us ∧ ∀ j, j < k → ∃ a c, us[j]? = some (.slice a (cs j).length c) ∧ Own w B (.slice a (cs j).length c) (cs j)
theorem Rn.keep {w w' : World} {B C k : Nat} {v : Value} {us : List Value} {cs : Nat → List Int} (h : Rn w B v us cs k) (hb : Below C w w') (hC : w.heap.size ≤ C) : Rn w' B v us cs k := by
  refine ⟨?_, fun j hj => ?_⟩
  · have hr := h.1
    refine World.ownsRow.kept (row := none) hr ⟨hb.os, hb.tape, hb.output, hb.size, fun i hi _ => hb.block i (by omega)⟩ ?_
    cases hv : v.ownBlock with
    | none => exact .inl rfl
    | some g => exact .inr (by simp)
  · obtain ⟨a, c, e, ho⟩ := h.2 j hj
    exact ⟨a, c, e, ho.keep hb hC⟩
theorem Rn.grown {w w' : World} {B k b m : Nat} {v : Value} {us : List Value} {cs : Nat → List Int} {f : Nat → Value} (h : Rn w B v us cs k) (hR : w.rowIs b 92 m f) (hg : w.grownBy w' (some b)) : Rn w' B v us cs k := by
  refine ⟨World.ownsRow.kept h.1 hg (row_ne_is h.1 hR (by decide)), fun j hj => ?_⟩
  obtain ⟨a, c, e, ho⟩ := h.2 j hj
  exact ⟨a, c, e, World.ownsRow.kept ho hg (row_ne_is ho hR (by decide))⟩
theorem Rn.mono {w : World} {B B' k : Nat} {v : Value} {us : List Value} {cs : Nat → List Int} (h : Rn w B v us cs k) (hB : B' ≤ B) : Rn w B' v us cs k := by
  refine ⟨?_, fun j hj => ?_⟩
  · obtain ⟨h1, h2 | ⟨g, c, cur, e, hb, r⟩⟩ := h.1
    · exact ⟨h1, .inl h2⟩
    · exact ⟨h1, .inr ⟨g, c, cur, e, Nat.le_trans hB hb, r⟩⟩
  · obtain ⟨a, c, e, ho⟩ := h.2 j hj
    exact ⟨a, c, e, ho.mono hB⟩
theorem Rn.form {w : World} {B k : Nat} {v : Value} {us : List Value} {cs : Nat → List Int} (h : Rn w B v us cs k) : ∃ a c, v = .slice a k c ∧ (k = 0 ∨ ∃ g, a = some ⟨g, 0, none⟩ ∧ B ≤ g ∧ g < w.heap.size ∧ ∀ j, j < k → w.cell? ⟨g, j, none⟩ = us[j]?) := by
  obtain ⟨hl, ⟨e, e0⟩ | ⟨g, c, cur, e, hb, hh, r⟩⟩ := h.1
  · subst e0; exact ⟨_, _, e, .inl rfl⟩
  · subst e
    exact ⟨_, _, rfl, .inr ⟨g, rfl, hb, (Array.getElem?_eq_some_iff.1 hh).1, fun j hj => World.ownsRow.cellAt h.1 j (by omega)⟩⟩

theorem infoP : (Try.prog.info? 89).map (fun i => (i.zero, i.size, i.bytes)) = some (some (.slice none 0 0), 1, 24) := by kernel_rfl
/-- append of one partition to the rounds. -/
theorem wp_appP {o : Oper} {a : Act} {w : World} {K : Act → World → Prop} {Q : Exit → Act → World → Prop} (s x : Operand)
    (ho : o.op = .call { callee := .builtin .append, args := #[s, x], argTypes := #[90, 90] })
    (B : Nat) (v : Value) (n : Nat) (xs : List Value) (hs : a.eval s = v) (hown : w.ownsRow B 89 1 v n xs)
    (ad : Addr) (c : Nat) (z : Value) (hz1' : z.oneCell' = true) (hx : a.eval x = .slice (some ad) 1 c) (hz : w.cell? ad = some z) (hn : n ≤ 1048576) (hB : B ≤ w.heap.size)
    (h : ∀ v' w', w'.ownsRow B 89 1 v' (n + 1) (xs ++ [z]) → w.grownBy w' v.ownBlock → K (a.put o.dst v') w') : o.wp Try.prog a w K Q := by
  obtain ⟨i0, hi, hz0, hz1, hz2⟩ := info_parts infoP
  refine wp_append_own w s x 90 ho B 89 i0 (.slice none 0 0) 1 24 Try.underlying90 hi hz0 hz1 hz2 rfl (by decide) v n xs hs hown ad 1 c [z] hx rfl ?_ ?_ (by unfold maxLen; omega) (by omega) hB (fun v' w' h1 h2 _ => h v' w' h1 h2)
  · intro j u hu
    match j, hu with
    | 0, hu => simp at hu; subst hu; simpa [Addr.add] using hz
  · intro u hu
    simp at hu; subst hu; exact hz1'
theorem list_appP {ops : Array Oper} {rest : List Oper} {o : Oper} {a : Act} {w : World} {Q : Exit → Act → World → Prop} (hgd : o.guard = none) (s x : Operand)
    (ho : o.op = .call { callee := .builtin .append, args := #[s, x], argTypes := #[90, 90] })
    (B : Nat) (v : Value) (n : Nat) (xs : List Value) (hs : a.eval s = v) (hown : w.ownsRow B 89 1 v n xs)
    (ad : Addr) (c : Nat) (z : Value) (hz1' : z.oneCell' = true) (hx : a.eval x = .slice (some ad) 1 c) (hz : w.cell? ad = some z) (hn : n ≤ 1048576) (hB : B ≤ w.heap.size)
    (h : ∀ v' w', w'.ownsRow B 89 1 v' (n + 1) (xs ++ [z]) → w.grownBy w' v.ownBlock → wpList Try.prog ops Q rest (a.put o.dst v') w') : wpList Try.prog ops Q (o :: rest) a w :=
  wpList_plain hgd fun _ hK => wp_appP s x ho B v n xs hs hown ad c z hz1' hx hz hn hB fun v' w' h1 h2 => hK _ _ (h v' w' h1 h2)
theorem Rn.app {w w' : World} {B k : Nat} {v v' : Value} {us : List Value} {cs : Nat → List Int} {a : Option Addr} {c : Nat} (h : Rn w B v us cs k) (ho : Own w B (.slice a (cs k).length c) (cs k)) (hr : w'.ownsRow B 89 1 v' (k + 1) (us ++ [.slice a (cs k).length c])) (hg : w.grownBy w' v.ownBlock) : Rn w' B v' (us ++ [.slice a (cs k).length c]) cs (k + 1) := by
  have hl : us.length = k := by have := h.1.1; omega
  refine ⟨hr, fun j hj => ?_⟩
  by_cases e : j < k
  · obtain ⟨a', c', e', ho'⟩ := h.2 j e
    exact ⟨a', c', by rw [List.getElem?_append_left (by omega)]; exact e', World.ownsRow.kept ho' hg (row_ne_row ho' h.1 (by decide))⟩
  · obtain rfl : j = k := by omega
    exact ⟨a, c, by rw [List.getElem?_append_right (by omega), hl, Nat.sub_self]; rfl, World.ownsRow.kept ho hg (row_ne_row ho h.1 (by decide))⟩

set_option maxHeartbeats 400000 in
theorem last_any (n : Int) (a : Option Addr) (l c : Nat) (b : Option Addr) (m d : Nat) (g k cap : Nat) (u : Value) (w : World) (hk : k ≤ 1048576) (hg : g < w.heap.size) (h : w.cell? ⟨g, k, none⟩ = some u) :
    Calls Try.prog 73 #[.agg #[.int .i64 n, .slice a l c, .slice b m d, .slice (some ⟨g, 0, none⟩) (k + 1) cap]] w fun e w' => e = .returned u ∧ Below w.heap.size w w' := by
  obtain ⟨W, hW, hb, hC⟩ : ∃ W, W = w.alloc (.cells #[.int .i64 n, .slice a l c, .slice b m d, .slice (some ⟨g, 0, none⟩) (k + 1) cap] 92) ∧ Below w.heap.size w W ∧ Cn W w.heap.size n a l c b m d (.slice (some ⟨g, 0, none⟩) (k + 1) cap) := ⟨_, rfl, (alloc_keep _ _).1, Cn.new _ _ _ _ _ _ _ _ _⟩
  have B := Lib.hid hb
  have hu := (hb.cell (p := ⟨g, k, none⟩) hg).trans h
  obtain ⟨c0, c1, c2, c3, -⟩ := hC.lit
  have HW := Lib.hid hW
  have hi9 : IntKind.i64.wrap ((k : Int) + 1 - 1) = (k : Int) := by rw [IntKind.wrap_i64]; omega
  clear hW hb hC hu
  go_enter Try.func73, Try.ntmps73
  go_wp2
  go_ret
  exact ⟨rfl, by rw [← HW.out]; exact B.out⟩

end Go.Proofs.Ytomldealpmohhaa
