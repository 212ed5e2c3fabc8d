/- 2 texts in one: GsP, GsS. -/
import Derived.Test.YtomldealpmohhaaJn19
import Derived.Test.YtomldealpmohhaaRepI
import Derived.Test.YtomldealpmohhaaJn20
/- Contracts of GreatestSimulation of the program and of the model. Conditions: those in the theorems. -/
namespace Go.Proofs.Ytomldealpmohhaa
open Go.RowKit

noncomputable def gsV (n0 : Int) (xs ys : List Int) (n1 : Int) (ps zs : List Int) : List Int := if m2C n0 xs ys n1 ps zs = 0 then gsL xs ys ps zs else []
theorem gs_bad {n0 n1 : Int} {xs ys ps zs : List Int} (h : (isM n0 xs ys && isM n1 ps zs) = false) : m2C n0 xs ys n1 ps zs = 1 ∧ gsV n0 xs ys n1 ps zs = [] := by
  have : m2C n0 xs ys n1 ps zs = 1 := by rw [m2C, h]; rfl
  exact ⟨this, by rw [gsV, this]; rfl⟩
theorem gs_ok {n0 n1 : Int} {xs ys ps zs : List Int} (h : (isM n0 xs ys && isM n1 ps zs) = true) : m2C n0 xs ys n1 ps zs = 0 ∧ gsV n0 xs ys n1 ps zs = gsL xs ys ps zs := by
  have : m2C n0 xs ys n1 ps zs = 0 := by rw [m2C, h]; rfl
  exact ⟨this, by rw [gsV, if_pos this]⟩
theorem out_c {v : Value} {c c' : Int} (h : c' = c) : Ending.returned (.tuple #[v, .int .i64 c]) = .returned (.tuple #[v, .int .i64 c']) := by rw [h]
theorem At_new (w : World) (x : Int) : At (w.alloc (.cells #[.int .i64 x] 2)) (some ⟨w.heap.size, 0, none⟩) 1 [x] :=
  ⟨rfl, .inr ⟨w.heap.size, 0, rfl, by simp, fun j hj => (by
    obtain rfl : j = 0 := by omega
    exact World.cell?_alloc_at _ _ _ _ rfl)⟩⟩

end Go.Proofs.Ytomldealpmohhaa

/- The contract of GreatestSimulation of the model. Conditions: those in the theorem. -/
namespace Go.Proofs.Ytomldealpmohhaa
open Go.RowKit

/-- A row of which the entries below k are met with another one's. -/
def meF (F G : Nat → Int) (k t : Nat) : Int := if t < k then bits .and .i64 (F t) (G t) else F t
theorem me_at (F G : Nat → Int) (k : Nat) : meF F G k k = F k := by unfold meF; rw [if_neg (by omega)]
theorem me_zero (F G : Nat → Int) : meF F G 0 = F := by funext t; unfold meF; rw [if_neg (by omega)]
theorem me_set {F G : Nat → Int} {k : Nat} {z : Int} (h : z = bits .and .i64 (F k) (G k)) (t : Nat) : (if t = k then z else meF F G k t) = meF F G (k + 1) t := by
  subst h
  unfold meF
  by_cases e : t = k
  · subst e; rw [if_pos rfl, if_pos (by omega)]
  · rw [if_neg e]
    by_cases h2 : t < k
    · rw [if_pos h2, if_pos (by omega)]
    · rw [if_neg h2, if_neg (by omega)]
theorem me_all {xs ys ps zs ls : List Int} (h : Lk xs ys ps zs ls) : tab xs.length (meF (belV xs ys ps zs ls) (nth ls) xs.length) = simL xs ys ps zs ls := by
  unfold simL tab
  rw [h.ll]
  refine List.map_congr_left fun t ht => ?_
  have := List.mem_range.1 ht
  unfold meF
  rw [if_pos this, h.kept]

theorem At.setO' {w : World} {a : Option Addr} {len g o : Nat} {xs : List Int} {v : Value} (h : At w a len xs) (hne : ∀ p, a = some p → p.block ≠ g) : At (w.setCell ⟨g, o, none⟩ v) a len xs := by
  refine ⟨h.1, ?_⟩
  rcases h.2 with h2 | ⟨b, off, ha, hlt, hc⟩
  · exact .inl h2
  · exact .inr ⟨b, off, ha, by simpa using hlt, fun j hj => (World.cell?_setCell_other _ _ _ _ (fun e => hne _ ha (by cases e; rfl))).trans (hc j hj)⟩
theorem own_lt {w : World} {B n c : Nat} {p : Addr} {xs : List Int} (h : Own w B (.slice (some p) n c) xs) : p.block < w.heap.size := by
  obtain ⟨-, ⟨e, -⟩ | ⟨g', c', cur, e, hB, hh, -⟩⟩ := h
  · cases e
  · simp only [Value.slice.injEq, Option.some.injEq] at e
    obtain ⟨rfl, -⟩ := e
    exact (Array.getElem?_eq_some_iff.1 hh).1
theorem own_setO {w : World} {B g o l lo len c : Nat} {xs : List Int} {v : Value} (h : Own w B (.slice (some ⟨l, lo, none⟩) len c) xs) (hne : l ≠ g) : Own (w.setCell ⟨g, o, none⟩ v) B (.slice (some ⟨l, lo, none⟩) len c) xs := by
  refine World.ownsRow.kept (w' := w.setCell ⟨g, o, none⟩ v) (row := some g) h ⟨rfl, rfl, rfl, by simp [World.setCell], fun k _ hne2 => Below.heap_setCell _ _ _ _ (fun e => hne2 (by rw [e]))⟩ (.inr fun e => hne ?_)
  cases e
  rfl

theorem GreatestSimulation_len (n0 : Int) (xs ys : List Int) (n1 : Int) (ps zs : List Int) : (gsV n0 xs ys n1 ps zs).length ≤ 1048576 := by
  cases hf : (isM n0 xs ys && isM n1 ps zs)
  · rw [(gs_bad hf).2]; simp
  · rw [(gs_ok hf).2]
    rw [Bool.and_eq_true] at hf
    have LK := gs_start hf.1 hf.2
    have h8 := LK.x8
    -- some round is the last
    have key : ∀ m k, muL (gsN xs ys ps zs k) xs.length < m → ∃ k, simL xs ys ps zs (gsN xs ys ps zs k) = gsN xs ys ps zs k := by
      intro m
      induction m with
      | zero => intro k h; omega
      | succ m ih =>
        intro k h
        by_cases e : simL xs ys ps zs (gsN xs ys ps zs k) = gsN xs ys ps zs k
        · exact ⟨k, e⟩
        · have := (gs_lk LK k).drop e
          exact ih (k + 1) (by show muL (simL xs ys ps zs (gsN xs ys ps zs k)) _ < m; omega)
    obtain ⟨k, hk⟩ := key _ 0 (Nat.lt_succ_self _)
    rw [gsL_len hk]
    omega

end Go.Proofs.Ytomldealpmohhaa
