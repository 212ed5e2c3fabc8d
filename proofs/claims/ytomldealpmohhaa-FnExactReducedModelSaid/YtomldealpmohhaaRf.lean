/- What the program's classesOf and refine answer. Conditions: those in the theorems. -/
import Derived.Test.YtomldealpmohhaaJn13
import Derived.Test.YtomldealpmohhaaJn07
namespace Go.Proofs.Ytomldealpmohhaa
open Go.RowKit Go.Maps

theorem lab1_any (i : Int) (R : Nat) (m : Int) (w : World) (hi0 : 0 ≤ i) (hi1 : i ≤ 30) (h : w.cell? ⟨R, 0, none⟩ = some (.int .i64 m)) :
    Calls Try.prog 109 #[.int .i64 i, .pointer (some ⟨R, 0, none⟩)] w fun e w' => e = .returned (.bool (bitB m i)) ∧ w = w' := by
  go_enter Try.func109, Try.ntmps109
  go_wp2_with (go_at_call 54; refine (hasMember_any _ _ _ hi0 hi1).mono ?_; rintro e w' ⟨rfl, rfl⟩)
  go_ret
  exact ⟨rfl, rfl⟩

/-- Pairs in a row, cell by cell. -/
def pcF (c : Nat → Int) (u : Nat → Value) (t : Nat) : Value := if t % 2 = 0 then .int .i64 (c (t / 2)) else u (t / 2)
theorem pc_0 (c : Nat → Int) (u : Nat → Value) (k : Nat) : pcF c u (k * 2) = .int .i64 (c k) := by unfold pcF; rw [if_pos (by omega), Nat.mul_div_cancel _ (by decide)]
theorem pc_1 (c : Nat → Int) (u : Nat → Value) (k : Nat) : pcF c u (k * 2 + 1) = u k := by unfold pcF; rw [if_neg (by omega), show (k * 2 + 1) / 2 = k by omega]
def RowP (w : World) (g : Nat) (T : TypeId) (n k : Nat) (c : Nat → Int) (u : Nat → Value) : Prop := ∃ f, w.rowIs g T (n * 2) f ∧ ∀ t, t < k * 2 → f t = pcF c u t
theorem rowIs_below {w w' : World} {b n C : Nat} {t : TypeId} {f : Nat → Value} (h : w.rowIs b t n f) (hb : Below C w w') (hC : b < C) : w'.rowIs b t n f := by
  obtain ⟨c, hh, hs, hc⟩ := h
  exact ⟨c, (hb.block b hC).trans hh, hs, hc⟩
theorem rowIs_lt {w : World} {b n : Nat} {t : TypeId} {f : Nat → Value} (h : w.rowIs b t n f) : b < w.heap.size := by
  obtain ⟨c, hh, -⟩ := h
  exact (Array.getElem?_eq_some_iff.1 hh).1
theorem RowP.keep {w w' : World} {g n k : Nat} {T : TypeId} {c : Nat → Int} {u : Nat → Value} (h : RowP w g T n k c u) (hb : Below w.heap.size w w') : RowP w' g T n k c u := by
  obtain ⟨f, h1, h2⟩ := h
  exact ⟨f, rowIs_below h1 hb (rowIs_lt h1), h2⟩
theorem RowP.cells {w : World} {g n k : Nat} {T : TypeId} {c : Nat → Int} {u : Nat → Value} (h : RowP w g T n k c u) {j : Nat} (hj : j < n) : (∃ v, w.cell? ⟨g, j * 2, none⟩ = some v) ∧ (∃ v, w.cell? ⟨g, j * 2 + 1, none⟩ = some v) ∧ ∀ o, w.frozen? ⟨g, o, none⟩ = false := by
  obtain ⟨f, h1, -⟩ := h
  exact ⟨⟨_, h1.cell (by omega)⟩, ⟨_, h1.cell (by omega)⟩, fun o => h1.frozen o⟩
theorem RowP.set {w : World} {g n k : Nat} {T : TypeId} {c : Nat → Int} {u : Nat → Value} (h : RowP w g T n k c u) : RowP ((w.setCell ⟨g, k * 2, none⟩ (.int .i64 (c k))).setCell ⟨g, k * 2 + 1, none⟩ (u k)) g T n (k + 1) c u := by
  obtain ⟨f, h1, h2⟩ := h
  refine ⟨_, (h1.set (k * 2) (.int .i64 (c k))).set (k * 2 + 1) (u k), fun t ht => ?_⟩
  by_cases e1 : t = k * 2 + 1
  · subst e1; simp [pc_1]
  · by_cases e0 : t = k * 2
    · subst e0; simp [pc_0]
    · simp [e0, e1]
      exact h2 t (by omega)
theorem RowP.all {w : World} {g n : Nat} {T : TypeId} {c : Nat → Int} {u : Nat → Value} (h : RowP w g T n n c u) : AtP w (some ⟨g, 0, none⟩) n c u := by
  obtain ⟨f, h1, h2⟩ := h
  refine .inr ⟨g, 0, rfl, rowIs_lt h1, fun j hj => ?_⟩
  have a := h1.cell (show j * 2 < n * 2 by omega)
  have b := h1.cell (show j * 2 + 1 < n * 2 by omega)
  rw [h2 _ (by omega), pc_0] at a
  rw [h2 _ (by omega), pc_1] at b
  simp only [Nat.zero_add]
  exact ⟨a, b⟩
theorem RowP.made {w : World} {B n : Nat} {T : TypeId} {c : Nat → Int} {u : Nat → Value} {g : Nat} {cs : List Value} (h : w.ownsRow B T 2 (.slice (some ⟨g, 0, none⟩) n n) n cs) : RowP w g T n 0 c u := by
  obtain ⟨hl, ⟨e, -⟩ | ⟨g', cap, cur, e, hB, hh, hn, hm, hs, ht⟩⟩ := h
  · cases e
  · cases e
    exact ⟨fun i => (cur[i]?).getD (.bool false), ⟨cur, hh, hs, fun i hi => by show cur[i]? = some ((cur[i]?).getD (.bool false)); rw [Array.getElem?_eq_getElem (by omega)]; rfl⟩, fun t ht => by omega⟩


theorem infoB : (Try.prog.info? 134).map (fun i => (i.zero, i.size, i.bytes)) = some (some (.agg #[.int .i64 0, .bool false]), 2, 16) := by kernel_rfl
set_option maxHeartbeats 4000000 in
set_option maxRecDepth 100000 in
theorem refineB_any (cs : List Int) (u : Nat → Bool) (R : Nat) (a : Option Addr) (cap : Nat) (w : World) (hn : cs.length ≤ 4096) (hc : ∀ j, j < cs.length → (Lit.int .i64 (nth cs j)).wf = true) (h : At w a cs.length cs)
    (hf : ∀ (j : Nat), j < cs.length → ∀ W', Below w.heap.size w W' → Calls Try.prog 109 #[.int .i64 j, .pointer (some ⟨R, 0, none⟩)] W' fun e w'' => e = .returned (.bool (u j)) ∧ Below W'.heap.size W' w'') :
    Calls Try.prog 108 #[.slice a cs.length cap, .func (.func 109) #[] #[.pointer (some ⟨R, 0, none⟩)]] w fun e w' => ∃ v, e = .returned v ∧ Own w' w.heap.size v (tab cs.length (fun i => (numF (fun j => kyB (nth cs j) (u j)) i : Int))) ∧ Below w.heap.size w w' := by
  obtain ⟨i0, hi, hz0, hz1, hz2⟩ := info_parts infoB
  have H := Lib.hid h
  have HF := Lib.hid hf
  have HC := Lib.hid hc
  skip
  clear h hf hc
  obtain ⟨n, hnn⟩ : ∃ n, n = cs.length := ⟨_, rfl⟩
  rw [← hnn] at H HF HC hn ⊢
  clear hnn
  go_enter Try.func108, Try.ntmps108
  go_wp2_with (at_make; refine wpList_make_full _ rfl _ _ 132 rfl w.heap.size 134 i0 (.agg #[.int .i64 0, .bool false]) 2 Try.underlying132 hi hz0 hz1 _ _ _ _ n rfl rfl rfl rfl ?b2 ?b3 (Nat.le_refl _) ?_)
  case b2 => rw [hz2]; omega
  case b3 => unfold maxLen; omega
  intro w0 hown0 hgrow0
  have R0 := Lib.hid (RowP.made (c := nth cs) (u := fun j => .bool (u j)) hown0)
  have B0 := Lib.hid ((Below.refl w.heap.size w).grown hgrow0 (Nat.le_refl _) (fun k h => by cases h))
  clear hown0 hgrow0 hi hz0 hz1 hz2
  go_wp2
  go_loopw [13] (fun i wr => ∃ k : Nat, k ≤ n ∧ i = .int .i64 k ∧ Hid (RowP wr w.heap.size 134 n k (nth cs) (fun j => .bool (u j))) ∧ Hid (Below w.heap.size w wr)) (fun i _ => n - (intOf i).toNat)
  case atStart => exact ⟨0, Nat.zero_le _, rfl, R0, B0⟩
  case round =>
    clear R0 B0
    obtain ⟨k, hk, rfl, R, B⟩ := hrel
    by_cases hlt : k < n
    · obtain ⟨b, off, rfl, hb, hc⟩ := (H.out.keep B.out (Nat.le_refl _)).2.resolve_left (by omega)
      have hcell := hc k hlt
      clear hc
      go_wp2_with fail
      clear hcell
      refine (HF.out k hlt wr B.out).mono ?_
      rintro e w1 ⟨rfl, hb1⟩
      have R1 := Lib.hid (R.out.keep hb1)
      have B1 := Lib.hid (B.out.trans (hb1.mono B.out.size))
      clear hb1
      obtain ⟨⟨q0, d0⟩, ⟨q1, d1⟩, fz⟩ := R1.out.cells hlt
      have f0 := fz (k * 2)
      have f1 := fz (k * 2 + 1)
      clear fz
      go_wp2
      go_roundw
      case rel => exact ⟨k + 1, hlt, by go_num, Lib.hid R1.out.set, Lib.hid ((B1.out.setCell (p := ⟨w.heap.size, k * 2, none⟩) (Nat.le_refl _) _).setCell (p := ⟨w.heap.size, k * 2 + 1, none⟩) (Nat.le_refl _) _)⟩
      case measure => simp [intOf]; omega
    · obtain rfl : k = n := by omega
      have NB := Lib.hid (numB_any (nth cs) u k (some ⟨w.heap.size, 0, none⟩) k wr hn HC.out R.out.all)
      go_wp2_with fail
      refine NB.out.mono ?_
      rintro e w2 ⟨v, rfl, ho, hb⟩
      have O := Lib.hid (ho.mono B.out.size)
      have B2 := Lib.hid (B.out.trans (hb.mono B.out.size))
      clear ho hb
      go_wp2
      go_ret
      exact ⟨_, rfl, O.out, B2.out⟩


theorem infoI : (Try.prog.info? 138).map (fun i => (i.zero, i.size, i.bytes)) = some (some (.agg #[.int .i64 0, .int .i64 0]), 2, 16) := by kernel_rfl
set_option maxHeartbeats 4000000 in
set_option maxRecDepth 100000 in
theorem refineI_any (cs : List Int) (u : Nat → Int) (R R' : Nat) (a : Option Addr) (cap : Nat) (w : World) (hn : cs.length ≤ 4096) (hc : ∀ j, j < cs.length → (Lit.int .i64 (nth cs j)).wf = true) (hu : ∀ j, j < cs.length → (Lit.int .i64 (u j)).wf = true) (h : At w a cs.length cs)
    (hf : ∀ (j : Nat), j < cs.length → ∀ W', Below w.heap.size w W' → Calls Try.prog 112 #[.int .i64 j, .pointer (some ⟨R, 0, none⟩), .pointer (some ⟨R', 0, none⟩)] W' fun e w'' => e = .returned (.int .i64 (u j)) ∧ Below W'.heap.size W' w'') :
    Calls Try.prog 111 #[.slice a cs.length cap, .func (.func 112) #[] #[.pointer (some ⟨R, 0, none⟩), .pointer (some ⟨R', 0, none⟩)]] w fun e w' => ∃ v, e = .returned v ∧ Own w' w.heap.size v (tab cs.length (fun i => (numF (fun j => kyI (nth cs j) (u j)) i : Int))) ∧ Below w.heap.size w w' := by
  obtain ⟨i0, hi, hz0, hz1, hz2⟩ := info_parts infoI
  have H := Lib.hid h
  have HF := Lib.hid hf
  have HC := Lib.hid hc
  have HU := Lib.hid hu; clear hu
  clear h hf hc
  obtain ⟨n, hnn⟩ : ∃ n, n = cs.length := ⟨_, rfl⟩
  rw [← hnn] at H HF HC hn HU ⊢
  clear hnn
  go_enter Try.func111, Try.ntmps111
  go_wp2_with (at_make; refine wpList_make_full _ rfl _ _ 136 rfl w.heap.size 138 i0 (.agg #[.int .i64 0, .int .i64 0]) 2 Try.underlying136 hi hz0 hz1 _ _ _ _ n rfl rfl rfl rfl ?b2 ?b3 (Nat.le_refl _) ?_)
  case b2 => rw [hz2]; omega
  case b3 => unfold maxLen; omega
  intro w0 hown0 hgrow0
  have R0 := Lib.hid (RowP.made (c := nth cs) (u := fun j => .int .i64 (u j)) hown0)
  have B0 := Lib.hid ((Below.refl w.heap.size w).grown hgrow0 (Nat.le_refl _) (fun k h => by cases h))
  clear hown0 hgrow0 hi hz0 hz1 hz2
  go_wp2
  go_loopw [13] (fun i wr => ∃ k : Nat, k ≤ n ∧ i = .int .i64 k ∧ Hid (RowP wr w.heap.size 138 n k (nth cs) (fun j => .int .i64 (u j))) ∧ Hid (Below w.heap.size w wr)) (fun i _ => n - (intOf i).toNat)
  case atStart => exact ⟨0, Nat.zero_le _, rfl, R0, B0⟩
  case round =>
    clear R0 B0
    obtain ⟨k, hk, rfl, R, B⟩ := hrel
    by_cases hlt : k < n
    · obtain ⟨b, off, rfl, hb, hc⟩ := (H.out.keep B.out (Nat.le_refl _)).2.resolve_left (by omega)
      have hcell := hc k hlt
      clear hc
      go_wp2_with fail
      clear hcell
      refine (HF.out k hlt wr B.out).mono ?_
      rintro e w1 ⟨rfl, hb1⟩
      have R1 := Lib.hid (R.out.keep hb1)
      have B1 := Lib.hid (B.out.trans (hb1.mono B.out.size))
      clear hb1
      obtain ⟨⟨q0, d0⟩, ⟨q1, d1⟩, fz⟩ := R1.out.cells hlt
      have f0 := fz (k * 2)
      have f1 := fz (k * 2 + 1)
      clear fz
      go_wp2
      go_roundw
      case rel => exact ⟨k + 1, hlt, by go_num, Lib.hid R1.out.set, Lib.hid ((B1.out.setCell (p := ⟨w.heap.size, k * 2, none⟩) (Nat.le_refl _) _).setCell (p := ⟨w.heap.size, k * 2 + 1, none⟩) (Nat.le_refl _) _)⟩
      case measure => simp [intOf]; omega
    · obtain rfl : k = n := by omega
      have NB := Lib.hid (numI_any (nth cs) u k (some ⟨w.heap.size, 0, none⟩) k wr hn HC.out HU.out R.out.all)
      go_wp2_with fail
      refine NB.out.mono ?_
      rintro e w2 ⟨v, rfl, ho, hb⟩
      have O := Lib.hid (ho.mono B.out.size)
      have B2 := Lib.hid (B.out.trans (hb.mono B.out.size))
      clear ho hb
      go_wp2
      go_ret
      exact ⟨_, rfl, O.out, B2.out⟩

end Go.Proofs.Ytomldealpmohhaa
