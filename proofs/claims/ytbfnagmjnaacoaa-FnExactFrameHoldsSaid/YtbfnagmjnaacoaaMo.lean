/- Models by value (a frame and a list of masks): told by values, and the contracts of size, copy, compare, mark and held over them. Conditions: those in the theorems. -/
import Derived.Test.YtbfnagmjnaacoaaJn04
namespace Go.Proofs.Ytbfnagmjnaacoaa
open Go.RowKit

/-- The slices that a model's value holds. -/
def mlF : Value → Value
  | .agg cs => cs.getD 1 (.slice none 0 0)
  | v => v
def mlV : Value → Value
  | .agg cs => cs.getD 2 (.slice none 0 0)
  | v => v
def InM (w : World) (lo hi : Nat) (v : Value) (n : Int) (xs ys : List Int) : Prop := v = .agg #[.int .i64 n, mlF v, mlV v] ∧ OwnIn w lo hi (mlF v) xs ∧ OwnIn w lo hi (mlV v) ys ∧ lo ≤ hi ∧ ∀ k, (mlF v).ownBlock = some k → ¬ (mlV v).ownBlock = some k
def OwnM (w : World) (B : Nat) (v : Value) (n : Int) (xs ys : List Int) : Prop := v = .agg #[.int .i64 n, mlF v, mlV v] ∧ Own w B (mlF v) xs ∧ Own w B (mlV v) ys ∧ ∀ k, (mlF v).ownBlock = some k → ¬ (mlV v).ownBlock = some k
def IsMod (w : World) (a : Option Addr) (len : Nat) (xs : List Int) (b : Option Addr) (m : Nat) (ys : List Int) : Prop := (At w a len xs ∧ len ≤ maxLen) ∧ (At w b m ys ∧ m ≤ maxLen)
theorem OwnM.inM {w : World} {B : Nat} {v : Value} {n : Int} {xs ys : List Int} (h : OwnM w B v n xs ys) (hB : B ≤ w.heap.size) : InM w B w.heap.size v n xs ys := ⟨h.1, h.2.1.inn, h.2.2.1.inn, hB, h.2.2.2⟩
theorem OwnM.mono {w : World} {B B' : Nat} {v : Value} {n : Int} {xs ys : List Int} (h : OwnM w B v n xs ys) (hB : B' ≤ B) : OwnM w B' v n xs ys := ⟨h.1, h.2.1.mono hB, h.2.2.1.mono hB, h.2.2.2⟩
theorem InM.hi {w : World} {lo hi : Nat} {v : Value} {n : Int} {xs ys : List Int} (h : InM w lo hi v n xs ys) : hi ≤ w.heap.size := h.2.1.2.1
theorem InM.below {w w' : World} {lo hi C : Nat} {v : Value} {n : Int} {xs ys : List Int} (h : InM w lo hi v n xs ys) (hb : Below C w w') (hC : hi ≤ C) : InM w' lo hi v n xs ys := ⟨h.1, h.2.1.below hb hC, h.2.2.1.below hb hC, h.2.2.2⟩
theorem OwnM.form {w : World} {B : Nat} {v : Value} {n : Int} {xs ys : List Int} (h : OwnM w B v n xs ys) : ∃ a cap b d, v = .agg #[.int .i64 n, .slice a xs.length cap, .slice b ys.length d] := by
  obtain ⟨a, cap, e, -⟩ := h.2.1.at
  obtain ⟨b, d, e', -⟩ := h.2.2.1.at
  exact ⟨a, cap, b, d, by rw [h.1, e, e']⟩
theorem InM.at {w : World} {lo hi : Nat} {v : Value} {n : Int} {xs ys : List Int} (h : InM w lo hi v n xs ys) : ∃ a cap b d, v = .agg #[.int .i64 n, .slice a xs.length cap, .slice b ys.length d] ∧ At w a xs.length xs ∧ At w b ys.length ys ∧ (a = none → cap = 0) ∧ (b = none → d = 0) := by
  obtain ⟨a, cap, e, hat, -, hn, -⟩ := h.2.1.1.at
  obtain ⟨b, d, e', hat', -, hn', -⟩ := h.2.2.1.1.at
  exact ⟨a, cap, b, d, by rw [h.1, e, e'], hat, hat', hn, hn'⟩
theorem OwnIn.mono' {w : World} {lo lo' hi : Nat} {v : Value} {xs : List Int} (h : OwnIn w lo hi v xs) (hl : lo' ≤ lo) : OwnIn w lo' hi v xs := ⟨Own.mono (w := w) h.1 hl, h.2.1, fun k hk => ⟨Nat.le_trans hl (h.2.2 k hk).1, (h.2.2 k hk).2⟩⟩
theorem OwnM.two {w : World} {B C : Nat} {n : Int} {u u' : Value} {xs ys : List Int} (h : OwnIn w B C u xs) (h' : Own w C u' ys) (hB : B ≤ C) : OwnM w B (.agg #[.int .i64 n, u, u']) n xs ys := by
  refine ⟨rfl, h.1, h'.mono hB, fun k hk hk' => ?_⟩
  have h1 := h.blk k hk
  have h2 := h'.inn.blk k hk'
  omega
theorem OwnM.two' {w : World} {B C : Nat} {n : Int} {u u' : Value} {xs ys : List Int} (h : Own w C u xs) (h' : OwnIn w B C u' ys) (hB : B ≤ C) : OwnM w B (.agg #[.int .i64 n, u, u']) n xs ys := by
  refine ⟨rfl, h.mono hB, h'.1, fun k hk hk' => ?_⟩
  have h1 := h'.blk k hk'
  have h2 := h.inn.blk k hk
  omega
theorem OwnIn.upto {w : World} {B : Nat} {v : Value} {xs : List Int} (h : Own w B v xs) : OwnIn w B w.heap.size v xs := h.inn

/-- Two blocks have turned, both in a range. -/
def Gb (w w' : World) (lo hi : Nat) : Prop := ∃ wm b1 b2, w.grownBy wm b1 ∧ wm.grownBy w' b2 ∧ (∀ k, b1 = some k → lo ≤ k ∧ k < hi) ∧ (∀ k, b2 = some k → lo ≤ k ∧ k < hi)
theorem OwnIn.othG {w w' : World} {lo hi lo' hi' : Nat} {v : Value} {xs : List Int} (h : OwnIn w lo hi v xs) (g : Gb w w' lo' hi') (hd : hi ≤ lo' ∨ hi' ≤ lo) : OwnIn w' lo hi v xs := by
  obtain ⟨wm, b1, b2, g1, g2, u1, u2⟩ := g
  exact (h.oth u1 g1 hd).oth u2 g2 hd
theorem InM.othG {w w' : World} {lo hi lo' hi' : Nat} {v : Value} {n : Int} {xs ys : List Int} (h : InM w lo hi v n xs ys) (g : Gb w w' lo' hi') (hd : hi ≤ lo' ∨ hi' ≤ lo) : InM w' lo hi v n xs ys := ⟨h.1, h.2.1.othG g hd, h.2.2.1.othG g hd, h.2.2.2⟩

/-- A model lies in the block b. -/
def Bm (w : World) (b : Nat) (n : Int) (a : Option Addr) (len cap : Nat) (c : Option Addr) (m d : Nat) : Prop := b < w.heap.size ∧ w.cell? ⟨b, 0, none⟩ = some (.int .i64 n) ∧ w.cell? ⟨b, 1, none⟩ = some (.slice a len cap) ∧ w.cell? ⟨b, 2, none⟩ = some (.slice c m d)
theorem Bm.below {w w' : World} {C b : Nat} {n : Int} {a : Option Addr} {len cap : Nat} {c : Option Addr} {m d : Nat} (h : Bm w b n a len cap c m d) (hb : Below C w w') (hC : b < C) : Bm w' b n a len cap c m d :=
  ⟨Nat.lt_of_lt_of_le h.1 hb.size, (hb.cell (p := ⟨b, 0, none⟩) hC).trans h.2.1, (hb.cell (p := ⟨b, 1, none⟩) hC).trans h.2.2.1, (hb.cell (p := ⟨b, 2, none⟩) hC).trans h.2.2.2⟩
theorem Bm.keep {w w' : World} {b : Nat} {n : Int} {a : Option Addr} {len cap : Nat} {c : Option Addr} {m d : Nat} (h : Bm w b n a len cap c m d) (hb : Below w.heap.size w w') : Bm w' b n a len cap c m d := h.below hb h.1
theorem Bm.oth {w w' : World} {b lo' hi' : Nat} {r : Option Nat} {n : Int} {a : Option Addr} {len cap : Nat} {c : Option Addr} {m d : Nat} (h : Bm w b n a len cap c m d) (hu : ∀ k, r = some k → lo' ≤ k ∧ k < hi') (hg : w.grownBy w' r) (hd : b < lo' ∨ hi' ≤ b) : Bm w' b n a len cap c m d :=
  have hne : some b ≠ r := fun e => by have := hu b e.symm; omega
  ⟨Nat.lt_of_lt_of_le h.1 hg.size, hg.cell h.2.1 hne, hg.cell h.2.2.1 hne, hg.cell h.2.2.2 hne⟩
theorem Bm.othG {w w' : World} {b lo' hi' : Nat} {n : Int} {a : Option Addr} {len cap : Nat} {c : Option Addr} {m d : Nat} (h : Bm w b n a len cap c m d) (g : Gb w w' lo' hi') (hd : b < lo' ∨ hi' ≤ b) : Bm w' b n a len cap c m d := by
  obtain ⟨wm, b1, b2, g1, g2, u1, u2⟩ := g
  exact (h.oth u1 g1 hd).oth u2 g2 hd
theorem Bm.new (w : World) (n : Int) (a : Option Addr) (len cap : Nat) (c : Option Addr) (m d : Nat) (T : TypeId) : Bm (w.alloc (.cells #[.int .i64 n, .slice a len cap, .slice c m d] T)) w.heap.size n a len cap c m d := ⟨by simp, World.cell?_alloc_at _ _ _ _ rfl, World.cell?_alloc_at _ _ _ _ rfl, World.cell?_alloc_at _ _ _ _ rfl⟩
theorem boxM {w : World} (n : Int) (a : Option Addr) (len cap : Nat) (c : Option Addr) (m d : Nat) (T : TypeId) : ∃ W : World, W = w.alloc (.cells #[.int .i64 n, .slice a len cap, .slice c m d] T) ∧ Below w.heap.size w W ∧ Bm W w.heap.size n a len cap c m d ∧ W.heap.size = w.heap.size + 1 :=
  ⟨_, rfl, (alloc_keep _ _).1, Bm.new _ _ _ _ _ _ _ _ _, by simp⟩

def szM (left : Int) (l m : Nat) : Int := if left < l then -1 else szG (left - l) m
theorem szM_no {left : Int} {l m : Nat} (h : left < l) : szM left l m = -1 := if_pos h
theorem szM_go {left : Int} {l m : Nat} (h : ¬ left < l) : szM left l m = szG (left - l) m := if_neg h
theorem szM_or (left : Int) (l m : Nat) : szM left l m = -1 ∨ ((l : Int) + m ≤ left ∧ szM left l m = left - l - m) := by
  by_cases h : left < l
  · exact .inl (szM_no h)
  · rw [szM_go h]
    by_cases h2 : left - l < m
    · exact .inl (szG_no h2)
    · exact .inr ⟨by omega, szG_yes h2⟩

set_option maxHeartbeats 400000 in
theorem szModel_any (n : Int) (a : Option Addr) (len cap : Nat) (c : Option Addr) (m d : Nat) (left : Int) (w : World) (hl : len ≤ maxLen) (hm : m ≤ maxLen) (h0 : 0 ≤ left) (h1 : left ≤ 1048576) :
    Calls Try.prog 13 #[.agg #[.int .i64 n, .slice a len cap, .slice c m d], .int .i64 left] w fun e w' => e = .returned (.int .i64 (szM left len m)) ∧ Below w.heap.size w w' := by
  obtain ⟨W, hW, hb, hx, hs⟩ := boxM (w := w) n a len cap c m d 32
  have HB := Lib.hid hb
  have X := Lib.hid hx
  have HW := Lib.hid hW
  clear hb hx hW hs
  by_cases h : left < len
  · have S := Lib.hid (szM_no (m := m) h)
    have S1 := Lib.hid (szG_no h)
    clear h
    go_enter Try.func13, Try.ntmps13
    go_wp2_with fail
    rw [← HW.out]
    refine (szFrame_any n _ _ _ _ _ hl h0 h1).mono ?_
    rw [S1.out]
    rintro e w1 ⟨rfl, hb1⟩
    have B1 := Lib.hid (HB.out.trans (hb1.mono HB.out.size))
    clear hb1
    go_wp2
    go_ret
    exact ⟨ret_int S.out.symm, B1.out⟩
  · have S := Lib.hid (szM_go (m := m) h)
    have S1 := Lib.hid (szG_yes h)
    obtain ⟨s, hs⟩ : ∃ s, s = left - len := ⟨_, rfl⟩
    have hs0 : 0 ≤ s := by omega
    have hs1 : s ≤ 1048576 := by omega
    rw [← hs] at S S1
    clear h hs
    obtain ⟨z, hz⟩ : ∃ z, z = szG s m := ⟨_, rfl⟩
    have hz2 : z = -1 ∨ 0 ≤ z := by rw [hz]; unfold szG; split <;> omega
    have HZ := Lib.hid hz
    clear hz
    go_enter Try.func13, Try.ntmps13
    go_wp2_with fail
    rw [← HW.out]
    refine (szFrame_any n _ _ _ _ _ hl h0 h1).mono ?_
    rw [S1.out]
    rintro e w1 ⟨rfl, hb1⟩
    have B1 := Lib.hid (HB.out.trans (hb1.mono HB.out.size))
    obtain ⟨lt, c0, c1, c2⟩ := X.out.keep hb1
    clear hb1
    go_wp2_with fail
    refine (szInts_any _ _ _ _ _ hm hs0 hs1).mono ?_
    rw [← HZ.out]
    rintro e w2 ⟨rfl, rfl⟩
    clear c0 c1 c2
    rcases hz2 with rfl | hz2
    all_goals
      go_wp2
      go_ret
      exact ⟨ret_int (by rw [S.out, ← HZ.out]), B1.out⟩

theorem frz_new (w : World) (cs : Array Value) (T : TypeId) (o : Nat) : (w.alloc (.cells cs T)).frozen? ⟨w.heap.size, o, none⟩ = false := by simp
theorem OwnIn.oth2 {w w' : World} {lo hi : Nat} {v u : Value} {xs : List Int} (h : OwnIn w lo hi v xs) (hg : w.grownBy w' u.ownBlock) (ne : ∀ k, u.ownBlock = some k → ¬ v.ownBlock = some k) : OwnIn w' lo hi v xs := by
  refine ⟨World.ownsRow.kept h.1 hg ?_, Nat.le_trans h.2.1 hg.size, h.2.2⟩
  cases hv : v.ownBlock with
  | none => exact .inl rfl
  | some k => right; intro e; exact ne k e.symm hv

theorem boxM3 (w : World) (n : Int) (a : Option Addr) (l c : Nat) (b : Option Addr) (m d : Nat) : ∃ W : World, W = ((w.alloc (.cells #[.int .i64 n, .slice a l c, .slice b m d] 32)).alloc (.cells #[.int .i64 0, .slice none 0 0, .slice none 0 0] 40)).alloc (.cells #[.int .i64 0, .slice none 0 0, .slice none 0 0] 40) ∧
    Hid (Below w.heap.size w W) ∧ Hid (Bm W w.heap.size n a l c b m d) ∧ Hid (Bm W (w.heap.size + 1) 0 none 0 0 none 0 0) ∧ Hid (Bm W (w.heap.size + 1 + 1) 0 none 0 0 none 0 0) ∧ W.heap.size = w.heap.size + 1 + 1 + 1 ∧ Hid (∀ o, W.frozen? ⟨w.heap.size + 1, o, none⟩ = false ∧ W.frozen? ⟨w.heap.size + 1 + 1, o, none⟩ = false) := by
  refine ⟨_, rfl, Lib.hid ((((Below.refl w.heap.size w).alloc (Nat.le_refl _) _).alloc (by simp) _).alloc (by simp; omega) _), Lib.hid (((Bm.new w n a l c b m d _).keep (alloc_keep _ _).1).keep (alloc_keep _ _).1), ?_, ?_, by simp, ?_⟩
  · have := (Bm.new (w.alloc (.cells #[.int .i64 n, .slice a l c, .slice b m d] 32)) 0 none 0 0 none 0 0 40).keep (alloc_keep _ (.cells #[.int .i64 0, .slice none 0 0, .slice none 0 0] 40)).1
    exact Lib.hid (by simpa using this)
  · have := Bm.new ((w.alloc (.cells #[.int .i64 n, .slice a l c, .slice b m d] 32)).alloc (.cells #[.int .i64 0, .slice none 0 0, .slice none 0 0] 40)) 0 none 0 0 none 0 0 40
    exact Lib.hid (by simpa using this)
  · refine Lib.hid (fun o => ⟨?_, ?_⟩)
    · have h1 : ((w.alloc (.cells #[.int .i64 n, .slice a l c, .slice b m d] 32)).alloc (.cells #[.int .i64 0, .slice none 0 0, .slice none 0 0] 40)).frozen? ⟨(w.alloc (.cells #[.int .i64 n, .slice a l c, .slice b m d] 32)).heap.size, o, none⟩ = false := by simp
      have h2 := ((alloc_keep ((w.alloc (.cells #[.int .i64 n, .slice a l c, .slice b m d] 32)).alloc (.cells #[.int .i64 0, .slice none 0 0, .slice none 0 0] 40)) (.cells #[.int .i64 0, .slice none 0 0, .slice none 0 0] 40)).1.frozen (p := ⟨(w.alloc (.cells #[.int .i64 n, .slice a l c, .slice b m d] 32)).heap.size, o, none⟩) (by simp)).trans h1
      have e : (w.alloc (.cells #[.int .i64 n, .slice a l c, .slice b m d] 32)).heap.size = w.heap.size + 1 := by simp
      rw [e] at h2
      exact h2
    · have h1 : (((w.alloc (.cells #[.int .i64 n, .slice a l c, .slice b m d] 32)).alloc (.cells #[.int .i64 0, .slice none 0 0, .slice none 0 0] 40)).alloc (.cells #[.int .i64 0, .slice none 0 0, .slice none 0 0] 40)).frozen? ⟨((w.alloc (.cells #[.int .i64 n, .slice a l c, .slice b m d] 32)).alloc (.cells #[.int .i64 0, .slice none 0 0, .slice none 0 0] 40)).heap.size, o, none⟩ = false := frz_new _ _ _ _
      have e : ((w.alloc (.cells #[.int .i64 n, .slice a l c, .slice b m d] 32)).alloc (.cells #[.int .i64 0, .slice none 0 0, .slice none 0 0] 40)).heap.size = w.heap.size + 1 + 1 := by simp
      rw [e] at h1
      exact h1

set_option maxHeartbeats 1000000 in
theorem toModel_any (n : Int) (xs ys : List Int) (a : Option Addr) (len cap : Nat) (b : Option Addr) (m d : Nat) (w : World) (hl : len ≤ 1048576) (hm : m ≤ 1048576) (h : At w a len xs) (h' : At w b m ys) :
    Calls Try.prog 16 #[.agg #[.int .i64 n, .slice a len cap, .slice b m d]] w fun e w' => ∃ v, e = .returned v ∧ OwnM w' w.heap.size v n xs ys ∧ Below w.heap.size w w' := by
  obtain ⟨W, hW, HB, X, Z, Y, hWs, FZ⟩ := boxM3 w n a len cap b m d
  have H := Lib.hid (h.keep HB.out (Nat.le_refl _))
  have H' := Lib.hid h'
  have HW := Lib.hid hW
  clear h h' hW
  go_enter Try.func16, Try.ntmps16
  go_wp2_with fail
  rw [← HW.out]
  refine (toFrame_any n xs _ _ _ _ hl H.out).mono ?_
  rintro e w1 ⟨v1, rfl, ho, hb⟩
  have B1 := Lib.hid (HB.out.trans (hb.mono HB.out.size))
  obtain ⟨ltx, x0, x1, x2⟩ := X.out.keep hb
  obtain ⟨lty, y0, y1, y2⟩ := Y.out.keep hb
  obtain ⟨ltz, z0, z1, z2⟩ := Z.out.keep hb
  have fz : ∀ o, w1.frozen? ⟨w.heap.size + 1, o, none⟩ = false ∧ w1.frozen? ⟨w.heap.size + 1 + 1, o, none⟩ = false := fun o => ⟨(hb.frozen (p := ⟨w.heap.size + 1, o, none⟩) (by show w.heap.size + 1 < _; omega)).trans (FZ.out o).1, (hb.frozen (p := ⟨w.heap.size + 1 + 1, o, none⟩) (by show w.heap.size + 1 + 1 < _; omega)).trans (FZ.out o).2⟩
  have hs1 := hb.size
  have O1 := Lib.hid ho.2.inn
  obtain ⟨a1, c1, rfl⟩ := ho.form
  clear ho hb
  have hf0 := (fz 0).2
  have hf1 := (fz 1).2
  go_wp2_with fail
  have BS := Lib.hid ((B1.out.setCell (p := ⟨w.heap.size + 1 + 1, 0, none⟩) (by show w.heap.size ≤ w.heap.size + 1 + 1; omega) (.int .i64 n)).setCell (p := ⟨w.heap.size + 1 + 1, 1, none⟩) (by show w.heap.size ≤ w.heap.size + 1 + 1; omega) (.slice a1 xs.length c1))
  refine (toInt64S_any ys _ _ _ _ hm (H'.out.keep BS.out (Nat.le_refl _))).mono ?_
  have S0 : ((w1.setCell ⟨w.heap.size + 1 + 1, 0, none⟩ (.int .i64 n)).setCell ⟨w.heap.size + 1 + 1, 1, none⟩ (.slice a1 xs.length c1)).cell? ⟨w.heap.size + 1 + 1, 0, none⟩ = some (.int .i64 n) := by rw [cell_set' _ _ _ _ _ (by decide)]; exact cell_set _ _ _ _ y0
  have S1 : ((w1.setCell ⟨w.heap.size + 1 + 1, 0, none⟩ (.int .i64 n)).setCell ⟨w.heap.size + 1 + 1, 1, none⟩ (.slice a1 xs.length c1)).cell? ⟨w.heap.size + 1 + 1, 1, none⟩ = some (.slice a1 xs.length c1) := cell_set _ _ _ _ (by rw [cell_set' _ _ _ _ _ (by decide)]; exact y1)
  have S2 : ((w1.setCell ⟨w.heap.size + 1 + 1, 0, none⟩ (.int .i64 n)).setCell ⟨w.heap.size + 1 + 1, 1, none⟩ (.slice a1 xs.length c1)).cell? ⟨w.heap.size + 1 + 1, 2, none⟩ = some (.slice none 0 0) := by rw [cell_set' _ _ _ _ _ (by decide), cell_set' _ _ _ _ _ (by decide)]; exact y2
  have T0 := two_set (k := w.heap.size + 1 + 1) (v := .int .i64 n) (v' := .slice a1 xs.length c1) z0 (by omega)
  have T1 := two_set (k := w.heap.size + 1 + 1) (v := .int .i64 n) (v' := .slice a1 xs.length c1) z1 (by omega)
  have T2 := two_set (k := w.heap.size + 1 + 1) (v := .int .i64 n) (v' := .slice a1 xs.length c1) z2 (by omega)
  have O2 := Lib.hid ((O1.out.setOut (R := w.heap.size + 1 + 1) (o := 0) (z := .int .i64 n) (.inl (by omega))).setOut (R := w.heap.size + 1 + 1) (o := 1) (z := .slice a1 xs.length c1) (.inl (by omega)))
  have FS : ∀ o, ((w1.setCell ⟨w.heap.size + 1 + 1, 0, none⟩ (.int .i64 n)).setCell ⟨w.heap.size + 1 + 1, 1, none⟩ (.slice a1 xs.length c1)).frozen? ⟨w.heap.size + 1, o, none⟩ = false ∧ ((w1.setCell ⟨w.heap.size + 1 + 1, 0, none⟩ (.int .i64 n)).setCell ⟨w.heap.size + 1 + 1, 1, none⟩ (.slice a1 xs.length c1)).frozen? ⟨w.heap.size + 1 + 1, o, none⟩ = false := fun o => by
    rw [World.frozen?_setCell, World.frozen?_setCell, World.frozen?_setCell, World.frozen?_setCell]
    exact fz o
  have es : ((w1.setCell ⟨w.heap.size + 1 + 1, 0, none⟩ (.int .i64 n)).setCell ⟨w.heap.size + 1 + 1, 1, none⟩ (.slice a1 xs.length c1)).heap.size = w1.heap.size := by simp [World.setCell]
  generalize (w1.setCell ⟨w.heap.size + 1 + 1, 0, none⟩ (.int .i64 n)).setCell ⟨w.heap.size + 1 + 1, 1, none⟩ (.slice a1 xs.length c1) = ws at BS S0 S1 S2 T0 T1 T2 O2 FS es ⊢
  rintro e w2 ⟨v2, rfl, ho, hb⟩
  have B2 := Lib.hid (BS.out.trans (hb.mono BS.out.size))
  have lz : w.heap.size + 1 < ws.heap.size := by omega
  have ly : w.heap.size + 1 + 1 < ws.heap.size := by omega
  have s0 := (hb.cell (p := ⟨w.heap.size + 1 + 1, 0, none⟩) ly).trans S0
  have s1 := (hb.cell (p := ⟨w.heap.size + 1 + 1, 1, none⟩) ly).trans S1
  have s2 := (hb.cell (p := ⟨w.heap.size + 1 + 1, 2, none⟩) ly).trans S2
  have t0 := (hb.cell (p := ⟨w.heap.size + 1, 0, none⟩) lz).trans T0
  have t1 := (hb.cell (p := ⟨w.heap.size + 1, 1, none⟩) lz).trans T1
  have t2 := (hb.cell (p := ⟨w.heap.size + 1, 2, none⟩) lz).trans T2
  have f2 := (hb.frozen (p := ⟨w.heap.size + 1 + 1, 2, none⟩) ly).trans (FS 2).2
  have f3 := (hb.frozen (p := ⟨w.heap.size + 1, 0, none⟩) lz).trans (FS 0).1
  have f4 := (hb.frozen (p := ⟨w.heap.size + 1, 1, none⟩) lz).trans (FS 1).1
  have f5 := (hb.frozen (p := ⟨w.heap.size + 1, 2, none⟩) lz).trans (FS 2).1
  have O3 := Lib.hid (O2.out.below hb O2.out.hi)
  have V3 := Lib.hid ho
  obtain ⟨a2, c2, rfl, -⟩ := ho.at
  clear ho hb S0 S1 S2 T0 T1 T2 FS O2 O1 x0 x1 x2 y0 y1 y2 z0 z1 z2 hf0 hf1 fz BS B1
  go_wp2
  exact bodyPost_ret (v := .agg #[.int .i64 n, .slice a1 xs.length c1, .slice a2 ys.length c2]) (by simp [results, Try.results16, go_sem, t0, t1, t2]) rfl ⟨_, rfl,
    OwnM.two (B := w.heap.size) (C := w1.heap.size) (((((O3.out.setOut (.inl (by omega))).setOut (.inl (by omega))).setOut (.inl (by omega))).setOut (.inl (by omega))).mono' (by omega)) (((((V3.out.inn.setOut (.inl (by omega))).setOut (.inl (by omega))).setOut (.inl (by omega))).setOut (.inl (by omega))).1.mono (by omega)) (by omega),
    (((B2.out.setCell (by show w.heap.size ≤ _; simp; omega) _).setCell (by show w.heap.size ≤ _; simp) _).setCell (by show w.heap.size ≤ _; simp) _).setCell (by show w.heap.size ≤ _; simp) _⟩

end Go.Proofs.Ytbfnagmjnaacoaa
