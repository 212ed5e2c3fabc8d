/- Modal sequents by value (two lists of texts): told by values, and the contracts of size, copy, compare and mark over them. Conditions: those in the theorems. -/
import Derived.Deep.RegionHeld3
import Derived.Deep.DeepCutAuto
import Derived.Test.YtpccocmiadpgiaaStP
import Derived.Test.YtpccocmiadpgiaaGst
namespace Go.Proofs.Ytpccocmiadpgiaa
open Go.RowKit

/-- The slices that a sequent's value holds. -/
def mqL : Value → Value
  | .agg cs => cs.getD 0 (.slice none 0 0)
  | v => v
def mqR : Value → Value
  | .agg cs => cs.getD 1 (.slice none 0 0)
  | v => v
def InQ (w : World) (lo hi : Nat) (v : Value) (ls rs : List (List UInt8)) : Prop := ∃ m, lo ≤ m ∧ m ≤ hi ∧ v = .agg #[mqL v, mqR v] ∧ InS w lo m (mqL v) ls ∧ InS w m hi (mqR v) rs
theorem InQ.hi {w : World} {lo hi : Nat} {v : Value} {ls rs : List (List UInt8)} (h : InQ w lo hi v ls rs) : hi ≤ w.heap.size := by obtain ⟨m, -, -, -, -, h5⟩ := h; exact h5.hi
theorem InQ.lo {w : World} {lo hi : Nat} {v : Value} {ls rs : List (List UInt8)} (h : InQ w lo hi v ls rs) : lo ≤ hi := by obtain ⟨m, h1, h2, -⟩ := h; omega
theorem InQ.below {w w' : World} {lo hi C : Nat} {v : Value} {ls rs : List (List UInt8)} (h : InQ w lo hi v ls rs) (hb : Below C w w') (hC : hi ≤ C) : InQ w' lo hi v ls rs := by
  obtain ⟨m, h1, h2, h3, h4, h5⟩ := h
  exact ⟨m, h1, h2, h3, h4.below hb (by omega), h5.below hb hC⟩
theorem InQ.at {w : World} {lo hi : Nat} {v : Value} {ls rs : List (List UInt8)} (h : InQ w lo hi v ls rs) : ∃ a cap b d, v = .agg #[.slice a ls.length cap, .slice b rs.length d] ∧ AtS w a ls.length ls ∧ AtS w b rs.length rs := by
  obtain ⟨m, -, -, e, h4, h5⟩ := h
  obtain ⟨a, cap, e1, ha⟩ := h4.at
  obtain ⟨b, d, e2, hb⟩ := h5.at
  exact ⟨a, cap, b, d, by rw [e, e1, e2], ha, hb⟩

/-- A sequent lies in the block b. -/
def Bq (w : World) (b : Nat) (a : Option Addr) (len cap : Nat) (c : Option Addr) (m d : Nat) : Prop := b < w.heap.size ∧ w.cell? ⟨b, 0, none⟩ = some (.slice a len cap) ∧ w.cell? ⟨b, 1, none⟩ = some (.slice c m d)
theorem Bq.below {w w' : World} {C b : Nat} {a : Option Addr} {len cap : Nat} {c : Option Addr} {m d : Nat} (h : Bq w b a len cap c m d) (hb : Below C w w') (hC : b < C) : Bq w' b a len cap c m d :=
  ⟨Nat.lt_of_lt_of_le h.1 hb.size, (hb.cell (p := ⟨b, 0, none⟩) hC).trans h.2.1, (hb.cell (p := ⟨b, 1, none⟩) hC).trans h.2.2⟩
theorem Bq.keep {w w' : World} {b : Nat} {a : Option Addr} {len cap : Nat} {c : Option Addr} {m d : Nat} (h : Bq w b a len cap c m d) (hb : Below w.heap.size w w') : Bq w' b a len cap c m d := h.below hb h.1
theorem Bq.oth {w w' : World} {b lo' hi' : Nat} {r : Option Nat} {a : Option Addr} {len cap : Nat} {c : Option Addr} {m d : Nat} (h : Bq w b a len cap c m d) (hu : ∀ k, r = some k → lo' ≤ k ∧ k < hi') (hg : w.grownBy w' r) (hd : b < lo' ∨ hi' ≤ b) : Bq w' b a len cap c m d :=
  have hne : some b ≠ r := fun e => by have := hu b e.symm; omega
  ⟨Nat.lt_of_lt_of_le h.1 hg.size, hg.cell h.2.1 hne, hg.cell h.2.2 hne⟩
theorem Bq.new (w : World) (a : Option Addr) (len cap : Nat) (c : Option Addr) (m d : Nat) (T : TypeId) : Bq (w.alloc (.cells #[.slice a len cap, .slice c m d] T)) w.heap.size a len cap c m d := ⟨by simp, World.cell?_alloc_at _ _ _ _ rfl, World.cell?_alloc_at _ _ _ _ rfl⟩
theorem Bq.frz (w : World) (cs : Array Value) (T : TypeId) (o : Nat) : (w.alloc (.cells cs T)).frozen? ⟨w.heap.size, o, none⟩ = false := by simp

set_option maxHeartbeats 1000000 in
theorem szModalSequent_any (ls rs : List (List UInt8)) (a : Option Addr) (len cap : Nat) (b : Option Addr) (m d : Nat) (left : Int) (w : World) (h : IsStrs w a len ls) (h' : IsStrs w b m rs) (h0 : 0 ≤ left) (h1 : left ≤ 1048576) :
    Calls Try.prog 8 #[.agg #[.slice a len cap, .slice b m d], .int .i64 left] w fun e w' => ∃ s, e = .returned (.int .i64 s) ∧ Below w.heap.size w w' ∧ (s = -1 ∨ (0 ≤ s ∧ s ≤ left ∧ SmS left ls ∧ SmS left rs)) := by
  obtain ⟨W, hW⟩ : ∃ W, W = w.alloc (.cells #[.slice a len cap, .slice b m d] 25) := ⟨_, rfl⟩
  have HB := Lib.hid (show Below w.heap.size w W by rw [hW]; exact (Below.refl _ _).alloc (Nat.le_refl _) _)
  have X := Lib.hid (show Bq W w.heap.size a len cap b m d by rw [hW]; exact Bq.new _ _ _ _ _ _ _ _)
  have H := Lib.hid (h.keep HB.out (Nat.le_refl _))
  have H' := Lib.hid (h'.keep HB.out (Nat.le_refl _))
  have HW := Lib.hid hW
  clear h h' hW
  go_enter Try.func8, Try.ntmps8
  go_wp2_with fail
  rw [← HW.out]
  refine (szStringS_any ls _ _ _ _ _ H.out h0 h1).mono ?_
  rintro e w1 ⟨s, rfl, hb, hs⟩
  have B1 := Lib.hid (HB.out.trans (hb.mono HB.out.size))
  have K1 := Lib.hid (H'.out.keep hb (Nat.le_refl _))
  obtain ⟨lt, x0, x1⟩ := X.out.keep hb
  clear hb
  rcases hs with rfl | ⟨hs0, hs1, hs2⟩
  · go_wp2
    go_ret
    exact ⟨-1, rfl, B1.out, .inl rfl⟩
  have S2 := Lib.hid hs2
  clear hs2
  go_wp2_with fail
  refine (szStringS_any rs _ _ _ _ _ K1.out hs0 (by omega)).mono ?_
  rintro e w2 ⟨s', rfl, hb, hs⟩
  have B2 := Lib.hid (B1.out.trans (hb.mono B1.out.size))
  clear hb x0 x1 lt
  rcases hs with rfl | ⟨hs0', hs1', hs2'⟩
  · go_wp2
    go_ret
    exact ⟨-1, rfl, B2.out, .inl rfl⟩
  have S3 := Lib.hid hs2'
  clear hs2'
  go_wp2
  go_ret
  exact ⟨s', rfl, B2.out, .inr ⟨hs0', by omega, S2.out, by have := S3.out.1; omega, fun j hj => by have := S3.out.2 j hj; omega⟩⟩

theorem InS.setOut {w : World} {lo hi R o : Nat} {v z : Value} {xs : List (List UInt8)} (h : InS w lo hi v xs) (hR : R < lo ∨ hi ≤ R) : InS (w.setCell ⟨R, o, none⟩ z) lo hi v xs :=
  h.oth (b := some R) (lo' := R) (hi' := R + 1) (fun k hk => by cases hk; omega) ⟨rfl, rfl, rfl, by simp [World.setCell], fun k _ hne => Below.heap_setCell _ _ _ _ (fun e => hne (by rw [e]))⟩ (by omega)
theorem InS.lower {w : World} {lo lo' hi : Nat} {v : Value} {xs : List (List UInt8)} (h : InS w lo hi v xs) (hl : lo' ≤ lo) : InS w lo' hi v xs := ⟨OwnS.mono (w := w) h.1 hl, h.2.1, fun k hk => ⟨Nat.le_trans hl (h.2.2 k hk).1, (h.2.2 k hk).2⟩⟩
theorem cell_setq (w : World) (b o : Nat) {u : Value} (v : Value) (h : w.cell? ⟨b, o, none⟩ = some u) : (w.setCell ⟨b, o, none⟩ v).cell? ⟨b, o, none⟩ = some v := World.cell?_setCell_same _ _ _ h
theorem cell_setq' (w : World) (b o b' o' : Nat) (v : Value) (h : b ≠ b' ∨ o ≠ o') : (w.setCell ⟨b, o, none⟩ v).cell? ⟨b', o', none⟩ = w.cell? ⟨b', o', none⟩ := World.cell?_setCell_other _ _ _ _ (fun e => by cases e; simp at h)

set_option maxHeartbeats 2000000 in
theorem toModalSequent_any (ls rs : List (List UInt8)) (a : Option Addr) (len cap : Nat) (b : Option Addr) (m d : Nat) (w : World) (hl : len ≤ 1048576) (hm : m ≤ 1048576) (h : AtS w a len ls) (h' : AtS w b m rs) :
    Calls Try.prog 10 #[.agg #[.slice a len cap, .slice b m d]] w fun e w' => ∃ v, e = .returned v ∧ InQ w' w.heap.size w'.heap.size v ls rs ∧ Below w.heap.size w w' := by
  obtain ⟨W, hW⟩ : ∃ W, W = ((w.alloc (.cells #[.slice a len cap, .slice b m d] 25)).alloc (.cells #[.slice none 0 0, .slice none 0 0] 28)).alloc (.cells #[.slice none 0 0, .slice none 0 0] 28) := ⟨_, rfl⟩
  have HB := Lib.hid (show Below w.heap.size w W by rw [hW]; exact (((Below.refl w.heap.size w).alloc (Nat.le_refl _) _).alloc (by simp) _).alloc (by simp; omega) _)
  have hWs : W.heap.size = w.heap.size + 1 + 1 + 1 := by rw [hW]; simp
  have X := Lib.hid (show Bq W w.heap.size a len cap b m d by rw [hW]; exact ((Bq.new w a len cap b m d _).keep (alloc_keep _ _).1).keep (alloc_keep _ _).1)
  have Z := Lib.hid (show Bq W (w.heap.size + 1) none 0 0 none 0 0 by
    rw [hW]
    have := (Bq.new (w.alloc (.cells #[.slice a len cap, .slice b m d] 25)) none 0 0 none 0 0 28).keep (alloc_keep _ (.cells #[.slice none 0 0, .slice none 0 0] 28)).1
    simpa using this)
  have Y := Lib.hid (show Bq W (w.heap.size + 1 + 1) none 0 0 none 0 0 by
    rw [hW]
    have := Bq.new ((w.alloc (.cells #[.slice a len cap, .slice b m d] 25)).alloc (.cells #[.slice none 0 0, .slice none 0 0] 28)) none 0 0 none 0 0 28
    simpa using this)
  have FZ := Lib.hid (show ∀ o, W.frozen? ⟨w.heap.size + 1, o, none⟩ = false ∧ W.frozen? ⟨w.heap.size + 1 + 1, o, none⟩ = false from fun o => by
    rw [hW]
    refine ⟨?_, ?_⟩
    · have h1 := Bq.frz (w.alloc (.cells #[.slice a len cap, .slice b m d] 25)) #[.slice none 0 0, .slice none 0 0] 28 o
      have h2 := ((alloc_keep ((w.alloc (.cells #[.slice a len cap, .slice b m d] 25)).alloc (.cells #[.slice none 0 0, .slice none 0 0] 28)) (.cells #[.slice none 0 0, .slice none 0 0] 28)).1.frozen (p := ⟨(w.alloc (.cells #[.slice a len cap, .slice b m d] 25)).heap.size, o, none⟩) (by simp)).trans h1
      have e : (w.alloc (.cells #[.slice a len cap, .slice b m d] 25)).heap.size = w.heap.size + 1 := by simp
      rw [e] at h2
      exact h2
    · have h1 := Bq.frz ((w.alloc (.cells #[.slice a len cap, .slice b m d] 25)).alloc (.cells #[.slice none 0 0, .slice none 0 0] 28)) #[.slice none 0 0, .slice none 0 0] 28 o
      have e : ((w.alloc (.cells #[.slice a len cap, .slice b m d] 25)).alloc (.cells #[.slice none 0 0, .slice none 0 0] 28)).heap.size = w.heap.size + 1 + 1 := by simp
      rw [e] at h1
      exact h1)
  have H := Lib.hid (h.keep HB.out (Nat.le_refl _))
  have H' := Lib.hid h'
  have HW := Lib.hid hW
  clear h h' hW
  go_enter Try.func10, Try.ntmps10
  go_wp2_with fail
  rw [← HW.out]
  refine (toStringS_any ls _ _ _ _ hl H.out).mono ?_
  rintro e w1 ⟨v1, rfl, ho, hb⟩
  have B1 := Lib.hid (HB.out.trans (hb.mono HB.out.size))
  obtain ⟨ltx, x0, x1⟩ := X.out.keep hb
  obtain ⟨lty, y0, y1⟩ := Y.out.keep hb
  obtain ⟨ltz, z0, z1⟩ := Z.out.keep hb
  have fz : ∀ o, w1.frozen? ⟨w.heap.size + 1, o, none⟩ = false ∧ w1.frozen? ⟨w.heap.size + 1 + 1, o, none⟩ = false := fun o => ⟨(hb.frozen (p := ⟨w.heap.size + 1, o, none⟩) (by show w.heap.size + 1 < _; omega)).trans (FZ.out o).1, (hb.frozen (p := ⟨w.heap.size + 1 + 1, o, none⟩) (by show w.heap.size + 1 + 1 < _; omega)).trans (FZ.out o).2⟩
  have hs1 := hb.size
  have O1 := Lib.hid ho.inn
  obtain ⟨a1, c1, rfl, -⟩ := ho.at
  clear ho hb
  have hf0 := (fz 0).2
  have BS := Lib.hid (B1.out.setCell (p := ⟨w.heap.size + 1 + 1, 0, none⟩) (by show w.heap.size ≤ w.heap.size + 1 + 1; omega) (.slice a1 ls.length c1))
  go_wp2_with fail
  refine (toStringS_any rs _ _ _ _ hm (H'.out.keep BS.out (Nat.le_refl _))).mono ?_
  have S0 : (w1.setCell ⟨w.heap.size + 1 + 1, 0, none⟩ (.slice a1 ls.length c1)).cell? ⟨w.heap.size + 1 + 1, 0, none⟩ = some (.slice a1 ls.length c1) := cell_setq _ _ _ _ y0
  have S1 : (w1.setCell ⟨w.heap.size + 1 + 1, 0, none⟩ (.slice a1 ls.length c1)).cell? ⟨w.heap.size + 1 + 1, 1, none⟩ = some (.slice none 0 0) := by rw [cell_setq' _ _ _ _ _ _ (.inr (by decide))]; exact y1
  have T0 : (w1.setCell ⟨w.heap.size + 1 + 1, 0, none⟩ (.slice a1 ls.length c1)).cell? ⟨w.heap.size + 1, 0, none⟩ = some (.slice none 0 0) := by rw [cell_setq' _ _ _ _ _ _ (.inl (by omega))]; exact z0
  have T1 : (w1.setCell ⟨w.heap.size + 1 + 1, 0, none⟩ (.slice a1 ls.length c1)).cell? ⟨w.heap.size + 1, 1, none⟩ = some (.slice none 0 0) := by rw [cell_setq' _ _ _ _ _ _ (.inl (by omega))]; exact z1
  have O2 := Lib.hid (O1.out.setOut (R := w.heap.size + 1 + 1) (o := 0) (z := .slice a1 ls.length c1) (.inl (by omega)))
  have FS : ∀ o, (w1.setCell ⟨w.heap.size + 1 + 1, 0, none⟩ (.slice a1 ls.length c1)).frozen? ⟨w.heap.size + 1, o, none⟩ = false ∧ (w1.setCell ⟨w.heap.size + 1 + 1, 0, none⟩ (.slice a1 ls.length c1)).frozen? ⟨w.heap.size + 1 + 1, o, none⟩ = false := fun o => by
    rw [World.frozen?_setCell, World.frozen?_setCell]
    exact fz o
  have es : (w1.setCell ⟨w.heap.size + 1 + 1, 0, none⟩ (.slice a1 ls.length c1)).heap.size = w1.heap.size := by simp [World.setCell]
  generalize w1.setCell ⟨w.heap.size + 1 + 1, 0, none⟩ (.slice a1 ls.length c1) = ws at BS S0 S1 T0 T1 O2 FS es ⊢
  rintro e w2 ⟨v2, rfl, ho, hb⟩
  have B2 := Lib.hid (BS.out.trans (hb.mono BS.out.size))
  have lz : w.heap.size + 1 < ws.heap.size := by omega
  have ly : w.heap.size + 1 + 1 < ws.heap.size := by omega
  have s0 := (hb.cell (p := ⟨w.heap.size + 1 + 1, 0, none⟩) ly).trans S0
  have s1 := (hb.cell (p := ⟨w.heap.size + 1 + 1, 1, none⟩) ly).trans S1
  have t0 := (hb.cell (p := ⟨w.heap.size + 1, 0, none⟩) lz).trans T0
  have t1 := (hb.cell (p := ⟨w.heap.size + 1, 1, none⟩) lz).trans T1
  have f2 := (hb.frozen (p := ⟨w.heap.size + 1 + 1, 1, none⟩) ly).trans (FS 1).2
  have f3 := (hb.frozen (p := ⟨w.heap.size + 1, 0, none⟩) lz).trans (FS 0).1
  have f4 := (hb.frozen (p := ⟨w.heap.size + 1, 1, none⟩) lz).trans (FS 1).1
  have O3 := Lib.hid (O2.out.below hb (by have := O2.out.hi; omega))
  have V3 := Lib.hid ho.inn
  have hs2 := hb.size
  obtain ⟨a2, c2, rfl, -⟩ := ho.at
  clear ho hb S0 S1 T0 T1 FS O2 O1 x0 x1 y0 y1 z0 z1 hf0 fz BS B1
  go_wp2
  have sz : ∀ (u1 u2 u3 : Value), (((w2.setCell ⟨w.heap.size + 1 + 1, 1, none⟩ u1).setCell ⟨w.heap.size + 1, 0, none⟩ u2).setCell ⟨w.heap.size + 1, 1, none⟩ u3).heap.size = w2.heap.size := fun _ _ _ => by simp [World.setCell]
  exact bodyPost_ret (v := .agg #[.slice a1 ls.length c1, .slice a2 rs.length c2]) (by simp [results, Try.results10, go_sem, t0, t1]) rfl ⟨_, rfl,
    ⟨w1.heap.size, by omega, by rw [sz]; omega, rfl, ((((O3.out.setOut (.inl (by omega))).setOut (.inl (by omega))).setOut (.inl (by omega))).lower (by omega)), by rw [sz]; exact (((V3.out.setOut (.inl (by omega))).setOut (.inl (by omega))).setOut (.inl (by omega))).lower (by omega)⟩,
    ((B2.out.setCell (by show w.heap.size ≤ _; simp; omega) _).setCell (by show w.heap.size ≤ _; simp) _).setCell (by show w.heap.size ≤ _; simp) _⟩

set_option maxHeartbeats 1000000 in
theorem eqModalSequent_in (ls rs : List (List UInt8)) (v v' : Value) (lo hi lo' hi' : Nat) (w : World) (hl : ls.length ≤ 1048576) (hm : rs.length ≤ 1048576) (h : InQ w lo hi v ls rs) (h' : InQ w lo' hi' v' ls rs) :
    Calls Try.prog 12 #[v, v'] w fun e w' => e = .returned (.bool true) ∧ Below w.heap.size w w' := by
  obtain ⟨a, cap, b, d, rfl, -⟩ := h.at
  obtain ⟨a', cap', b', d', rfl, -⟩ := h'.at
  obtain ⟨W, hW, HB, X, X', hWs⟩ : ∃ W, W = (w.alloc (.cells #[.slice a ls.length cap, .slice b rs.length d] 28)).alloc (.cells #[.slice a' ls.length cap', .slice b' rs.length d'] 28) ∧ Hid (Below w.heap.size w W) ∧ Hid (Bq W w.heap.size a ls.length cap b rs.length d) ∧ Hid (Bq W (w.heap.size + 1) a' ls.length cap' b' rs.length d') ∧ w.heap.size ≤ W.heap.size := by
    refine ⟨_, rfl, Lib.hid (((Below.refl w.heap.size w).alloc (Nat.le_refl _) _).alloc (by simp) _), Lib.hid ((Bq.new w a ls.length cap b rs.length d _).keep (alloc_keep _ _).1), ?_, by simp; omega⟩
    have := Bq.new (w.alloc (.cells #[.slice a ls.length cap, .slice b rs.length d] 28)) a' ls.length cap' b' rs.length d' 28
    exact Lib.hid (by simpa using this)
  have I := Lib.hid (h.below HB.out h.hi)
  have I' := Lib.hid (h'.below HB.out h'.hi)
  have HW := Lib.hid hW
  clear h h' hW
  obtain ⟨m1, _, _, _, L1, R1⟩ := I.out
  obtain ⟨m2, _, _, _, L2, R2⟩ := I'.out
  have hL1 := Lib.hid L1
  have hL2 := Lib.hid L2
  have hR1 := Lib.hid R1
  have hR2 := Lib.hid R2
  clear L1 L2 R1 R2 I I'
  go_enter Try.func12, Try.ntmps12
  go_wp2_with fail
  rw [← HW.out]
  refine (eqS_in ls _ _ _ _ _ _ _ hl hL1.out hL2.out).mono ?_
  rintro e w1 ⟨rfl, hb⟩
  have B1 := Lib.hid (HB.out.trans (hb.mono HB.out.size))
  have V1 := Lib.hid (hR1.out.below hb hR1.out.hi)
  have V1' := Lib.hid (hR2.out.below hb hR2.out.hi)
  obtain ⟨lt0, x0, x1⟩ := X.out.keep hb
  obtain ⟨lt1, x0', x1'⟩ := X'.out.keep hb
  clear hb
  go_wp2_with fail
  refine (eqS_in rs _ _ _ _ _ _ _ hm V1.out V1'.out).mono ?_
  rintro e w2 ⟨rfl, hb⟩
  have B2 := Lib.hid (B1.out.trans (hb.mono B1.out.size))
  clear hb x0 x1 x0' x1'
  go_wp2
  go_ret
  exact ⟨rfl, B2.out⟩

/-- Blocks from lo to hi alone have turned; Below lo tells the rest. -/
def Gq (w w' : World) (lo hi : Nat) : Prop := ∃ wm b1 b2, w.grownBy wm b1 ∧ wm.grownBy w' b2 ∧ (∀ k, b1 = some k → lo ≤ k ∧ k < hi) ∧ (∀ k, b2 = some k → lo ≤ k ∧ k < hi)

set_option maxHeartbeats 1000000 in
theorem markModalSequent_in (ls rs : List (List UInt8)) (v : Value) (lo hi n : Nat) (w : World) (hl : ls.length ≤ 1048576) (hm : rs.length ≤ 1048576) (hn : 0 < n) (hn2 : n ≤ 268435456) (h : InQ w lo hi v ls rs) :
    Calls Try.prog 16 #[v, .int .i64 n] w fun e w' => e = .returned (.int .i64 ((n + ls.length + rs.length : Nat) : Int)) ∧ InQ w' lo hi v (mkS n ls.length) (mkS (n + ls.length) rs.length) ∧ Below lo w w' ∧ Gq w w' lo hi := by
  have hi1 := h.hi
  have hlh := h.lo
  obtain ⟨a, cap, b, d, rfl, -⟩ := h.at
  obtain ⟨W, hW⟩ : ∃ W, W = w.alloc (.cells #[.slice a ls.length cap, .slice b rs.length d] 28) := ⟨_, rfl⟩
  have HB := Lib.hid (show Below w.heap.size w W by rw [hW]; exact (Below.refl _ _).alloc (Nat.le_refl _) _)
  have X := Lib.hid (show Bq W w.heap.size a ls.length cap b rs.length d by rw [hW]; exact Bq.new _ _ _ _ _ _ _ _)
  have I := h.below HB.out h.hi
  obtain ⟨q, q1, q2, -, L1, R1⟩ := I
  have hL := Lib.hid L1
  have hR := Lib.hid R1
  have GW := Lib.hid (show w.grownBy W (mqL (.agg #[.slice a ls.length cap, .slice b rs.length d])).ownBlock by rw [hW]; exact World.grownBy_alloc w _ _)
  have HW := Lib.hid hW
  clear h hW L1 R1
  go_enter Try.func16, Try.ntmps16
  go_wp2_with fail
  rw [← HW.out]
  refine (markS_in ls _ lo q n _ hl hn (by omega) hL.out).mono ?_
  obtain ⟨z, hz⟩ : ∃ z, z = n + ls.length := ⟨_, rfl⟩
  rw [← hz]
  have hz0 : 0 < z := by omega
  have hz1 : z ≤ 536870912 := by omega
  have HZ := Lib.hid hz
  clear hz
  rintro e w1 ⟨rfl, om, hb, hg⟩
  have O1 := Lib.hid om
  have B1 := Lib.hid ((HB.out.mono (Nat.le_trans hlh hi1)).trans hb)
  have G1 := Lib.hid (GW.out.trans hg)
  have V1 := Lib.hid (hR.out.oth hL.out.blk hg (.inr (Nat.le_refl _)))
  have Y1 : w1.cell? ⟨w.heap.size, 1, none⟩ = some (.slice b rs.length d) := hg.cell X.out.2.2 (fun e => by have : w.heap.size < q := (hL.out.blk _ e.symm).2; omega)
  clear om hb hg
  go_wp2_with fail
  refine (markS_in rs _ q hi z _ hm hz0 hz1 V1.out).mono ?_
  obtain ⟨y, hy⟩ : ∃ y, y = z + rs.length := ⟨_, rfl⟩
  rw [← hy]
  have HY := Lib.hid hy
  clear hy Y1
  rintro e w2 ⟨rfl, om, hb, hg⟩
  have B2 := Lib.hid (B1.out.trans (hb.mono q1))
  have F2 := Lib.hid (O1.out.oth V1.out.blk hg (.inl (Nat.le_refl _)))
  have V2 := Lib.hid om
  have G2 := Lib.hid (show Gq w w2 lo hi from ⟨w1, _, _, G1.out, hg, fun k hk => by have := hL.out.blk k hk; omega, fun k hk => by have := V1.out.blk k hk; omega⟩)
  clear om hb hg
  go_wp2
  go_ret
  exact ⟨ret_int (by rw [HY.out, HZ.out]), ⟨q, q1, q2, rfl, F2.out, by rw [← HZ.out]; exact V2.out⟩, B2.out, G2.out⟩

end Go.Proofs.Ytpccocmiadpgiaa
