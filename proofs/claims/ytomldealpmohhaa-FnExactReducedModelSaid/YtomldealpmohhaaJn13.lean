/- 2 texts in one: NuN, Nu. -/
import Derived.DeepKeys4
import Derived.Test.YtomldealpmohhaaNuM
/- What the program's numbered answers at labels that are numbers. Conditions: those in the theorems. -/
namespace Go.Proofs.Ytomldealpmohhaa
open Go.RowKit Go.Maps

theorem rowIs_grown {w w' : World} {b n : Nat} {t : TypeId} {f : Nat → Value} {row : Option Nat} (h : w.rowIs b t n f) (hg : w.grownBy w' row) (hne : some b ≠ row) : w'.rowIs b t n f := by
  obtain ⟨c, hb, hs, hc⟩ := h
  exact ⟨c, (hg.block b (Array.getElem?_eq_some_iff.1 hb).1 hne).trans hb, hs, hc⟩
def nuS (F : Nat → Int) (k t : Nat) : Int := if t < k then F t else 0
theorem nuS_set {F : Nat → Int} {k : Nat} {z : Int} (hz : z = F k) (t : Nat) : (if t = k then z else nuS F k t) = nuS F (k + 1) t := by
  unfold nuS
  by_cases e : t = k
  · subst e; rw [if_pos rfl, if_pos (by omega), hz]
  · rw [if_neg e]
    by_cases h2 : t < k
    · rw [if_pos h2, if_pos (by omega)]
    · rw [if_neg h2, if_neg (by omega)]
theorem zero64 (w : World) : (zeroValue 2).run Try.prog w = .ok (.int .i64 0) w := by kernel_rfl
theorem size_pos' : ∃ m, Try.prog.types.size = m + 1 := ⟨Try.prog.types.size - 1, by have h : (0 < Try.prog.types.size) := of_decide_eq_true (by kernel_rfl); omega⟩

theorem wf64 {z : Int} (h0 : 0 ≤ z) (h1 : z ≤ 4611686018427387904) : (Lit.int .i64 z).wf = true := by
  have a : IntKind.i64.min = -9223372036854775808 := by rfl
  have b : IntKind.i64.max = 9223372036854775807 := by rfl
  rw [Lit.wf, a, b]
  simp
  omega


theorem key64_mk {z : Int} (h : (Lit.int .i64 z).wf = true) : keyOf Try.prog 2 (.int .i64 z) = some (.int .i64 z) := keyOf_int_mk Try.underlying2 h

end Go.Proofs.Ytomldealpmohhaa

/- What the program's numbered answers at labels that are pairs. Conditions: those in the theorems. -/
namespace Go.Proofs.Ytomldealpmohhaa
open Go.RowKit Go.Maps

/-- Pairs of a number and a label in a row. -/
def AtP (w : World) (a : Option Addr) (n : Nat) (c : Nat → Int) (u : Nat → Value) : Prop := n = 0 ∨ ∃ b off, a = some ⟨b, off, none⟩ ∧ b < w.heap.size ∧ ∀ j, j < n → w.cell? ⟨b, off + j * 2, none⟩ = some (.int .i64 (c j)) ∧ w.cell? ⟨b, off + j * 2 + 1, none⟩ = some (u j)
theorem AtP.keep {w w' : World} {a : Option Addr} {n : Nat} {c : Nat → Int} {u : Nat → Value} (h : AtP w a n c u) (hb : Below w.heap.size w w') : AtP w' a n c u := by
  rcases h with h | ⟨b, off, e, hlt, hc⟩
  · exact .inl h
  · exact .inr ⟨b, off, e, Nat.lt_of_lt_of_le hlt hb.size, fun j hj => ⟨(hb.cell (p := ⟨b, off + j * 2, none⟩) hlt).trans (hc j hj).1, (hb.cell (p := ⟨b, off + j * 2 + 1, none⟩) hlt).trans (hc j hj).2⟩⟩
theorem keyB_type : Try.prog.keyType 134 = true := by kernel_rfl
theorem keyB_cells : Try.prog.cellsOf 134 = 2 := by kernel_rfl
theorem keyB_wide : (match Try.prog.underlying 134 with | some (.array _ _) | some (.struct _) => true | _ => false) = true := by kernel_rfl
set_option maxRecDepth 100000 in
theorem keyB_law : WideMaps.KeyLaw Try.prog 134 := deep_law_laid laidOut (m := 2) (by omega) (of_decide_eq_true (by kernel_rfl)) (by kernel_rfl) keyB_wide
def kyB (a : Int) (b : Bool) : Lit := .string (keyBytes [.int .i64 a, .bool b])
theorem keyB_mk (a : Int) (b : Bool) (ha : (Lit.int .i64 a).wf = true) : keyOf Try.prog 134 (.agg #[.int .i64 a, .bool b]) = some (kyB a b) := by
  have hkt := keyB_type
  have hcl := keyB_cells
  obtain ⟨m, hm⟩ := size_pos'
  have c1 : Try.prog.cellsOf 2 = 1 := by kernel_rfl
  have c2 : Try.prog.cellsOf 4 = 1 := by kernel_rfl
  unfold keyOf
  simp only [Try.underlying134]
  rw [if_pos (by simp [hkt, Value.formed, Try.underlying134, hcl]), hm]
  unfold Program.keyLits
  simp only [Try.underlying134, Value.cells]
  rw [if_pos (by rw [hcl]; exact ⟨rfl, by simp⟩)]
  simp [Program.keyLits, Try.underlying2, Try.underlying4, c1, c2, ha, kyB]
theorem kyB_inj {a a' : Int} {b b' : Bool} (ha : (Lit.int .i64 a).wf = true) (ha' : (Lit.int .i64 a').wf = true) (h : kyB a b = kyB a' b') : a = a' ∧ b = b' := by
  have h1 := keyB_mk a b ha
  have h2 := keyB_mk a' b' ha'
  rw [h] at h1
  have := keyB_law.inj h1 h2
  simpa using this

set_option maxHeartbeats 4000000 in
set_option maxRecDepth 100000 in
theorem numB_any (c : Nat → Int) (u : Nat → Bool) (n : Nat) (a : Option Addr) (cap : Nat) (w : World) (hn : n ≤ 4096) (hc : ∀ j, j < n → (Lit.int .i64 (c j)).wf = true) (h : AtP w a n c (fun j => .bool (u j))) :
    Calls Try.prog 129 #[.slice a n cap] w fun e w' => ∃ v, e = .returned v ∧ Own w' w.heap.size v (tab n (fun i => (numF (fun j => kyB (c j) (u j)) i : Int))) ∧ Below w.heap.size w w' := by
  have hmk := fun (W : World) => run_make_row' (P := Try.prog) 89 2 (.int .i64 0) 8 Try.underlying89 info64 rfl .i64 .i64 n (by omega) (by omega) W
  have hmm := @run_makeMap Try.prog
  have H := Lib.hid h
  have HC := Lib.hid hc
  skip
  have K := Lib.hid (Keyed.of_law keyB_law)
  clear h hc
  obtain ⟨l, hl⟩ : ∃ l, l = fun j => kyB (c j) (u j) := ⟨_, rfl⟩
  rw [← hl]
  have L := Lib.hid hl
  clear hl
  have hr0 := Lib.hid (World.rowIs_made w (.int .i64 0) n 2)
  go_enter Try.func129, Try.ntmps129
  go_wp2
  clear hmk
  go_loopw [15] (fun i wr => ∃ k : Nat, k ≤ n ∧ i = .int .i64 k ∧ Hid (wr.rowIs w.heap.size 2 n (fun t => .int .i64 (nuS (fun t => (numF l t : Int)) k t))) ∧ Hid (∃ D : DataW Unit, wr.ownsMap Try.prog 134 (plainElem Try.prog 2) (w.heap.size + 1) k D ∧ Md l k D) ∧ Hid (Below w.heap.size w wr) ∧ w.heap.size + 1 + 1 ≤ wr.heap.size) (fun i _ => n - (intOf i).toNat)
  case atStart =>
    refine ⟨0, Nat.zero_le _, rfl, Lib.hid ?_, Lib.hid ⟨_, ?_, Md.zero l⟩, Lib.hid (((Below.refl _ _).alloc (Nat.le_refl _) _).alloc (by simp) _), by simp⟩
    · exact (rowIs_grown hr0.out (World.grownBy_alloc _ _ none) (by simp)).congr fun t _ => by unfold nuS; rw [if_neg (by omega)]
    · have q := World.ownsMap_made (w.alloc (.cells (madeCells #[.int .i64 0] n) 2)) Try.prog 134 (plainElem (H := Unit) Try.prog 2)
      simpa using q
  case round =>
    obtain ⟨k, hk, rfl, R, MD, B, hsz⟩ := hrel
    by_cases hlt : k < n
    · obtain ⟨b, off, rfl, hb, hc⟩ := H.out.resolve_left (by omega)
      have g1 := (B.out.cell (p := ⟨b, off + k * 2, none⟩) hb).trans (hc k hlt).1
      have g2 := (B.out.cell (p := ⟨b, off + k * 2 + 1, none⟩) hb).trans (hc k hlt).2
      have KY := Lib.hid (show keyOf Try.prog 134 (.agg #[.int .i64 (c k), .bool (u k)]) = some (l k) by rw [L.out]; exact keyB_mk _ _ (HC.out k hlt))
      obtain ⟨D, hown, hmd⟩ := MD.out
      have OW := Lib.hid hown
      have DD := Lib.hid hmd
      clear hc hown hmd MD
      have hcg : wr.cell? ⟨w.heap.size, k, none⟩ = some (.int .i64 (nuS (fun t => (numF l t : Int)) k k)) := R.out.cell hlt
      have hfg : wr.frozen? ⟨w.heap.size, k, none⟩ = false := R.out.frozen k
      have hlw : w.heap.size < wr.heap.size := by omega
      cases hs : (stF l k).2 (l k) with
      | some i =>
        have hh : Maps.has D (l k) = true := by rw [DD.out.2.2.1, hs]; rfl
        have HAT := Lib.hid (DD.out.2.2.2 (l k) i (.lit (.int .i64 0)) hs)
        have NI := Lib.hid (st_old hs).2
        have MO := Lib.hid (DD.out.old hs)
        clear hs
        go_wp2_with (at_lookup; refine wpList_lookup_own_ok_int _ rfl _ _ 146 rfl 134 2 .i64 K.out Try.underlying146 Try.underlying2 (zero64 _) (w.heap.size + 1) k D rfl (OW.out.alloc _) _ (l k) rfl KY.out ?_; intro c0 hat hwc; have CI := Lib.hid (show c0 = (numF l k : Int) by rw [HAT.out] at hat; injection hat with e; injection e with _ e2; rw [NI.out]; exact e2.symm); clear hat hwc)
        go_roundw
        case rel => exact ⟨k + 1, hlt, by go_num, Lib.hid (rowIs_grown (row_setI R.out (fun t => nuS_set (F := fun t => (numF l t : Int)) CI.out t)) (World.grownBy_alloc _ _ none) (by simp)), Lib.hid ⟨D, ((OW.out.setCell (a := ⟨w.heap.size, k, none⟩) (by simp) _).alloc _).mono (Nat.le_succ k), MO.out⟩, Lib.hid ((B.out.setCell (p := ⟨w.heap.size, k, none⟩) (Nat.le_refl _) _).alloc (by simp; omega) _), by simp; omega⟩
        case measure => simp [intOf]; omega
      | none =>
        have hh : Maps.has D (l k) = false := by rw [DD.out.2.2.1, hs]; rfl
        have NI := Lib.hid (st_new hs).2
        have SZ := Lib.hid DD.out.2.1
        have MO := Lib.hid (DD.out.new (K.out.key KY.out) hs)
        have hbd := st_bd (l := l) k
        obtain ⟨z, hz⟩ : ∃ z : Int, z = (Maps.size D : Nat) := ⟨_, rfl⟩
        have Z := Lib.hid (show z = ((stF l k).1 : Nat) by rw [hz, SZ.out])
        have hzw : (Lit.int .i64 z).wf = true := wf64 (by have := Z.out; omega) (by have := Z.out; omega)
        have PV := Lib.hid (plainElem_int (H := Unit) (P := Try.prog) Try.underlying2 hzw)
        have ZD := Lib.hid hz
        clear hs hz hzw hbd
        go_wp2_with (first
          | (at_lookup; refine wpList_lookup_own_ok_int _ rfl _ _ 146 rfl 134 2 .i64 K.out Try.underlying146 Try.underlying2 (zero64 _) (w.heap.size + 1) k D rfl (OW.out.alloc _) _ (l k) rfl KY.out ?_; intro c0 hat hwc; clear hat hwc)
          | (at_len; refine wpList_len_own _ rfl _ 146 rfl 134 2 Try.underlying146 _ (w.heap.size + 1) k D rfl (OW.out.alloc _) ?_; rw [← ZD.out])
          | (at_mapUpdate; refine wpList_mapUpdate_own _ rfl _ _ _ 146 rfl 134 2 K.out Try.underlying146 (plainElem (H := Unit) Try.prog 2) (w.heap.size + 1) k D rfl (OW.out.alloc _) (by unfold maxLen; omega) _ _ (l k) rfl rfl KY.out (.lit (.int .i64 z)) [] PV.out ?_; intro w1 hown1 hgrow1; have R1 := Lib.hid (rowIs_grown (rowIs_grown R.out (World.grownBy_alloc wr _ none) (by simp)) hgrow1 (by simp)); have hcg1 := R1.out.cell hlt; have hfg1 := R1.out.frozen k; have hsz1 := hgrow1.size; have OW1 := Lib.hid hown1; have B1 := Lib.hid ((B.out.alloc (by omega) _).grown hgrow1 (by simp; omega) (fun j hj => by cases hj; omega)); clear hown1 hgrow1))
        go_roundw
        case rel => exact ⟨k + 1, hlt, by go_num, Lib.hid (row_setI R1.out (fun t => nuS_set (F := fun t => (numF l t : Int)) (by rw [NI.out]; exact Z.out) t)), Lib.hid ⟨_, OW1.out.setCell (a := ⟨w.heap.size, k, none⟩) (by simp) _, by rw [Z.out]; exact MO.out⟩, Lib.hid (B1.out.setCell (p := ⟨w.heap.size, k, none⟩) (Nat.le_refl _) _), by simp at hsz1 ⊢; omega⟩
        case measure => simp [intOf]; omega
    · obtain rfl : k = n := by omega
      have HR := Lib.hid (R.out.congr (g := fun t => .int .i64 (numF l t : Int)) fun t ht => by show Value.int .i64 (nuS _ _ _) = _; unfold nuS; rw [if_pos ht])
      go_wp2
      go_ret
      exact ⟨_, rfl, own_of_row (F := fun t => (numF l t : Int)) (Nat.le_refl _) (by omega) HR.out, B.out⟩


theorem keyI_type : Try.prog.keyType 138 = true := by kernel_rfl
theorem keyI_cells : Try.prog.cellsOf 138 = 2 := by kernel_rfl
theorem keyI_wide : (match Try.prog.underlying 138 with | some (.array _ _) | some (.struct _) => true | _ => false) = true := by kernel_rfl
set_option maxRecDepth 100000 in
theorem keyI_law : WideMaps.KeyLaw Try.prog 138 := deep_law_laid laidOut (m := 2) (by omega) (of_decide_eq_true (by kernel_rfl)) (by kernel_rfl) keyI_wide
def kyI (a : Int) (b : Int) : Lit := .string (keyBytes [.int .i64 a, .int .i64 b])
theorem keyI_mk (a : Int) (b : Int) (ha : (Lit.int .i64 a).wf = true) (hb : (Lit.int .i64 b).wf = true) : keyOf Try.prog 138 (.agg #[.int .i64 a, .int .i64 b]) = some (kyI a b) := by
  have hkt := keyI_type
  have hcl := keyI_cells
  obtain ⟨m, hm⟩ := size_pos'
  have c1 : Try.prog.cellsOf 2 = 1 := by kernel_rfl
  have c2 : Try.prog.cellsOf 2 = 1 := by kernel_rfl
  unfold keyOf
  simp only [Try.underlying138]
  rw [if_pos (by simp [hkt, Value.formed, Try.underlying138, hcl]), hm]
  unfold Program.keyLits
  simp only [Try.underlying138, Value.cells]
  rw [if_pos (by rw [hcl]; exact ⟨rfl, by simp⟩)]
  simp [Program.keyLits, Try.underlying2, Try.underlying2, c1, c2, ha, hb, kyI]
theorem kyI_inj {a a' : Int} {b b' : Int} (ha : (Lit.int .i64 a).wf = true) (ha' : (Lit.int .i64 a').wf = true) (hb : (Lit.int .i64 b).wf = true) (hb' : (Lit.int .i64 b').wf = true) (h : kyI a b = kyI a' b') : a = a' ∧ b = b' := by
  have h1 := keyI_mk a b ha hb
  have h2 := keyI_mk a' b' ha' hb'
  rw [h] at h1
  have := keyI_law.inj h1 h2
  simpa using this

set_option maxHeartbeats 4000000 in
set_option maxRecDepth 100000 in
theorem numI_any (c : Nat → Int) (u : Nat → Int) (n : Nat) (a : Option Addr) (cap : Nat) (w : World) (hn : n ≤ 4096) (hc : ∀ j, j < n → (Lit.int .i64 (c j)).wf = true) (hu : ∀ j, j < n → (Lit.int .i64 (u j)).wf = true) (h : AtP w a n c (fun j => .int .i64 (u j))) :
    Calls Try.prog 130 #[.slice a n cap] w fun e w' => ∃ v, e = .returned v ∧ Own w' w.heap.size v (tab n (fun i => (numF (fun j => kyI (c j) (u j)) i : Int))) ∧ Below w.heap.size w w' := by
  have hmk := fun (W : World) => run_make_row' (P := Try.prog) 89 2 (.int .i64 0) 8 Try.underlying89 info64 rfl .i64 .i64 n (by omega) (by omega) W
  have hmm := @run_makeMap Try.prog
  have H := Lib.hid h
  have HC := Lib.hid hc
  have HU := Lib.hid hu; clear hu
  have K := Lib.hid (Keyed.of_law keyI_law)
  clear h hc
  obtain ⟨l, hl⟩ : ∃ l, l = fun j => kyI (c j) (u j) := ⟨_, rfl⟩
  rw [← hl]
  have L := Lib.hid hl
  clear hl
  have hr0 := Lib.hid (World.rowIs_made w (.int .i64 0) n 2)
  go_enter Try.func130, Try.ntmps130
  go_wp2
  clear hmk
  go_loopw [15] (fun i wr => ∃ k : Nat, k ≤ n ∧ i = .int .i64 k ∧ Hid (wr.rowIs w.heap.size 2 n (fun t => .int .i64 (nuS (fun t => (numF l t : Int)) k t))) ∧ Hid (∃ D : DataW Unit, wr.ownsMap Try.prog 138 (plainElem Try.prog 2) (w.heap.size + 1) k D ∧ Md l k D) ∧ Hid (Below w.heap.size w wr) ∧ w.heap.size + 1 + 1 ≤ wr.heap.size) (fun i _ => n - (intOf i).toNat)
  case atStart =>
    refine ⟨0, Nat.zero_le _, rfl, Lib.hid ?_, Lib.hid ⟨_, ?_, Md.zero l⟩, Lib.hid (((Below.refl _ _).alloc (Nat.le_refl _) _).alloc (by simp) _), by simp⟩
    · exact (rowIs_grown hr0.out (World.grownBy_alloc _ _ none) (by simp)).congr fun t _ => by unfold nuS; rw [if_neg (by omega)]
    · have q := World.ownsMap_made (w.alloc (.cells (madeCells #[.int .i64 0] n) 2)) Try.prog 138 (plainElem (H := Unit) Try.prog 2)
      simpa using q
  case round =>
    obtain ⟨k, hk, rfl, R, MD, B, hsz⟩ := hrel
    by_cases hlt : k < n
    · obtain ⟨b, off, rfl, hb, hc⟩ := H.out.resolve_left (by omega)
      have g1 := (B.out.cell (p := ⟨b, off + k * 2, none⟩) hb).trans (hc k hlt).1
      have g2 := (B.out.cell (p := ⟨b, off + k * 2 + 1, none⟩) hb).trans (hc k hlt).2
      have KY := Lib.hid (show keyOf Try.prog 138 (.agg #[.int .i64 (c k), .int .i64 (u k)]) = some (l k) by rw [L.out]; exact keyI_mk _ _ (HC.out k hlt) (HU.out k hlt))
      obtain ⟨D, hown, hmd⟩ := MD.out
      have OW := Lib.hid hown
      have DD := Lib.hid hmd
      clear hc hown hmd MD
      have hcg : wr.cell? ⟨w.heap.size, k, none⟩ = some (.int .i64 (nuS (fun t => (numF l t : Int)) k k)) := R.out.cell hlt
      have hfg : wr.frozen? ⟨w.heap.size, k, none⟩ = false := R.out.frozen k
      have hlw : w.heap.size < wr.heap.size := by omega
      cases hs : (stF l k).2 (l k) with
      | some i =>
        have hh : Maps.has D (l k) = true := by rw [DD.out.2.2.1, hs]; rfl
        have HAT := Lib.hid (DD.out.2.2.2 (l k) i (.lit (.int .i64 0)) hs)
        have NI := Lib.hid (st_old hs).2
        have MO := Lib.hid (DD.out.old hs)
        clear hs
        go_wp2_with (at_lookup; refine wpList_lookup_own_ok_int _ rfl _ _ 148 rfl 138 2 .i64 K.out Try.underlying148 Try.underlying2 (zero64 _) (w.heap.size + 1) k D rfl (OW.out.alloc _) _ (l k) rfl KY.out ?_; intro c0 hat hwc; have CI := Lib.hid (show c0 = (numF l k : Int) by rw [HAT.out] at hat; injection hat with e; injection e with _ e2; rw [NI.out]; exact e2.symm); clear hat hwc)
        go_roundw
        case rel => exact ⟨k + 1, hlt, by go_num, Lib.hid (rowIs_grown (row_setI R.out (fun t => nuS_set (F := fun t => (numF l t : Int)) CI.out t)) (World.grownBy_alloc _ _ none) (by simp)), Lib.hid ⟨D, ((OW.out.setCell (a := ⟨w.heap.size, k, none⟩) (by simp) _).alloc _).mono (Nat.le_succ k), MO.out⟩, Lib.hid ((B.out.setCell (p := ⟨w.heap.size, k, none⟩) (Nat.le_refl _) _).alloc (by simp; omega) _), by simp; omega⟩
        case measure => simp [intOf]; omega
      | none =>
        have hh : Maps.has D (l k) = false := by rw [DD.out.2.2.1, hs]; rfl
        have NI := Lib.hid (st_new hs).2
        have SZ := Lib.hid DD.out.2.1
        have MO := Lib.hid (DD.out.new (K.out.key KY.out) hs)
        have hbd := st_bd (l := l) k
        obtain ⟨z, hz⟩ : ∃ z : Int, z = (Maps.size D : Nat) := ⟨_, rfl⟩
        have Z := Lib.hid (show z = ((stF l k).1 : Nat) by rw [hz, SZ.out])
        have hzw : (Lit.int .i64 z).wf = true := wf64 (by have := Z.out; omega) (by have := Z.out; omega)
        have PV := Lib.hid (plainElem_int (H := Unit) (P := Try.prog) Try.underlying2 hzw)
        have ZD := Lib.hid hz
        clear hs hz hzw hbd
        go_wp2_with (first
          | (at_lookup; refine wpList_lookup_own_ok_int _ rfl _ _ 148 rfl 138 2 .i64 K.out Try.underlying148 Try.underlying2 (zero64 _) (w.heap.size + 1) k D rfl (OW.out.alloc _) _ (l k) rfl KY.out ?_; intro c0 hat hwc; clear hat hwc)
          | (at_len; refine wpList_len_own _ rfl _ 148 rfl 138 2 Try.underlying148 _ (w.heap.size + 1) k D rfl (OW.out.alloc _) ?_; rw [← ZD.out])
          | (at_mapUpdate; refine wpList_mapUpdate_own _ rfl _ _ _ 148 rfl 138 2 K.out Try.underlying148 (plainElem (H := Unit) Try.prog 2) (w.heap.size + 1) k D rfl (OW.out.alloc _) (by unfold maxLen; omega) _ _ (l k) rfl rfl KY.out (.lit (.int .i64 z)) [] PV.out ?_; intro w1 hown1 hgrow1; have R1 := Lib.hid (rowIs_grown (rowIs_grown R.out (World.grownBy_alloc wr _ none) (by simp)) hgrow1 (by simp)); have hcg1 := R1.out.cell hlt; have hfg1 := R1.out.frozen k; have hsz1 := hgrow1.size; have OW1 := Lib.hid hown1; have B1 := Lib.hid ((B.out.alloc (by omega) _).grown hgrow1 (by simp; omega) (fun j hj => by cases hj; omega)); clear hown1 hgrow1))
        go_roundw
        case rel => exact ⟨k + 1, hlt, by go_num, Lib.hid (row_setI R1.out (fun t => nuS_set (F := fun t => (numF l t : Int)) (by rw [NI.out]; exact Z.out) t)), Lib.hid ⟨_, OW1.out.setCell (a := ⟨w.heap.size, k, none⟩) (by simp) _, by rw [Z.out]; exact MO.out⟩, Lib.hid (B1.out.setCell (p := ⟨w.heap.size, k, none⟩) (Nat.le_refl _) _), by simp at hsz1 ⊢; omega⟩
        case measure => simp [intOf]; omega
    · obtain rfl : k = n := by omega
      have HR := Lib.hid (R.out.congr (g := fun t => .int .i64 (numF l t : Int)) fun t ht => by show Value.int .i64 (nuS _ _ _) = _; unfold nuS; rw [if_pos ht])
      go_wp2
      go_ret
      exact ⟨_, rfl, own_of_row (F := fun t => (numF l t : Int)) (Nat.le_refl _) (by omega) HR.out, B.out⟩

end Go.Proofs.Ytomldealpmohhaa
