/- 2 texts in one: Nu, Rf. -/
import Derived.DeepKeys4
import Derived.Test.YthopleeehbkjaaaNuM
/- What the program's numbered answers at labels that are pairs. Conditions: those in the theorems. -/
namespace Go.Proofs.Ythopleeehbkjaaa
open Go.RowKit Go.Maps

theorem rowIs_grown {w w' : World} {b n : Nat} {t : TypeId} {f : Nat → Value} {row : Option Nat} (h : w.rowIs b t n f) (hg : w.grownBy w' row) (hne : some b ≠ row) : w'.rowIs b t n f := by
  obtain ⟨c, hb, hs, hc⟩ := h
  exact ⟨c, (hg.block b (Array.getElem?_eq_some_iff.1 hb).1 hne).trans hb, hs, hc⟩
def nuS (F : Nat → Int) (k t : Nat) : Int := if t < k then F t else 0
theorem nuS_set {F : Nat → Int} {k : Nat} {z : Int} (hz : z = F k) (t : Nat) : (if t = k then z else nuS F k t) = nuS F (k + 1) t := by
  unfold nuS
  by_cases e : t = k
  · subst e; rw [if_pos rfl, if_pos (by omega), hz]
  · rw [if_neg e]
    by_cases h2 : t < k
    · rw [if_pos h2, if_pos (by omega)]
    · rw [if_neg h2, if_neg (by omega)]
/-- Pairs of a number and a label in a row. -/
def AtP (w : World) (a : Option Addr) (n : Nat) (c : Nat → Int) (u : Nat → Value) : Prop := n = 0 ∨ ∃ b off, a = some ⟨b, off, none⟩ ∧ b < w.heap.size ∧ ∀ j, j < n → w.cell? ⟨b, off + j * 2, none⟩ = some (.int .i64 (c j)) ∧ w.cell? ⟨b, off + j * 2 + 1, none⟩ = some (u j)
theorem AtP.keep {w w' : World} {a : Option Addr} {n : Nat} {c : Nat → Int} {u : Nat → Value} (h : AtP w a n c u) (hb : Below w.heap.size w w') : AtP w' a n c u := by
  rcases h with h | ⟨b, off, e, hlt, hc⟩
  · exact .inl h
  · exact .inr ⟨b, off, e, Nat.lt_of_lt_of_le hlt hb.size, fun j hj => ⟨(hb.cell (p := ⟨b, off + j * 2, none⟩) hlt).trans (hc j hj).1, (hb.cell (p := ⟨b, off + j * 2 + 1, none⟩) hlt).trans (hc j hj).2⟩⟩
theorem zero64 (w : World) : (zeroValue 2).run Try.prog w = .ok (.int .i64 0) w := by kernel_rfl
theorem size_pos' : ∃ m, Try.prog.types.size = m + 1 := ⟨Try.prog.types.size - 1, by have h : (0 < Try.prog.types.size) := of_decide_eq_true (by kernel_rfl); omega⟩

theorem wf64 {z : Int} (h0 : 0 ≤ z) (h1 : z ≤ 4611686018427387904) : (Lit.int .i64 z).wf = true := by
  have a : IntKind.i64.min = -9223372036854775808 := by rfl
  have b : IntKind.i64.max = 9223372036854775807 := by rfl
  rw [Lit.wf, a, b]
  simp
  omega


theorem keyB_type : Try.prog.keyType 147 = true := by kernel_rfl
theorem keyB_cells : Try.prog.cellsOf 147 = 2 := by kernel_rfl
theorem keyB_wide : (match Try.prog.underlying 147 with | some (.array _ _) | some (.struct _) => true | _ => false) = true := by kernel_rfl
set_option maxRecDepth 100000 in
theorem keyB_law : WideMaps.KeyLaw Try.prog 147 := deep_law_laid laidOut (m := 2) (by omega) (of_decide_eq_true (by kernel_rfl)) (by kernel_rfl) keyB_wide
def kyB (a : Int) (b : Bool) : Lit := .string (keyBytes [.int .i64 a, .bool b])
theorem keyB_mk (a : Int) (b : Bool) (ha : (Lit.int .i64 a).wf = true) : keyOf Try.prog 147 (.agg #[.int .i64 a, .bool b]) = some (kyB a b) := by
  have hkt := keyB_type
  have hcl := keyB_cells
  obtain ⟨m, hm⟩ := size_pos'
  have c1 : Try.prog.cellsOf 2 = 1 := by kernel_rfl
  have c2 : Try.prog.cellsOf 4 = 1 := by kernel_rfl
  unfold keyOf
  simp only [Try.underlying147]
  rw [if_pos (by simp [hkt, Value.formed, Try.underlying147, hcl]), hm]
  unfold Program.keyLits
  simp only [Try.underlying147, Value.cells]
  rw [if_pos (by rw [hcl]; exact ⟨rfl, by simp⟩)]
  simp [Program.keyLits, Try.underlying2, Try.underlying4, c1, c2, ha, kyB]
theorem kyB_inj {a a' : Int} {b b' : Bool} (ha : (Lit.int .i64 a).wf = true) (ha' : (Lit.int .i64 a').wf = true) (h : kyB a b = kyB a' b') : a = a' ∧ b = b' := by
  have h1 := keyB_mk a b ha
  have h2 := keyB_mk a' b' ha'
  rw [h] at h1
  have := keyB_law.inj h1 h2
  simpa using this

set_option maxHeartbeats 4000000 in
set_option maxRecDepth 100000 in
theorem numB_any (c : Nat → Int) (u : Nat → Bool) (n : Nat) (a : Option Addr) (cap : Nat) (w : World) (hn : n ≤ 4096) (hc : ∀ j, j < n → (Lit.int .i64 (c j)).wf = true) (h : AtP w a n c (fun j => .bool (u j))) :
    Calls Try.prog 132 #[.slice a n cap] w fun e w' => ∃ v, e = .returned v ∧ Own w' w.heap.size v (tab n (fun i => (numF (fun j => kyB (c j) (u j)) i : Int))) ∧ Below w.heap.size w w' := by
  have hmk := fun (W : World) => run_make_row' (P := Try.prog) 88 2 (.int .i64 0) 8 Try.underlying88 info64 rfl .i64 .i64 n (by omega) (by omega) W
  have hmm := @run_makeMap Try.prog
  have H := Lib.hid h
  have HC := Lib.hid hc
  skip
  have K := Lib.hid (Keyed.of_law keyB_law)
  clear h hc
  obtain ⟨l, hl⟩ : ∃ l, l = fun j => kyB (c j) (u j) := ⟨_, rfl⟩
  rw [← hl]
  have L := Lib.hid hl
  clear hl
  have hr0 := Lib.hid (World.rowIs_made w (.int .i64 0) n 2)
  go_enter Try.func132, Try.ntmps132
  go_wp2
  clear hmk
  go_loopw [15] (fun i wr => ∃ k : Nat, k ≤ n ∧ i = .int .i64 k ∧ Hid (wr.rowIs w.heap.size 2 n (fun t => .int .i64 (nuS (fun t => (numF l t : Int)) k t))) ∧ Hid (∃ D : DataW Unit, wr.ownsMap Try.prog 147 (plainElem Try.prog 2) (w.heap.size + 1) k D ∧ Md l k D) ∧ Hid (Below w.heap.size w wr) ∧ w.heap.size + 1 + 1 ≤ wr.heap.size) (fun i _ => n - (intOf i).toNat)
  case atStart =>
    refine ⟨0, Nat.zero_le _, rfl, Lib.hid ?_, Lib.hid ⟨_, ?_, Md.zero l⟩, Lib.hid (((Below.refl _ _).alloc (Nat.le_refl _) _).alloc (by simp) _), by simp⟩
    · exact (rowIs_grown hr0.out (World.grownBy_alloc _ _ none) (by simp)).congr fun t _ => by unfold nuS; rw [if_neg (by omega)]
    · have q := World.ownsMap_made (w.alloc (.cells (madeCells #[.int .i64 0] n) 2)) Try.prog 147 (plainElem (H := Unit) Try.prog 2)
      simpa using q
  case round =>
    obtain ⟨k, hk, rfl, R, MD, B, hsz⟩ := hrel
    by_cases hlt : k < n
    · obtain ⟨b, off, rfl, hb, hc⟩ := H.out.resolve_left (by omega)
      have g1 := (B.out.cell (p := ⟨b, off + k * 2, none⟩) hb).trans (hc k hlt).1
      have g2 := (B.out.cell (p := ⟨b, off + k * 2 + 1, none⟩) hb).trans (hc k hlt).2
      have KY := Lib.hid (show keyOf Try.prog 147 (.agg #[.int .i64 (c k), .bool (u k)]) = some (l k) by rw [L.out]; exact keyB_mk _ _ (HC.out k hlt))
      obtain ⟨D, hown, hmd⟩ := MD.out
      have OW := Lib.hid hown
      have DD := Lib.hid hmd
      clear hc hown hmd MD
      have hcg : wr.cell? ⟨w.heap.size, k, none⟩ = some (.int .i64 (nuS (fun t => (numF l t : Int)) k k)) := R.out.cell hlt
      have hfg : wr.frozen? ⟨w.heap.size, k, none⟩ = false := R.out.frozen k
      have hlw : w.heap.size < wr.heap.size := by omega
      cases hs : (stF l k).2 (l k) with
      | some i =>
        have hh : Maps.has D (l k) = true := by rw [DD.out.2.2.1, hs]; rfl
        have HAT := Lib.hid (DD.out.2.2.2 (l k) i (.lit (.int .i64 0)) hs)
        have NI := Lib.hid (st_old hs).2
        have MO := Lib.hid (DD.out.old hs)
        clear hs
        go_wp2_with (at_lookup; refine wpList_lookup_own_ok_int _ rfl _ _ 153 rfl 147 2 .i64 K.out Try.underlying153 Try.underlying2 (zero64 _) (w.heap.size + 1) k D rfl (OW.out.alloc _) _ (l k) rfl KY.out ?_; intro c0 hat hwc; have CI := Lib.hid (show c0 = (numF l k : Int) by rw [HAT.out] at hat; injection hat with e; injection e with _ e2; rw [NI.out]; exact e2.symm); clear hat hwc)
        go_roundw
        case rel => exact ⟨k + 1, hlt, by go_num, Lib.hid (rowIs_grown (row_setI R.out (fun t => nuS_set (F := fun t => (numF l t : Int)) CI.out t)) (World.grownBy_alloc _ _ none) (by simp)), Lib.hid ⟨D, ((OW.out.setCell (a := ⟨w.heap.size, k, none⟩) (by simp) _).alloc _).mono (Nat.le_succ k), MO.out⟩, Lib.hid ((B.out.setCell (p := ⟨w.heap.size, k, none⟩) (Nat.le_refl _) _).alloc (by simp; omega) _), by simp; omega⟩
        case measure => simp [intOf]; omega
      | none =>
        have hh : Maps.has D (l k) = false := by rw [DD.out.2.2.1, hs]; rfl
        have NI := Lib.hid (st_new hs).2
        have SZ := Lib.hid DD.out.2.1
        have MO := Lib.hid (DD.out.new (K.out.key KY.out) hs)
        have hbd := st_bd (l := l) k
        obtain ⟨z, hz⟩ : ∃ z : Int, z = (Maps.size D : Nat) := ⟨_, rfl⟩
        have Z := Lib.hid (show z = ((stF l k).1 : Nat) by rw [hz, SZ.out])
        have hzw : (Lit.int .i64 z).wf = true := wf64 (by have := Z.out; omega) (by have := Z.out; omega)
        have PV := Lib.hid (plainElem_int (H := Unit) (P := Try.prog) Try.underlying2 hzw)
        have ZD := Lib.hid hz
        clear hs hz hzw hbd
        go_wp2_with (first
          | (at_lookup; refine wpList_lookup_own_ok_int _ rfl _ _ 153 rfl 147 2 .i64 K.out Try.underlying153 Try.underlying2 (zero64 _) (w.heap.size + 1) k D rfl (OW.out.alloc _) _ (l k) rfl KY.out ?_; intro c0 hat hwc; clear hat hwc)
          | (at_len; refine wpList_len_own _ rfl _ 153 rfl 147 2 Try.underlying153 _ (w.heap.size + 1) k D rfl (OW.out.alloc _) ?_; rw [← ZD.out])
          | (at_mapUpdate; refine wpList_mapUpdate_own _ rfl _ _ _ 153 rfl 147 2 K.out Try.underlying153 (plainElem (H := Unit) Try.prog 2) (w.heap.size + 1) k D rfl (OW.out.alloc _) (by unfold maxLen; omega) _ _ (l k) rfl rfl KY.out (.lit (.int .i64 z)) [] PV.out ?_; intro w1 hown1 hgrow1; have R1 := Lib.hid (rowIs_grown (rowIs_grown R.out (World.grownBy_alloc wr _ none) (by simp)) hgrow1 (by simp)); have hcg1 := R1.out.cell hlt; have hfg1 := R1.out.frozen k; have hsz1 := hgrow1.size; have OW1 := Lib.hid hown1; have B1 := Lib.hid ((B.out.alloc (by omega) _).grown hgrow1 (by simp; omega) (fun j hj => by cases hj; omega)); clear hown1 hgrow1))
        go_roundw
        case rel => exact ⟨k + 1, hlt, by go_num, Lib.hid (row_setI R1.out (fun t => nuS_set (F := fun t => (numF l t : Int)) (by rw [NI.out]; exact Z.out) t)), Lib.hid ⟨_, OW1.out.setCell (a := ⟨w.heap.size, k, none⟩) (by simp) _, by rw [Z.out]; exact MO.out⟩, Lib.hid (B1.out.setCell (p := ⟨w.heap.size, k, none⟩) (Nat.le_refl _) _), by simp at hsz1 ⊢; omega⟩
        case measure => simp [intOf]; omega
    · obtain rfl : k = n := by omega
      have HR := Lib.hid (R.out.congr (g := fun t => .int .i64 (numF l t : Int)) fun t ht => by show Value.int .i64 (nuS _ _ _) = _; unfold nuS; rw [if_pos ht])
      go_wp2
      go_ret
      exact ⟨_, rfl, own_of_row (F := fun t => (numF l t : Int)) (Nat.le_refl _) (by omega) HR.out, B.out⟩


theorem keyI_type : Try.prog.keyType 151 = true := by kernel_rfl
theorem keyI_cells : Try.prog.cellsOf 151 = 2 := by kernel_rfl
theorem keyI_wide : (match Try.prog.underlying 151 with | some (.array _ _) | some (.struct _) => true | _ => false) = true := by kernel_rfl
set_option maxRecDepth 100000 in
theorem keyI_law : WideMaps.KeyLaw Try.prog 151 := deep_law_laid laidOut (m := 2) (by omega) (of_decide_eq_true (by kernel_rfl)) (by kernel_rfl) keyI_wide
def kyI (a : Int) (b : Int) : Lit := .string (keyBytes [.int .i64 a, .int .i64 b])
theorem keyI_mk (a : Int) (b : Int) (ha : (Lit.int .i64 a).wf = true) (hb : (Lit.int .i64 b).wf = true) : keyOf Try.prog 151 (.agg #[.int .i64 a, .int .i64 b]) = some (kyI a b) := by
  have hkt := keyI_type
  have hcl := keyI_cells
  obtain ⟨m, hm⟩ := size_pos'
  have c1 : Try.prog.cellsOf 2 = 1 := by kernel_rfl
  have c2 : Try.prog.cellsOf 2 = 1 := by kernel_rfl
  unfold keyOf
  simp only [Try.underlying151]
  rw [if_pos (by simp [hkt, Value.formed, Try.underlying151, hcl]), hm]
  unfold Program.keyLits
  simp only [Try.underlying151, Value.cells]
  rw [if_pos (by rw [hcl]; exact ⟨rfl, by simp⟩)]
  simp [Program.keyLits, Try.underlying2, Try.underlying2, c1, c2, ha, hb, kyI]
theorem kyI_inj {a a' : Int} {b b' : Int} (ha : (Lit.int .i64 a).wf = true) (ha' : (Lit.int .i64 a').wf = true) (hb : (Lit.int .i64 b).wf = true) (hb' : (Lit.int .i64 b').wf = true) (h : kyI a b = kyI a' b') : a = a' ∧ b = b' := by
  have h1 := keyI_mk a b ha hb
  have h2 := keyI_mk a' b' ha' hb'
  rw [h] at h1
  have := keyI_law.inj h1 h2
  simpa using this

set_option maxHeartbeats 4000000 in
set_option maxRecDepth 100000 in
theorem numI_any (c : Nat → Int) (u : Nat → Int) (n : Nat) (a : Option Addr) (cap : Nat) (w : World) (hn : n ≤ 4096) (hc : ∀ j, j < n → (Lit.int .i64 (c j)).wf = true) (hu : ∀ j, j < n → (Lit.int .i64 (u j)).wf = true) (h : AtP w a n c (fun j => .int .i64 (u j))) :
    Calls Try.prog 133 #[.slice a n cap] w fun e w' => ∃ v, e = .returned v ∧ Own w' w.heap.size v (tab n (fun i => (numF (fun j => kyI (c j) (u j)) i : Int))) ∧ Below w.heap.size w w' := by
  have hmk := fun (W : World) => run_make_row' (P := Try.prog) 88 2 (.int .i64 0) 8 Try.underlying88 info64 rfl .i64 .i64 n (by omega) (by omega) W
  have hmm := @run_makeMap Try.prog
  have H := Lib.hid h
  have HC := Lib.hid hc
  have HU := Lib.hid hu; clear hu
  have K := Lib.hid (Keyed.of_law keyI_law)
  clear h hc
  obtain ⟨l, hl⟩ : ∃ l, l = fun j => kyI (c j) (u j) := ⟨_, rfl⟩
  rw [← hl]
  have L := Lib.hid hl
  clear hl
  have hr0 := Lib.hid (World.rowIs_made w (.int .i64 0) n 2)
  go_enter Try.func133, Try.ntmps133
  go_wp2
  clear hmk
  go_loopw [15] (fun i wr => ∃ k : Nat, k ≤ n ∧ i = .int .i64 k ∧ Hid (wr.rowIs w.heap.size 2 n (fun t => .int .i64 (nuS (fun t => (numF l t : Int)) k t))) ∧ Hid (∃ D : DataW Unit, wr.ownsMap Try.prog 151 (plainElem Try.prog 2) (w.heap.size + 1) k D ∧ Md l k D) ∧ Hid (Below w.heap.size w wr) ∧ w.heap.size + 1 + 1 ≤ wr.heap.size) (fun i _ => n - (intOf i).toNat)
  case atStart =>
    refine ⟨0, Nat.zero_le _, rfl, Lib.hid ?_, Lib.hid ⟨_, ?_, Md.zero l⟩, Lib.hid (((Below.refl _ _).alloc (Nat.le_refl _) _).alloc (by simp) _), by simp⟩
    · exact (rowIs_grown hr0.out (World.grownBy_alloc _ _ none) (by simp)).congr fun t _ => by unfold nuS; rw [if_neg (by omega)]
    · have q := World.ownsMap_made (w.alloc (.cells (madeCells #[.int .i64 0] n) 2)) Try.prog 151 (plainElem (H := Unit) Try.prog 2)
      simpa using q
  case round =>
    obtain ⟨k, hk, rfl, R, MD, B, hsz⟩ := hrel
    by_cases hlt : k < n
    · obtain ⟨b, off, rfl, hb, hc⟩ := H.out.resolve_left (by omega)
      have g1 := (B.out.cell (p := ⟨b, off + k * 2, none⟩) hb).trans (hc k hlt).1
      have g2 := (B.out.cell (p := ⟨b, off + k * 2 + 1, none⟩) hb).trans (hc k hlt).2
      have KY := Lib.hid (show keyOf Try.prog 151 (.agg #[.int .i64 (c k), .int .i64 (u k)]) = some (l k) by rw [L.out]; exact keyI_mk _ _ (HC.out k hlt) (HU.out k hlt))
      obtain ⟨D, hown, hmd⟩ := MD.out
      have OW := Lib.hid hown
      have DD := Lib.hid hmd
      clear hc hown hmd MD
      have hcg : wr.cell? ⟨w.heap.size, k, none⟩ = some (.int .i64 (nuS (fun t => (numF l t : Int)) k k)) := R.out.cell hlt
      have hfg : wr.frozen? ⟨w.heap.size, k, none⟩ = false := R.out.frozen k
      have hlw : w.heap.size < wr.heap.size := by omega
      cases hs : (stF l k).2 (l k) with
      | some i =>
        have hh : Maps.has D (l k) = true := by rw [DD.out.2.2.1, hs]; rfl
        have HAT := Lib.hid (DD.out.2.2.2 (l k) i (.lit (.int .i64 0)) hs)
        have NI := Lib.hid (st_old hs).2
        have MO := Lib.hid (DD.out.old hs)
        clear hs
        go_wp2_with (at_lookup; refine wpList_lookup_own_ok_int _ rfl _ _ 155 rfl 151 2 .i64 K.out Try.underlying155 Try.underlying2 (zero64 _) (w.heap.size + 1) k D rfl (OW.out.alloc _) _ (l k) rfl KY.out ?_; intro c0 hat hwc; have CI := Lib.hid (show c0 = (numF l k : Int) by rw [HAT.out] at hat; injection hat with e; injection e with _ e2; rw [NI.out]; exact e2.symm); clear hat hwc)
        go_roundw
        case rel => exact ⟨k + 1, hlt, by go_num, Lib.hid (rowIs_grown (row_setI R.out (fun t => nuS_set (F := fun t => (numF l t : Int)) CI.out t)) (World.grownBy_alloc _ _ none) (by simp)), Lib.hid ⟨D, ((OW.out.setCell (a := ⟨w.heap.size, k, none⟩) (by simp) _).alloc _).mono (Nat.le_succ k), MO.out⟩, Lib.hid ((B.out.setCell (p := ⟨w.heap.size, k, none⟩) (Nat.le_refl _) _).alloc (by simp; omega) _), by simp; omega⟩
        case measure => simp [intOf]; omega
      | none =>
        have hh : Maps.has D (l k) = false := by rw [DD.out.2.2.1, hs]; rfl
        have NI := Lib.hid (st_new hs).2
        have SZ := Lib.hid DD.out.2.1
        have MO := Lib.hid (DD.out.new (K.out.key KY.out) hs)
        have hbd := st_bd (l := l) k
        obtain ⟨z, hz⟩ : ∃ z : Int, z = (Maps.size D : Nat) := ⟨_, rfl⟩
        have Z := Lib.hid (show z = ((stF l k).1 : Nat) by rw [hz, SZ.out])
        have hzw : (Lit.int .i64 z).wf = true := wf64 (by have := Z.out; omega) (by have := Z.out; omega)
        have PV := Lib.hid (plainElem_int (H := Unit) (P := Try.prog) Try.underlying2 hzw)
        have ZD := Lib.hid hz
        clear hs hz hzw hbd
        go_wp2_with (first
          | (at_lookup; refine wpList_lookup_own_ok_int _ rfl _ _ 155 rfl 151 2 .i64 K.out Try.underlying155 Try.underlying2 (zero64 _) (w.heap.size + 1) k D rfl (OW.out.alloc _) _ (l k) rfl KY.out ?_; intro c0 hat hwc; clear hat hwc)
          | (at_len; refine wpList_len_own _ rfl _ 155 rfl 151 2 Try.underlying155 _ (w.heap.size + 1) k D rfl (OW.out.alloc _) ?_; rw [← ZD.out])
          | (at_mapUpdate; refine wpList_mapUpdate_own _ rfl _ _ _ 155 rfl 151 2 K.out Try.underlying155 (plainElem (H := Unit) Try.prog 2) (w.heap.size + 1) k D rfl (OW.out.alloc _) (by unfold maxLen; omega) _ _ (l k) rfl rfl KY.out (.lit (.int .i64 z)) [] PV.out ?_; intro w1 hown1 hgrow1; have R1 := Lib.hid (rowIs_grown (rowIs_grown R.out (World.grownBy_alloc wr _ none) (by simp)) hgrow1 (by simp)); have hcg1 := R1.out.cell hlt; have hfg1 := R1.out.frozen k; have hsz1 := hgrow1.size; have OW1 := Lib.hid hown1; have B1 := Lib.hid ((B.out.alloc (by omega) _).grown hgrow1 (by simp; omega) (fun j hj => by cases hj; omega)); clear hown1 hgrow1))
        go_roundw
        case rel => exact ⟨k + 1, hlt, by go_num, Lib.hid (row_setI R1.out (fun t => nuS_set (F := fun t => (numF l t : Int)) (by rw [NI.out]; exact Z.out) t)), Lib.hid ⟨_, OW1.out.setCell (a := ⟨w.heap.size, k, none⟩) (by simp) _, by rw [Z.out]; exact MO.out⟩, Lib.hid (B1.out.setCell (p := ⟨w.heap.size, k, none⟩) (Nat.le_refl _) _), by simp at hsz1 ⊢; omega⟩
        case measure => simp [intOf]; omega
    · obtain rfl : k = n := by omega
      have HR := Lib.hid (R.out.congr (g := fun t => .int .i64 (numF l t : Int)) fun t ht => by show Value.int .i64 (nuS _ _ _) = _; unfold nuS; rw [if_pos ht])
      go_wp2
      go_ret
      exact ⟨_, rfl, own_of_row (F := fun t => (numF l t : Int)) (Nat.le_refl _) (by omega) HR.out, B.out⟩

end Go.Proofs.Ythopleeehbkjaaa

/- What the program's classesOf and refine answer. Conditions: those in the theorems. -/
namespace Go.Proofs.Ythopleeehbkjaaa
open Go.RowKit Go.Maps

def coTo (cs : List Int) (m : Int) : Nat → Int
  | 0 => 0
  | k + 1 => if bitB m k then bits .or .i64 (coTo cs m k) (one (nth cs k)) else coTo cs m k

set_option maxHeartbeats 400000 in
theorem classesOf_any (cs : List Int) (m : Int) (a : Option Addr) (cap : Nat) (w : World) (hl : cs.length ≤ 30) (hc : ∀ i, 0 ≤ nth cs i ∧ nth cs i ≤ 30) (h : At w a cs.length cs) :
    Calls Try.prog 117 #[.slice a cs.length cap, .int .i64 m] w fun e w' => e = .returned (.int .i64 (coTo cs m cs.length)) ∧ w = w' := by
  have H := Lib.hid h
  have HC := Lib.hid hc
  clear h hc
  go_enter Try.func117, Try.ntmps117
  go_wp2
  go_loop [5, 10] (fun s i => ∃ k : Nat, k ≤ cs.length ∧ i = .int .i64 k ∧ s = .int .i64 (coTo cs m k)) (fun _ i => cs.length - (intOf i).toNat)
  case atStart => exact ⟨0, Nat.zero_le _, rfl, rfl⟩
  case round =>
    obtain ⟨k, hk, rfl, rfl⟩ := hrel
    by_cases hlt : k < cs.length
    · obtain ⟨b, off, rfl, hb, hc⟩ := H.out.2.resolve_left (by omega)
      have hcell := hc k hlt
      obtain ⟨z, hz⟩ : ∃ z, z = nth cs k := ⟨_, rfl⟩
      rw [← hz] at hcell
      have hz0 : 0 ≤ z := by rw [hz]; exact (HC.out k).1
      have hz1 : z ≤ 30 := by rw [hz]; exact (HC.out k).2
      have Z := Lib.hid hz
      clear hc hz
      cases hbit : bitB m k
      all_goals
        have HB := Lib.hid hbit
        go_wp2_with (go_at_call 95; refine (hasMember_any _ _ _ (by omega) (by omega)).mono ?_; rintro e w' ⟨rfl, rfl⟩)
        go_round
        case rel => exact ⟨k + 1, hlt, by go_num, by simp only [coTo, HB.out, ← Z.out]; rfl⟩
        case measure => simp [intOf]; omega
    · obtain rfl : k = cs.length := by omega
      go_wp2
      go_ret
      exact ⟨rfl, rfl⟩

theorem lab1_any (i : Int) (R : Nat) (m : Int) (w : World) (hi0 : 0 ≤ i) (hi1 : i ≤ 30) (h : w.cell? ⟨R, 0, none⟩ = some (.int .i64 m)) :
    Calls Try.prog 113 #[.int .i64 i, .pointer (some ⟨R, 0, none⟩)] w fun e w' => e = .returned (.bool (bitB m i)) ∧ w = w' := by
  go_enter Try.func113, Try.ntmps113
  go_wp2_with (go_at_call 95; refine (hasMember_any _ _ _ hi0 hi1).mono ?_; rintro e w' ⟨rfl, rfl⟩)
  go_ret
  exact ⟨rfl, rfl⟩

/-- Pairs in a row, cell by cell. -/
def pcF (c : Nat → Int) (u : Nat → Value) (t : Nat) : Value := if t % 2 = 0 then .int .i64 (c (t / 2)) else u (t / 2)
theorem pc_0 (c : Nat → Int) (u : Nat → Value) (k : Nat) : pcF c u (k * 2) = .int .i64 (c k) := by unfold pcF; rw [if_pos (by omega), Nat.mul_div_cancel _ (by decide)]
theorem pc_1 (c : Nat → Int) (u : Nat → Value) (k : Nat) : pcF c u (k * 2 + 1) = u k := by unfold pcF; rw [if_neg (by omega), show (k * 2 + 1) / 2 = k by omega]
def RowP (w : World) (g : Nat) (T : TypeId) (n k : Nat) (c : Nat → Int) (u : Nat → Value) : Prop := ∃ f, w.rowIs g T (n * 2) f ∧ ∀ t, t < k * 2 → f t = pcF c u t
theorem rowIs_below {w w' : World} {b n C : Nat} {t : TypeId} {f : Nat → Value} (h : w.rowIs b t n f) (hb : Below C w w') (hC : b < C) : w'.rowIs b t n f := by
  obtain ⟨c, hh, hs, hc⟩ := h
  exact ⟨c, (hb.block b hC).trans hh, hs, hc⟩
theorem rowIs_lt {w : World} {b n : Nat} {t : TypeId} {f : Nat → Value} (h : w.rowIs b t n f) : b < w.heap.size := by
  obtain ⟨c, hh, -⟩ := h
  exact (Array.getElem?_eq_some_iff.1 hh).1
theorem RowP.keep {w w' : World} {g n k : Nat} {T : TypeId} {c : Nat → Int} {u : Nat → Value} (h : RowP w g T n k c u) (hb : Below w.heap.size w w') : RowP w' g T n k c u := by
  obtain ⟨f, h1, h2⟩ := h
  exact ⟨f, rowIs_below h1 hb (rowIs_lt h1), h2⟩
theorem RowP.cells {w : World} {g n k : Nat} {T : TypeId} {c : Nat → Int} {u : Nat → Value} (h : RowP w g T n k c u) {j : Nat} (hj : j < n) : (∃ v, w.cell? ⟨g, j * 2, none⟩ = some v) ∧ (∃ v, w.cell? ⟨g, j * 2 + 1, none⟩ = some v) ∧ ∀ o, w.frozen? ⟨g, o, none⟩ = false := by
  obtain ⟨f, h1, -⟩ := h
  exact ⟨⟨_, h1.cell (by omega)⟩, ⟨_, h1.cell (by omega)⟩, fun o => h1.frozen o⟩
theorem RowP.set {w : World} {g n k : Nat} {T : TypeId} {c : Nat → Int} {u : Nat → Value} (h : RowP w g T n k c u) : RowP ((w.setCell ⟨g, k * 2, none⟩ (.int .i64 (c k))).setCell ⟨g, k * 2 + 1, none⟩ (u k)) g T n (k + 1) c u := by
  obtain ⟨f, h1, h2⟩ := h
  refine ⟨_, (h1.set (k * 2) (.int .i64 (c k))).set (k * 2 + 1) (u k), fun t ht => ?_⟩
  by_cases e1 : t = k * 2 + 1
  · subst e1; simp [pc_1]
  · by_cases e0 : t = k * 2
    · subst e0; simp [pc_0]
    · simp [e0, e1]
      exact h2 t (by omega)
theorem RowP.all {w : World} {g n : Nat} {T : TypeId} {c : Nat → Int} {u : Nat → Value} (h : RowP w g T n n c u) : AtP w (some ⟨g, 0, none⟩) n c u := by
  obtain ⟨f, h1, h2⟩ := h
  refine .inr ⟨g, 0, rfl, rowIs_lt h1, fun j hj => ?_⟩
  have a := h1.cell (show j * 2 < n * 2 by omega)
  have b := h1.cell (show j * 2 + 1 < n * 2 by omega)
  rw [h2 _ (by omega), pc_0] at a
  rw [h2 _ (by omega), pc_1] at b
  simp only [Nat.zero_add]
  exact ⟨a, b⟩
theorem RowP.made {w : World} {B n : Nat} {T : TypeId} {c : Nat → Int} {u : Nat → Value} {g : Nat} {cs : List Value} (h : w.ownsRow B T 2 (.slice (some ⟨g, 0, none⟩) n n) n cs) : RowP w g T n 0 c u := by
  obtain ⟨hl, ⟨e, -⟩ | ⟨g', cap, cur, e, hB, hh, hn, hm, hs, ht⟩⟩ := h
  · cases e
  · cases e
    exact ⟨fun i => (cur[i]?).getD (.bool false), ⟨cur, hh, hs, fun i hi => by show cur[i]? = some ((cur[i]?).getD (.bool false)); rw [Array.getElem?_eq_getElem (by omega)]; rfl⟩, fun t ht => by omega⟩


theorem infoB : (Try.prog.info? 147).map (fun i => (i.zero, i.size, i.bytes)) = some (some (.agg #[.int .i64 0, .bool false]), 2, 16) := by kernel_rfl
set_option maxHeartbeats 4000000 in
set_option maxRecDepth 100000 in
theorem refineB_any (cs : List Int) (u : Nat → Bool) (R : Nat) (a : Option Addr) (cap : Nat) (w : World) (hn : cs.length ≤ 4096) (hc : ∀ j, j < cs.length → (Lit.int .i64 (nth cs j)).wf = true) (h : At w a cs.length cs)
    (hf : ∀ (j : Nat), j < cs.length → ∀ W', Below w.heap.size w W' → Calls Try.prog 113 #[.int .i64 j, .pointer (some ⟨R, 0, none⟩)] W' fun e w'' => e = .returned (.bool (u j)) ∧ Below W'.heap.size W' w'') :
    Calls Try.prog 112 #[.slice a cs.length cap, .func (.func 113) #[] #[.pointer (some ⟨R, 0, none⟩)]] w fun e w' => ∃ v, e = .returned v ∧ Own w' w.heap.size v (tab cs.length (fun i => (numF (fun j => kyB (nth cs j) (u j)) i : Int))) ∧ Below w.heap.size w w' := by
  obtain ⟨i0, hi, hz0, hz1, hz2⟩ := info_parts infoB
  have H := Lib.hid h
  have HF := Lib.hid hf
  have HC := Lib.hid hc
  skip
  clear h hf hc
  obtain ⟨n, hnn⟩ : ∃ n, n = cs.length := ⟨_, rfl⟩
  rw [← hnn] at H HF HC hn ⊢
  clear hnn
  go_enter Try.func112, Try.ntmps112
  go_wp2_with (at_make; refine wpList_make_full _ rfl _ _ 145 rfl w.heap.size 147 i0 (.agg #[.int .i64 0, .bool false]) 2 Try.underlying145 hi hz0 hz1 _ _ _ _ n rfl rfl rfl rfl ?b2 ?b3 (Nat.le_refl _) ?_)
  case b2 => rw [hz2]; omega
  case b3 => unfold maxLen; omega
  intro w0 hown0 hgrow0
  have R0 := Lib.hid (RowP.made (c := nth cs) (u := fun j => .bool (u j)) hown0)
  have B0 := Lib.hid ((Below.refl w.heap.size w).grown hgrow0 (Nat.le_refl _) (fun k h => by cases h))
  clear hown0 hgrow0 hi hz0 hz1 hz2
  go_wp2
  go_loopw [13] (fun i wr => ∃ k : Nat, k ≤ n ∧ i = .int .i64 k ∧ Hid (RowP wr w.heap.size 147 n k (nth cs) (fun j => .bool (u j))) ∧ Hid (Below w.heap.size w wr)) (fun i _ => n - (intOf i).toNat)
  case atStart => exact ⟨0, Nat.zero_le _, rfl, R0, B0⟩
  case round =>
    clear R0 B0
    obtain ⟨k, hk, rfl, R, B⟩ := hrel
    by_cases hlt : k < n
    · obtain ⟨b, off, rfl, hb, hc⟩ := (H.out.keep B.out (Nat.le_refl _)).2.resolve_left (by omega)
      have hcell := hc k hlt
      clear hc
      go_wp2_with fail
      clear hcell
      refine (HF.out k hlt wr B.out).mono ?_
      rintro e w1 ⟨rfl, hb1⟩
      have R1 := Lib.hid (R.out.keep hb1)
      have B1 := Lib.hid (B.out.trans (hb1.mono B.out.size))
      clear hb1
      obtain ⟨⟨q0, d0⟩, ⟨q1, d1⟩, fz⟩ := R1.out.cells hlt
      have f0 := fz (k * 2)
      have f1 := fz (k * 2 + 1)
      clear fz
      go_wp2
      go_roundw
      case rel => exact ⟨k + 1, hlt, by go_num, Lib.hid R1.out.set, Lib.hid ((B1.out.setCell (p := ⟨w.heap.size, k * 2, none⟩) (Nat.le_refl _) _).setCell (p := ⟨w.heap.size, k * 2 + 1, none⟩) (Nat.le_refl _) _)⟩
      case measure => simp [intOf]; omega
    · obtain rfl : k = n := by omega
      have NB := Lib.hid (numB_any (nth cs) u k (some ⟨w.heap.size, 0, none⟩) k wr hn HC.out R.out.all)
      go_wp2_with fail
      refine NB.out.mono ?_
      rintro e w2 ⟨v, rfl, ho, hb⟩
      have O := Lib.hid (ho.mono B.out.size)
      have B2 := Lib.hid (B.out.trans (hb.mono B.out.size))
      clear ho hb
      go_wp2
      go_ret
      exact ⟨_, rfl, O.out, B2.out⟩


theorem infoI : (Try.prog.info? 151).map (fun i => (i.zero, i.size, i.bytes)) = some (some (.agg #[.int .i64 0, .int .i64 0]), 2, 16) := by kernel_rfl
set_option maxHeartbeats 4000000 in
set_option maxRecDepth 100000 in
theorem refineI_any (cs : List Int) (u : Nat → Int) (R R' : Nat) (a : Option Addr) (cap : Nat) (w : World) (hn : cs.length ≤ 4096) (hc : ∀ j, j < cs.length → (Lit.int .i64 (nth cs j)).wf = true) (hu : ∀ j, j < cs.length → (Lit.int .i64 (u j)).wf = true) (h : At w a cs.length cs)
    (hf : ∀ (j : Nat), j < cs.length → ∀ W', Below w.heap.size w W' → Calls Try.prog 116 #[.int .i64 j, .pointer (some ⟨R, 0, none⟩), .pointer (some ⟨R', 0, none⟩)] W' fun e w'' => e = .returned (.int .i64 (u j)) ∧ Below W'.heap.size W' w'') :
    Calls Try.prog 115 #[.slice a cs.length cap, .func (.func 116) #[] #[.pointer (some ⟨R, 0, none⟩), .pointer (some ⟨R', 0, none⟩)]] w fun e w' => ∃ v, e = .returned v ∧ Own w' w.heap.size v (tab cs.length (fun i => (numF (fun j => kyI (nth cs j) (u j)) i : Int))) ∧ Below w.heap.size w w' := by
  obtain ⟨i0, hi, hz0, hz1, hz2⟩ := info_parts infoI
  have H := Lib.hid h
  have HF := Lib.hid hf
  have HC := Lib.hid hc
  have HU := Lib.hid hu; clear hu
  clear h hf hc
  obtain ⟨n, hnn⟩ : ∃ n, n = cs.length := ⟨_, rfl⟩
  rw [← hnn] at H HF HC hn HU ⊢
  clear hnn
  go_enter Try.func115, Try.ntmps115
  go_wp2_with (at_make; refine wpList_make_full _ rfl _ _ 149 rfl w.heap.size 151 i0 (.agg #[.int .i64 0, .int .i64 0]) 2 Try.underlying149 hi hz0 hz1 _ _ _ _ n rfl rfl rfl rfl ?b2 ?b3 (Nat.le_refl _) ?_)
  case b2 => rw [hz2]; omega
  case b3 => unfold maxLen; omega
  intro w0 hown0 hgrow0
  have R0 := Lib.hid (RowP.made (c := nth cs) (u := fun j => .int .i64 (u j)) hown0)
  have B0 := Lib.hid ((Below.refl w.heap.size w).grown hgrow0 (Nat.le_refl _) (fun k h => by cases h))
  clear hown0 hgrow0 hi hz0 hz1 hz2
  go_wp2
  go_loopw [13] (fun i wr => ∃ k : Nat, k ≤ n ∧ i = .int .i64 k ∧ Hid (RowP wr w.heap.size 151 n k (nth cs) (fun j => .int .i64 (u j))) ∧ Hid (Below w.heap.size w wr)) (fun i _ => n - (intOf i).toNat)
  case atStart => exact ⟨0, Nat.zero_le _, rfl, R0, B0⟩
  case round =>
    clear R0 B0
    obtain ⟨k, hk, rfl, R, B⟩ := hrel
    by_cases hlt : k < n
    · obtain ⟨b, off, rfl, hb, hc⟩ := (H.out.keep B.out (Nat.le_refl _)).2.resolve_left (by omega)
      have hcell := hc k hlt
      clear hc
      go_wp2_with fail
      clear hcell
      refine (HF.out k hlt wr B.out).mono ?_
      rintro e w1 ⟨rfl, hb1⟩
      have R1 := Lib.hid (R.out.keep hb1)
      have B1 := Lib.hid (B.out.trans (hb1.mono B.out.size))
      clear hb1
      obtain ⟨⟨q0, d0⟩, ⟨q1, d1⟩, fz⟩ := R1.out.cells hlt
      have f0 := fz (k * 2)
      have f1 := fz (k * 2 + 1)
      clear fz
      go_wp2
      go_roundw
      case rel => exact ⟨k + 1, hlt, by go_num, Lib.hid R1.out.set, Lib.hid ((B1.out.setCell (p := ⟨w.heap.size, k * 2, none⟩) (Nat.le_refl _) _).setCell (p := ⟨w.heap.size, k * 2 + 1, none⟩) (Nat.le_refl _) _)⟩
      case measure => simp [intOf]; omega
    · obtain rfl : k = n := by omega
      have NB := Lib.hid (numI_any (nth cs) u k (some ⟨w.heap.size, 0, none⟩) k wr hn HC.out HU.out R.out.all)
      go_wp2_with fail
      refine NB.out.mono ?_
      rintro e w2 ⟨v, rfl, ho, hb⟩
      have O := Lib.hid (ho.mono B.out.size)
      have B2 := Lib.hid (B.out.trans (hb.mono B.out.size))
      clear ho hb
      go_wp2
      go_ret
      exact ⟨_, rfl, O.out, B2.out⟩

end Go.Proofs.Ythopleeehbkjaaa
