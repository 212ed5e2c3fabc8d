/- 3 texts in one: PmA, MoD, Aw. -/
import Derived.Test.YtomldealpmohhaaIsMo
import Derived.Test.YtomldealpmohhaaPrt2
import Derived.Test.YtomldealpmohhaaJn02
import Derived.Test.YtomldealpmohhaaRm
import Derived.Test.YtomldealpmohhaaIsFr
/- The arranged model of the program, with what serves it. Conditions: those in the theorems. -/
namespace Go.Proofs.Ytomldealpmohhaa
open Go.RowKit

/-- The values of the arranged model. -/
def mvF (ys ls : List Int) (t : Nat) : Int := sqTo ls (nth ys t) ls.length
def mvV (ys ls : List Int) : List Int := tab ys.length (mvF ys ls)
theorem mvV_len (ys ls : List Int) : (mvV ys ls).length = ys.length := tab_len _ _

/-- The cells of a result that is a model, before it is stored. -/
def BzM (w : World) (b : Nat) : Prop := Bm w b 0 none 0 0 none 0 0 ∧ w.frozen? ⟨b, 0, none⟩ = false ∧ w.frozen? ⟨b, 1, none⟩ = false ∧ w.frozen? ⟨b, 2, none⟩ = false
theorem BzM.below {w w' : World} {C b : Nat} (h : BzM w b) (hb : Below C w w') (hC : b < C) : BzM w' b :=
  ⟨h.1.below hb hC, (hb.frozen (p := ⟨b, 0, none⟩) hC).trans h.2.1, (hb.frozen (p := ⟨b, 1, none⟩) hC).trans h.2.2.1, (hb.frozen (p := ⟨b, 2, none⟩) hC).trans h.2.2.2⟩
theorem BzM.keep {w w' : World} {b : Nat} (h : BzM w b) (hb : Below w.heap.size w w') : BzM w' b := h.below hb h.1.1
theorem BzM.new (w : World) : BzM (w.alloc (.cells #[.int .i64 0, .slice none 0 0, .slice none 0 0] 34)) w.heap.size := ⟨Bm.new _ _ _ _ _ _ _ _ _, by simp, by simp, by simp⟩
theorem BzM.all {w : World} {b : Nat} (h : BzM w b) : b < w.heap.size ∧ w.cell? ⟨b, 0, none⟩ = some (.int .i64 0) ∧ w.cell? ⟨b, 1, none⟩ = some (.slice none 0 0) ∧ w.cell? ⟨b, 2, none⟩ = some (.slice none 0 0) ∧ w.frozen? ⟨b, 0, none⟩ = false ∧ w.frozen? ⟨b, 1, none⟩ = false ∧ w.frozen? ⟨b, 2, none⟩ = false := ⟨h.1.1, h.1.2.1, h.1.2.2.1, h.1.2.2.2, h.2.1, h.2.2.1, h.2.2.2⟩
theorem boxM2 (w : World) (n : Int) (a : Option Addr) (l c : Nat) (b : Option Addr) (m d : Nat) : ∃ W : World, W = (w.alloc (.cells #[.int .i64 n, .slice a l c, .slice b m d] 34)).alloc (.cells #[.int .i64 0, .slice none 0 0, .slice none 0 0] 34) ∧
    Hid (Below w.heap.size w W) ∧ Hid (Bm W w.heap.size n a l c b m d) ∧ Hid (BzM W (w.heap.size + 1)) ∧ W.heap.size = w.heap.size + 1 + 1 := by
  refine ⟨_, rfl, Lib.hid (((Below.refl w.heap.size w).alloc (Nat.le_refl _) _).alloc (by simp) _), Lib.hid ((Bm.new w n a l c b m d _).keep (alloc_keep _ _).1), ?_, by simp⟩
  have := BzM.new (w.alloc (.cells #[.int .i64 n, .slice a l c, .slice b m d] 34))
  exact Lib.hid (by simpa using this)
theorem OwnM.out3 {w : World} {B R o o' o'' : Nat} {v z z' z'' : Value} {n : Int} {xs ys : List Int} (h : OwnM w B v n xs ys) (hR : R < B) : OwnM (((w.setCell ⟨R, o, none⟩ z).setCell ⟨R, o', none⟩ z').setCell ⟨R, o'', none⟩ z'') B v n xs ys :=
  ⟨h.1, (((h.2.1.inn.setOut (.inl hR)).setOut (.inl hR)).setOut (.inl hR)).1, (((h.2.2.1.inn.setOut (.inl hR)).setOut (.inl hR)).setOut (.inl hR)).1, h.2.2.2⟩

set_option maxHeartbeats 2000000 in
set_option maxRecDepth 100000 in
theorem marr_any (n : Int) (xs ys ls : List Int) (a : Option Addr) (cap : Nat) (b : Option Addr) (d : Nat) (al : Option Addr) (ll cl : Nat) (w : World) (hl : xs.length ≤ 30) (hy : ys.length ≤ 30) (hll : ll ≤ 30) (hok : LsOk xs.length ls) (h : At w a xs.length xs) (h' : At w b ys.length ys) (h'' : At w al ll ls) :
    Calls Try.prog 63 #[.agg #[.int .i64 n, .slice a xs.length cap, .slice b ys.length d], .slice al ll cl] w fun e w' => ∃ v, e = .returned v ∧ OwnM w' w.heap.size v (arV xs ls).length (arV xs ls) (mvV ys ls) ∧ Below w.heap.size w w' := by
  obtain ⟨W, hW, HB, X, Z, hWs⟩ := boxM2 w n a xs.length cap b ys.length d
  have H := Lib.hid (h.keep HB.out (Nat.le_refl _))
  have H' := Lib.hid (h'.keep HB.out (Nat.le_refl _))
  have H2 := Lib.hid (h''.keep HB.out (Nat.le_refl _))
  have hmk := fun (W : World) => run_make_row' (P := Try.prog) 22 2 (.int .i64 0) 8 Try.underlying22 info64 rfl .i64 .i64 ys.length (by omega) (by omega) W
  have hr0 := World.rowIs_made W (.int .i64 0) ys.length 2
  rw [hWs] at hr0
  have HR0 := Lib.hid hr0
  have HBV := Lib.hid ((Below.refl (w.heap.size + 1 + 1) W).alloc (by omega) (.cells (madeCells #[.int .i64 0] ys.length) 2))
  have hz0 : w.heap.size + 1 + 1 ≤ W.heap.size := by omega
  have hz1 : W.heap.size ≤ w.heap.size + 1 + 1 := by omega
  obtain rfl := h''.1
  have OK := Lib.hid hok
  have HW := Lib.hid hW
  obtain ⟨lt, x0, x1, x2⟩ := X.out
  rw [HW.out] at x2
  clear h h' h'' hr0 hW hWs hok x0 x1
  go_enter Try.func63, Try.ntmps63
  go_wp2
  clear hmk x2
  go_loopw [15] (fun i wr => ∃ k : Nat, k ≤ ys.length ∧ i = .int .i64 k ∧ wr.rowIs (w.heap.size + 1 + 1) 2 ys.length (fun t => .int .i64 (upS (mvF ys ls) k t)) ∧ Hid (Below (w.heap.size + 1 + 1) W wr)) (fun i _ => ys.length - (intOf i).toNat)
  case atStart =>
    rw [← HW.out]
    exact ⟨0, Nat.zero_le _, rfl, HR0.out.congr fun t _ => by rw [upS_start], HBV⟩
  case round =>
    obtain ⟨k, hk, rfl, hrow, B⟩ := hrel
    have hsz := B.out.size
    by_cases hlt : k < ys.length
    · have HL := Lib.hid (H2.out.keep B.out (by omega))
      obtain ⟨b', off', rfl, hb', hc'⟩ := H'.out.2.resolve_left (by omega)
      have hcell' : wr.cell? ⟨b', off' + k, none⟩ = some (.int .i64 (nth ys k)) := (B.out.cell (p := ⟨b', off' + k, none⟩) (Nat.lt_of_lt_of_le hb' hz1)).trans (hc' k hlt)
      have hcg : wr.cell? ⟨w.heap.size + 1 + 1, k, none⟩ = some (.int .i64 (upS (mvF ys ls) k k)) := hrow.cell hlt
      have hfg : wr.frozen? ⟨w.heap.size + 1 + 1, k, none⟩ = false := hrow.frozen k
      have EF := Lib.hid (show sqTo ls (nth ys k) ls.length = mvF ys ls k from rfl)
      have HROW := Lib.hid hrow
      clear hc' hrow
      go_wp2_with (go_at_call 100; refine (placesIn_any ls _ xs.length _ _ _ _ (by omega) (by omega) OK.out HL.out).mono ?_; rw [EF.out]; rintro e w' ⟨rfl, rfl⟩)
      go_roundw
      case rel => exact ⟨k + 1, hlt, by go_num, row_setI HROW.out (fun t => upS_set rfl t), Lib.hid (B.out.setCell (p := ⟨w.heap.size + 1 + 1, k, none⟩) (Nat.le_refl _) _)⟩
      case measure => simp [intOf]; omega
    · obtain rfl : k = ys.length := by omega
      have O5 := Lib.hid (own_of_row (B := w.heap.size + 1 + 1) (Nat.le_refl _) (by omega) (hrow.congr fun t ht => by rw [upS_all ht]))
      have Z1 := Lib.hid (Z.out.below B.out (by omega))
      have X1 := Lib.hid (X.out.below B.out (by omega))
      have B2 := Lib.hid (HB.out.trans (B.out.mono (by omega)))
      have H5 := Lib.hid (H.out.keep B.out (by omega))
      have L5 := Lib.hid (H2.out.keep B.out (by omega))
      obtain ⟨lt1, x0, x1, x2⟩ := X1.out
      clear hrow
      go_wp2_with fail
      clear x0 x1 x2
      refine (arranged_any n xs ls _ _ _ _ _ _ _ hl (by omega) OK.out H5.out L5.out).mono ?_
      rintro e w2 ⟨v2, rfl, ho, hb⟩
      obtain ⟨a2, c2, rfl⟩ := ho.form
      obtain ⟨lt2, z0, z1, z2, z3, z4, z5⟩ := (Z1.out.keep hb).all
      have B3 := Lib.hid (B2.out.trans (hb.mono B2.out.size))
      have O6 := Lib.hid (O5.out.inn.below hb (Nat.le_refl _))
      have O7 := Lib.hid ho
      have hlr : w.heap.size + 1 + 1 ≤ wr.heap.size := by omega
      clear hb O5 ho
      go_wp2
      refine bodyPost_ret (v := .agg #[.int .i64 (arV xs ls).length, .slice a2 (arV xs ls).length c2, .slice (some ⟨w.heap.size + 1 + 1, 0, none⟩) ys.length ys.length]) (by simp [results, Try.results63, go_sem, z0, z1, z2]) rfl ⟨_, rfl, ?_, ((B3.out.setCell (by show _ ≤ _; simp) _).setCell (by show _ ≤ _; simp) _).setCell (by show _ ≤ _; simp) _⟩
      exact ((OwnM.two' (n := (arV xs ls).length) O7.out.2 (show OwnIn _ (w.heap.size + 1 + 1) wr.heap.size _ (mvV ys ls) from O6.out) hlr).out3 (by omega)).mono (by omega)

end Go.Proofs.Ytomldealpmohhaa

/- A model's parts at their places. Conditions: those in the theorems. -/
namespace Go.Proofs.Ytomldealpmohhaa
open Go.RowKit

/-- A model's parts at their places. -/
def Mo (w : World) (n : Int) (a : Option Addr) (a' : Option Addr) (xs ys : List Int) : Prop := n = xs.length ∧ xs.length ≤ 8 ∧ (mksTo xs.length xs xs.length = true ∧ mksTo xs.length ys ys.length = true) ∧ ys.length = 6 ∧ At w a xs.length xs ∧ At w a' ys.length ys
theorem Mo.keep {w w' : World} {n : Int} {a a' : Option Addr} {xs ys : List Int} (h : Mo w n a a' xs ys) (hb : Below w.heap.size w w') : Mo w' n a a' xs ys := ⟨h.1, h.2.1, h.2.2.1, h.2.2.2.1, h.2.2.2.2.1.keep hb (Nat.le_refl _), h.2.2.2.2.2.keep hb (Nat.le_refl _)⟩
theorem Mo.drw {w : World} {n : Int} {a a' : Option Addr} {xs ys : List Int} (h : Mo w n a a' xs ys) : Mo w.drew n a a' xs ys := h
theorem Mo.of {w : World} {n : Int} {xs ys : List Int} {a a' : Option Addr} (h : isM n xs ys = true) (h1 : At w a xs.length xs) (h2 : At w a' ys.length ys) : Mo w n a a' xs ys := by
  obtain ⟨-, e1, e2, e3, e4, e5⟩ := isM_ok h
  exact ⟨e1, e2, ⟨e3, e5⟩, e4, h1, h2⟩

theorem isM_rel {n : Int} {xs ys : List Int} (h : isM n xs ys = true) : n = xs.length ∧ xs.length ≤ 8 ∧ Rel xs.length (nth xs) ∧ ∀ i, InMk xs.length (nth ys i) := by
  obtain ⟨h1, h2, h3, h4, h5, h6⟩ := isM_ok h
  refine ⟨h2, h3, (frB_ok h1).2.2.2, fun i => ?_⟩
  by_cases hi : i < ys.length
  · exact (mksTo_iff (by omega) ys ys.length).1 h6 i hi
  · rw [nth_high (by omega)]; exact InMk.zero _

end Go.Proofs.Ytomldealpmohhaa

/- The mask of all worlds of a frame: the program's contract. Conditions: those in the theorems. -/
namespace Go.Proofs.Ytomldealpmohhaa
open Go.RowKit

set_option maxHeartbeats 400000 in
theorem allWorlds_any (n : Int) (a : Option Addr) (len cap : Nat) (w : World) (hn : 0 ≤ n) (hn2 : n ≤ 30) :
    Calls Try.prog 97 #[.agg #[.int .i64 n, .slice a len cap]] w fun e w' => e = .returned (.int .i64 (full n)) ∧ Below w.heap.size w w' := by
  have HB := Lib.hid (boxF (w := w) n a len cap)
  go_enter Try.func97, Try.ntmps97
  go_wp2
  go_ret
  exact ⟨rfl, HB.out⟩

end Go.Proofs.Ytomldealpmohhaa
