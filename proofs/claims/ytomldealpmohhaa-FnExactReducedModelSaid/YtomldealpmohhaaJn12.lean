/- 5 texts in one: PmA, MoD, Atm, Am2, Wl. -/
import Derived.Test.YtomldealpmohhaaJn11
import Derived.Test.YtomldealpmohhaaJn04
import Derived.Test.YtomldealpmohhaaJn07
import Derived.Test.YtomldealpmohhaaJn09
/- The arranged model of the program, with what serves it. Conditions: those in the theorems. -/
namespace Go.Proofs.Ytomldealpmohhaa
open Go.RowKit

/-- The values of the arranged model. -/
def mvF (ys ls : List Int) (t : Nat) : Int := sqTo ls (nth ys t) ls.length
def mvV (ys ls : List Int) : List Int := tab ys.length (mvF ys ls)
theorem mvV_len (ys ls : List Int) : (mvV ys ls).length = ys.length := tab_len _ _

/-- The cells of a result that is a model, before it is stored. -/
def BzM (w : World) (b : Nat) : Prop := Bm w b 0 none 0 0 none 0 0 ∧ w.frozen? ⟨b, 0, none⟩ = false ∧ w.frozen? ⟨b, 1, none⟩ = false ∧ w.frozen? ⟨b, 2, none⟩ = false
theorem BzM.below {w w' : World} {C b : Nat} (h : BzM w b) (hb : Below C w w') (hC : b < C) : BzM w' b :=
  ⟨h.1.below hb hC, (hb.frozen (p := ⟨b, 0, none⟩) hC).trans h.2.1, (hb.frozen (p := ⟨b, 1, none⟩) hC).trans h.2.2.1, (hb.frozen (p := ⟨b, 2, none⟩) hC).trans h.2.2.2⟩
theorem BzM.keep {w w' : World} {b : Nat} (h : BzM w b) (hb : Below w.heap.size w w') : BzM w' b := h.below hb h.1.1
theorem BzM.new (w : World) : BzM (w.alloc (.cells #[.int .i64 0, .slice none 0 0, .slice none 0 0] 34)) w.heap.size := ⟨Bm.new _ _ _ _ _ _ _ _ _, by simp, by simp, by simp⟩
theorem BzM.all {w : World} {b : Nat} (h : BzM w b) : b < w.heap.size ∧ w.cell? ⟨b, 0, none⟩ = some (.int .i64 0) ∧ w.cell? ⟨b, 1, none⟩ = some (.slice none 0 0) ∧ w.cell? ⟨b, 2, none⟩ = some (.slice none 0 0) ∧ w.frozen? ⟨b, 0, none⟩ = false ∧ w.frozen? ⟨b, 1, none⟩ = false ∧ w.frozen? ⟨b, 2, none⟩ = false := ⟨h.1.1, h.1.2.1, h.1.2.2.1, h.1.2.2.2, h.2.1, h.2.2.1, h.2.2.2⟩
theorem boxM2 (w : World) (n : Int) (a : Option Addr) (l c : Nat) (b : Option Addr) (m d : Nat) : ∃ W : World, W = (w.alloc (.cells #[.int .i64 n, .slice a l c, .slice b m d] 34)).alloc (.cells #[.int .i64 0, .slice none 0 0, .slice none 0 0] 34) ∧
    Hid (Below w.heap.size w W) ∧ Hid (Bm W w.heap.size n a l c b m d) ∧ Hid (BzM W (w.heap.size + 1)) ∧ W.heap.size = w.heap.size + 1 + 1 := by
  refine ⟨_, rfl, Lib.hid (((Below.refl w.heap.size w).alloc (Nat.le_refl _) _).alloc (by simp) _), Lib.hid ((Bm.new w n a l c b m d _).keep (alloc_keep _ _).1), ?_, by simp⟩
  have := BzM.new (w.alloc (.cells #[.int .i64 n, .slice a l c, .slice b m d] 34))
  exact Lib.hid (by simpa using this)
theorem OwnM.out3 {w : World} {B R o o' o'' : Nat} {v z z' z'' : Value} {n : Int} {xs ys : List Int} (h : OwnM w B v n xs ys) (hR : R < B) : OwnM (((w.setCell ⟨R, o, none⟩ z).setCell ⟨R, o', none⟩ z').setCell ⟨R, o'', none⟩ z'') B v n xs ys :=
  ⟨h.1, (((h.2.1.inn.setOut (.inl hR)).setOut (.inl hR)).setOut (.inl hR)).1, (((h.2.2.1.inn.setOut (.inl hR)).setOut (.inl hR)).setOut (.inl hR)).1, h.2.2.2⟩

set_option maxHeartbeats 2000000 in
set_option maxRecDepth 100000 in
theorem marr_any (n : Int) (xs ys ls : List Int) (a : Option Addr) (cap : Nat) (b : Option Addr) (d : Nat) (al : Option Addr) (ll cl : Nat) (w : World) (hl : xs.length ≤ 30) (hy : ys.length ≤ 30) (hll : ll ≤ 30) (hok : LsOk xs.length ls) (h : At w a xs.length xs) (h' : At w b ys.length ys) (h'' : At w al ll ls) :
    Calls Try.prog 63 #[.agg #[.int .i64 n, .slice a xs.length cap, .slice b ys.length d], .slice al ll cl] w fun e w' => ∃ v, e = .returned v ∧ OwnM w' w.heap.size v (arV xs ls).length (arV xs ls) (mvV ys ls) ∧ Below w.heap.size w w' := by
  obtain ⟨W, hW, HB, X, Z, hWs⟩ := boxM2 w n a xs.length cap b ys.length d
  have H := Lib.hid (h.keep HB.out (Nat.le_refl _))
  have H' := Lib.hid (h'.keep HB.out (Nat.le_refl _))
  have H2 := Lib.hid (h''.keep HB.out (Nat.le_refl _))
  have hmk := fun (W : World) => run_make_row' (P := Try.prog) 22 2 (.int .i64 0) 8 Try.underlying22 info64 rfl .i64 .i64 ys.length (by omega) (by omega) W
  have hr0 := World.rowIs_made W (.int .i64 0) ys.length 2
  rw [hWs] at hr0
  have HR0 := Lib.hid hr0
  have HBV := Lib.hid ((Below.refl (w.heap.size + 1 + 1) W).alloc (by omega) (.cells (madeCells #[.int .i64 0] ys.length) 2))
  have hz0 : w.heap.size + 1 + 1 ≤ W.heap.size := by omega
  have hz1 : W.heap.size ≤ w.heap.size + 1 + 1 := by omega
  obtain rfl := h''.1
  have OK := Lib.hid hok
  have HW := Lib.hid hW
  obtain ⟨lt, x0, x1, x2⟩ := X.out
  rw [HW.out] at x2
  clear h h' h'' hr0 hW hWs hok x0 x1
  go_enter Try.func63, Try.ntmps63
  go_wp2
  clear hmk x2
  go_loopw [15] (fun i wr => ∃ k : Nat, k ≤ ys.length ∧ i = .int .i64 k ∧ wr.rowIs (w.heap.size + 1 + 1) 2 ys.length (fun t => .int .i64 (upS (mvF ys ls) k t)) ∧ Hid (Below (w.heap.size + 1 + 1) W wr)) (fun i _ => ys.length - (intOf i).toNat)
  case atStart =>
    rw [← HW.out]
    exact ⟨0, Nat.zero_le _, rfl, HR0.out.congr fun t _ => by rw [upS_start], HBV⟩
  case round =>
    obtain ⟨k, hk, rfl, hrow, B⟩ := hrel
    have hsz := B.out.size
    by_cases hlt : k < ys.length
    · have HL := Lib.hid (H2.out.keep B.out (by omega))
      obtain ⟨b', off', rfl, hb', hc'⟩ := H'.out.2.resolve_left (by omega)
      have hcell' : wr.cell? ⟨b', off' + k, none⟩ = some (.int .i64 (nth ys k)) := (B.out.cell (p := ⟨b', off' + k, none⟩) (Nat.lt_of_lt_of_le hb' hz1)).trans (hc' k hlt)
      have hcg : wr.cell? ⟨w.heap.size + 1 + 1, k, none⟩ = some (.int .i64 (upS (mvF ys ls) k k)) := hrow.cell hlt
      have hfg : wr.frozen? ⟨w.heap.size + 1 + 1, k, none⟩ = false := hrow.frozen k
      have EF := Lib.hid (show sqTo ls (nth ys k) ls.length = mvF ys ls k from rfl)
      have HROW := Lib.hid hrow
      clear hc' hrow
      go_wp2_with (go_at_call 100; refine (placesIn_any ls _ xs.length _ _ _ _ (by omega) (by omega) OK.out HL.out).mono ?_; rw [EF.out]; rintro e w' ⟨rfl, rfl⟩)
      go_roundw
      case rel => exact ⟨k + 1, hlt, by go_num, row_setI HROW.out (fun t => upS_set rfl t), Lib.hid (B.out.setCell (p := ⟨w.heap.size + 1 + 1, k, none⟩) (Nat.le_refl _) _)⟩
      case measure => simp [intOf]; omega
    · obtain rfl : k = ys.length := by omega
      have O5 := Lib.hid (own_of_row (B := w.heap.size + 1 + 1) (Nat.le_refl _) (by omega) (hrow.congr fun t ht => by rw [upS_all ht]))
      have Z1 := Lib.hid (Z.out.below B.out (by omega))
      have X1 := Lib.hid (X.out.below B.out (by omega))
      have B2 := Lib.hid (HB.out.trans (B.out.mono (by omega)))
      have H5 := Lib.hid (H.out.keep B.out (by omega))
      have L5 := Lib.hid (H2.out.keep B.out (by omega))
      obtain ⟨lt1, x0, x1, x2⟩ := X1.out
      clear hrow
      go_wp2_with fail
      clear x0 x1 x2
      refine (arranged_any n xs ls _ _ _ _ _ _ _ hl (by omega) OK.out H5.out L5.out).mono ?_
      rintro e w2 ⟨v2, rfl, ho, hb⟩
      obtain ⟨a2, c2, rfl⟩ := ho.form
      obtain ⟨lt2, z0, z1, z2, z3, z4, z5⟩ := (Z1.out.keep hb).all
      have B3 := Lib.hid (B2.out.trans (hb.mono B2.out.size))
      have O6 := Lib.hid (O5.out.inn.below hb (Nat.le_refl _))
      have O7 := Lib.hid ho
      have hlr : w.heap.size + 1 + 1 ≤ wr.heap.size := by omega
      clear hb O5 ho
      go_wp2
      refine bodyPost_ret (v := .agg #[.int .i64 (arV xs ls).length, .slice a2 (arV xs ls).length c2, .slice (some ⟨w.heap.size + 1 + 1, 0, none⟩) ys.length ys.length]) (by simp [results, Try.results63, go_sem, z0, z1, z2]) rfl ⟨_, rfl, ?_, ((B3.out.setCell (by show _ ≤ _; simp) _).setCell (by show _ ≤ _; simp) _).setCell (by show _ ≤ _; simp) _⟩
      exact ((OwnM.two' (n := (arV xs ls).length) O7.out.2 (show OwnIn _ (w.heap.size + 1 + 1) wr.heap.size _ (mvV ys ls) from O6.out) hlr).out3 (by omega)).mono (by omega)

end Go.Proofs.Ytomldealpmohhaa

/- A model's parts at their places. Conditions: those in the theorems. -/
namespace Go.Proofs.Ytomldealpmohhaa
open Go.RowKit

/-- A model's parts at their places. -/
def Mo (w : World) (n : Int) (a : Option Addr) (a' : Option Addr) (xs ys : List Int) : Prop := n = xs.length ∧ xs.length ≤ 8 ∧ (mksTo xs.length xs xs.length = true ∧ mksTo xs.length ys ys.length = true) ∧ ys.length = 6 ∧ At w a xs.length xs ∧ At w a' ys.length ys
theorem Mo.keep {w w' : World} {n : Int} {a a' : Option Addr} {xs ys : List Int} (h : Mo w n a a' xs ys) (hb : Below w.heap.size w w') : Mo w' n a a' xs ys := ⟨h.1, h.2.1, h.2.2.1, h.2.2.2.1, h.2.2.2.2.1.keep hb (Nat.le_refl _), h.2.2.2.2.2.keep hb (Nat.le_refl _)⟩
theorem Mo.drw {w : World} {n : Int} {a a' : Option Addr} {xs ys : List Int} (h : Mo w n a a' xs ys) : Mo w.drew n a a' xs ys := h
theorem Mo.of {w : World} {n : Int} {xs ys : List Int} {a a' : Option Addr} (h : isM n xs ys = true) (h1 : At w a xs.length xs) (h2 : At w a' ys.length ys) : Mo w n a a' xs ys := by
  obtain ⟨-, e1, e2, e3, e4, e5⟩ := isM_ok h
  exact ⟨e1, e2, ⟨e3, e5⟩, e4, h1, h2⟩

theorem isM_rel {n : Int} {xs ys : List Int} (h : isM n xs ys = true) : n = xs.length ∧ xs.length ≤ 8 ∧ Rel xs.length (nth xs) ∧ ∀ i, InMk xs.length (nth ys i) := by
  obtain ⟨h1, h2, h3, h4, h5, h6⟩ := isM_ok h
  refine ⟨h2, h3, (frB_ok h1).2.2.2, fun i => ?_⟩
  by_cases hi : i < ys.length
  · exact (mksTo_iff (by omega) ys ys.length).1 h6 i hi
  · rw [nth_high (by omega)]; exact InMk.zero _

end Go.Proofs.Ytomldealpmohhaa

/- Two models: their boxes; the same variables at two worlds, asked by the model. Conditions: those in the theorems. -/
namespace Go.Proofs.Ytomldealpmohhaa
open Go.RowKit

theorem boxTw (w : World) (n0 : Int) (a0 : Option Addr) (l0 c0 : Nat) (b0 : Option Addr) (m0 d0 : Nat) (n1 : Int) (a1 : Option Addr) (l1 c1 : Nat) (b1 : Option Addr) (m1 d1 : Nat) : ∃ W : World, W = (w.alloc (.cells #[.int .i64 n0, .slice a0 l0 c0, .slice b0 m0 d0] 34)).alloc (.cells #[.int .i64 n1, .slice a1 l1 c1, .slice b1 m1 d1] 34) ∧
    Hid (Below w.heap.size w W) ∧ Hid (Bm W w.heap.size n0 a0 l0 c0 b0 m0 d0) ∧ Hid (Bm W (w.heap.size + 1) n1 a1 l1 c1 b1 m1 d1) ∧ W.heap.size = w.heap.size + 1 + 1 := by
  refine ⟨_, rfl, Lib.hid (((Below.refl w.heap.size w).alloc (Nat.le_refl _) _).alloc (by simp) _), Lib.hid ((Bm.new w n0 a0 l0 c0 b0 m0 d0 _).keep (alloc_keep _ _).1), ?_, by simp⟩
  have := Bm.new (w.alloc (.cells #[.int .i64 n0, .slice a0 l0 c0, .slice b0 m0 d0] 34)) n1 a1 l1 c1 b1 m1 d1 34
  exact Lib.hid (by simpa using this)

def atB (ys zs : List Int) (x y : Int) : Nat → Bool
  | 0 => true
  | v + 1 => atB ys zs x y v && (bitB (nth ys v) x == bitB (nth zs v) y)
theorem atB_false {ys zs : List Int} {x y : Int} {k l : Nat} (hk : k ≤ l) (h : atB ys zs x y k = false) : atB ys zs x y l = false := by
  induction l with
  | zero => simp at hk; subst hk; exact h
  | succ l ih =>
    by_cases e : k = l + 1
    · subst e; exact h
    · rw [atB, ih (by omega)]; rfl

set_option maxHeartbeats 2000000 in
theorem l07Atoms_any (n0 n1 : Int) (xs ys ps zs : List Int) (x y : Int) (a0 : Option Addr) (c0 : Nat) (b0 : Option Addr) (d0 : Nat) (a1 : Option Addr) (c1 : Nat) (b1 : Option Addr) (d1 : Nat) (w : World) (hx0 : 0 ≤ x) (hx1 : x ≤ 30) (hy0 : 0 ≤ y) (hy1 : y ≤ 30) (h0 : Mo w n0 a0 b0 xs ys) (h1 : Mo w n1 a1 b1 ps zs) :
    Calls Try.prog 86 #[.agg #[.int .i64 n0, .slice a0 xs.length c0, .slice b0 ys.length d0], .agg #[.int .i64 n1, .slice a1 ps.length c1, .slice b1 zs.length d1], .int .i64 x, .int .i64 y] w fun e w' => e = .returned (.bool (atB ys zs x y ys.length)) ∧ Below w.heap.size w w' := by
  obtain ⟨W, hW, HB, X0, X1, hWs⟩ := boxTw w n0 a0 xs.length c0 b0 ys.length d0 n1 a1 ps.length c1 b1 zs.length d1
  have M0 := Lib.hid (h0.keep HB.out)
  have M1 := Lib.hid (h1.keep HB.out)
  have HW := Lib.hid hW
  clear h0 h1 hW hWs
  go_enter Try.func86, Try.ntmps86
  go_wp2
  rw [← HW.out]
  go_loopw [9] (fun i wr => ∃ k q : Nat, k ≤ ys.length ∧ i = .int .i64 k ∧ atB ys zs x y k = true ∧ wr = W.drewN q) (fun i _ => ys.length - (intOf i).toNat)
  case atStart => exact ⟨0, 0, Nat.zero_le _, rfl, rfl, rfl⟩
  case round =>
    obtain ⟨k, q, hk, rfl, hm, rfl⟩ := hrel
    have HM := Lib.hid hm
    clear hm
    obtain ⟨-, -, -, y6, -, hy⟩ := M0.out
    obtain ⟨-, -, -, z6, -, hz⟩ := M1.out
    have hyl : ys.length ≤ 6 := by omega
    have Y6 := Lib.hid y6
    have Z6 := Lib.hid z6
    clear y6 z6
    obtain ⟨lt0, x0, x1, x2⟩ := X0.out
    obtain ⟨lt1, y0, y1, y2⟩ := X1.out
    by_cases hlt : k < ys.length
    · obtain ⟨b, off, rfl, hb, hc⟩ := hy.2.resolve_left (by omega)
      have hcell := hc k hlt
      have hlt2 : k < zs.length := by have := Y6.out; have := Z6.out; omega
      obtain ⟨b', off', rfl, hb', hc'⟩ := hz.2.resolve_left (by omega)
      have hcell2 := hc' k hlt2
      clear hc hc'
      cases hA : bitB (nth ys k) x
      all_goals
        cases hB : bitB (nth zs k) y
        all_goals
          have HA := Lib.hid hA
          have HC := Lib.hid hB
          go_wp2
          go_quiet ((first | (go_at_call_of 52 x; exact q_same (l01Bit_any _ x _ hx0 hx1) rfl) | (go_at_call_of 52 y; exact q_same (l01Bit_any _ y _ hy0 hy1) rfl)))
          go_wp2
          first
          | (go_ret
             exact ⟨ret_bool (atB_false (k := k + 1) hlt (by rw [atB, HM.out, HA.out, HC.out]; rfl)).symm, below_drewN (below_drewN HB.out _) _⟩)
          | (go_roundw
             case rel => exact ⟨k + 1, _, hlt, by go_num, by rw [atB, HM.out, HA.out, HC.out]; rfl, rfl⟩
             case measure => simp [intOf]; omega)
    · obtain rfl : k = ys.length := by omega
      go_wp2
      go_ret
      exact ⟨ret_bool HM.out.symm, below_drewN HB.out _⟩

end Go.Proofs.Ytomldealpmohhaa

/- What asks whether two models are ones. Conditions: those in the theorems. -/
namespace Go.Proofs.Ytomldealpmohhaa
open Go.RowKit

set_option maxHeartbeats 1000000 in
theorem areModels2_any (n0 n1 : Int) (xs0 ys0 xs1 ys1 : List Int) (a0 : Option Addr) (l0 c0 : Nat) (b0 : Option Addr) (m0 d0 : Nat) (a1 : Option Addr) (l1 c1 : Nat) (b1 : Option Addr) (m1 d1 : Nat) (b : Nat) (w : World) (hl0 : l0 ≤ 1048576) (hm0 : m0 ≤ 1048576) (hl1 : l1 ≤ 1048576) (hm1 : m1 ≤ 1048576) (h0 : At w a0 l0 xs0) (h0' : At w b0 m0 ys0) (h1 : At w a1 l1 xs1) (h1' : At w b1 m1 ys1) (hb0 : b < w.heap.size)
    (e0 : w.cell? ⟨b, 0, none⟩ = some (.int .i64 n0)) (e1 : w.cell? ⟨b, 1, none⟩ = some (.slice a0 l0 c0)) (e2 : w.cell? ⟨b, 2, none⟩ = some (.slice b0 m0 d0)) (e3 : w.cell? ⟨b, 3, none⟩ = some (.int .i64 n1)) (e4 : w.cell? ⟨b, 4, none⟩ = some (.slice a1 l1 c1)) (e5 : w.cell? ⟨b, 5, none⟩ = some (.slice b1 m1 d1)) :
    Calls Try.prog 87 #[.slice (some ⟨b, 0, none⟩) 2 2] w fun e w' => e = .returned (.bool (isM n0 xs0 ys0 && isM n1 xs1 ys1)) ∧ Below w.heap.size w w' := by
  obtain ⟨W, hW, hb, -, hWs⟩ := boxM (w := w) n0 a0 l0 c0 b0 m0 d0 34
  have HB := Lib.hid hb
  have H0 := Lib.hid (h0.keep hb (Nat.le_refl _))
  have H0' := Lib.hid (h0'.keep hb (Nat.le_refl _))
  have H1 := Lib.hid (h1.keep hb (Nat.le_refl _))
  have H1' := Lib.hid (h1'.keep hb (Nat.le_refl _))
  have E3 := Lib.hid ((hb.cell (p := ⟨b, 3, none⟩) hb0).trans e3)
  have E4 := Lib.hid ((hb.cell (p := ⟨b, 4, none⟩) hb0).trans e4)
  have E5 := Lib.hid ((hb.cell (p := ⟨b, 5, none⟩) hb0).trans e5)
  have hsz := hb.size
  have HW := Lib.hid hW
  clear h0 h0' h1 h1' hb hW e3 e4 e5
  cases hf0 : isM n0 xs0 ys0
  · have F0 := Lib.hid hf0
    clear hf0
    go_enter Try.func87, Try.ntmps87
    go_wp2
    refine wp_loop_rounds 3 ?_
    rw [rounds_succ]
    go_wp2_with fail
    rw [← HW.out]
    refine (implIsModel_any n0 xs0 ys0 _ _ _ _ _ _ _ hl0 hm0 H0.out H0'.out).mono ?_
    rw [F0.out]
    rintro e w1 ⟨rfl, hb⟩
    have B1 := Lib.hid (HB.out.trans (hb.mono HB.out.size))
    clear hb
    go_wp2
    go_ret
    exact ⟨rfl, B1.out⟩
  · have F0 := Lib.hid hf0
    cases hf1 : isM n1 xs1 ys1
    all_goals
      have F1 := Lib.hid hf1
      clear hf0 hf1
      go_enter Try.func87, Try.ntmps87
      go_wp2
      refine wp_loop_rounds 3 ?_
      rw [rounds_succ]
      go_wp2_with fail
      rw [← HW.out]
      refine (implIsModel_any n0 xs0 ys0 _ _ _ _ _ _ _ hl0 hm0 H0.out H0'.out).mono ?_
      rw [F0.out]
      rintro e w1 ⟨rfl, hb⟩
      have B1 := Lib.hid (HB.out.trans (hb.mono HB.out.size))
      have f3 := (hb.cell (p := ⟨b, 3, none⟩) (Nat.lt_of_lt_of_le hb0 hsz)).trans E3.out
      have f4 := (hb.cell (p := ⟨b, 4, none⟩) (Nat.lt_of_lt_of_le hb0 hsz)).trans E4.out
      have f5 := (hb.cell (p := ⟨b, 5, none⟩) (Nat.lt_of_lt_of_le hb0 hsz)).trans E5.out
      obtain ⟨V, hV, hbV, -, hVs⟩ := boxM (w := w1) n1 a1 l1 c1 b1 m1 d1 34
      have H11 := Lib.hid ((H1.out.keep hb (Nat.le_refl _)).keep hbV (Nat.le_refl _))
      have H11' := Lib.hid ((H1'.out.keep hb (Nat.le_refl _)).keep hbV (Nat.le_refl _))
      have B1' := Lib.hid (B1.out.trans (hbV.mono B1.out.size))
      have HV := Lib.hid hV
      clear hb e0 e1 e2 hbV hV hVs
      go_wp2
      rw [rounds_succ]
      go_wp2_with fail
      clear f3 f4 f5
      rw [← HV.out]
      refine (implIsModel_any n1 xs1 ys1 _ _ _ _ _ _ _ hl1 hm1 H11.out H11'.out).mono ?_
      rw [F1.out]
      rintro e w2 ⟨rfl, hb⟩
      have B2 := Lib.hid (B1'.out.trans (hb.mono B1'.out.size))
      clear hb
      go_wp2
      first | (rw [rounds_succ]; go_wp2; go_ret; exact ⟨rfl, B2.out⟩) | (go_ret; exact ⟨rfl, B2.out⟩)

theorem cells6 (W : World) (n0 n1 : Int) (a0 : Option Addr) (l0 c0 : Nat) (b0 : Option Addr) (m0 d0 : Nat) (a1 : Option Addr) (l1 c1 : Nat) (b1 : Option Addr) (m1 d1 : Nat) : ∃ W' : World, W' = W.alloc (.cells #[.int .i64 n0, .slice a0 l0 c0, .slice b0 m0 d0, .int .i64 n1, .slice a1 l1 c1, .slice b1 m1 d1] 34) ∧ Below W.heap.size W W' ∧ W.heap.size < W'.heap.size ∧
    W'.cell? ⟨W.heap.size, 0, none⟩ = some (.int .i64 n0) ∧ W'.cell? ⟨W.heap.size, 1, none⟩ = some (.slice a0 l0 c0) ∧ W'.cell? ⟨W.heap.size, 2, none⟩ = some (.slice b0 m0 d0) ∧ W'.cell? ⟨W.heap.size, 3, none⟩ = some (.int .i64 n1) ∧ W'.cell? ⟨W.heap.size, 4, none⟩ = some (.slice a1 l1 c1) ∧ W'.cell? ⟨W.heap.size, 5, none⟩ = some (.slice b1 m1 d1) :=
  ⟨_, rfl, (alloc_keep _ _).1, by simp, World.cell?_alloc_at _ _ _ _ rfl, World.cell?_alloc_at _ _ _ _ rfl, World.cell?_alloc_at _ _ _ _ rfl, World.cell?_alloc_at _ _ _ _ rfl, World.cell?_alloc_at _ _ _ _ rfl, World.cell?_alloc_at _ _ _ _ rfl⟩

/-- The call of areModels on two models, as its callers make it. -/
theorem areM2_made (n0 n1 : Int) (xs0 ys0 xs1 ys1 : List Int) (a0 : Option Addr) (l0 c0 : Nat) (b0 : Option Addr) (m0 d0 : Nat) (a1 : Option Addr) (l1 c1 : Nat) (b1 : Option Addr) (m1 d1 : Nat) (W : World) (hl0 : l0 ≤ 1048576) (hm0 : m0 ≤ 1048576) (hl1 : l1 ≤ 1048576) (hm1 : m1 ≤ 1048576) (h0 : At W a0 l0 xs0) (h0' : At W b0 m0 ys0) (h1 : At W a1 l1 xs1) (h1' : At W b1 m1 ys1) {k : Nat} (hk : W.heap.size = k) :
    Calls Try.prog 87 #[.slice (some ⟨k, 0, none⟩) 2 2] (W.alloc (.cells #[.int .i64 n0, .slice a0 l0 c0, .slice b0 m0 d0, .int .i64 n1, .slice a1 l1 c1, .slice b1 m1 d1] 34)) fun e w' => e = .returned (.bool (isM n0 xs0 ys0 && isM n1 xs1 ys1)) ∧ Below W.heap.size W w' := by
  subst hk
  obtain ⟨V, hV, bV, hVs, d0, d1, d2, d3, d4, d5⟩ := cells6 W n0 n1 a0 l0 c0 b0 m0 d0 a1 l1 c1 b1 m1 d1
  rw [← hV]
  exact (areModels2_any n0 n1 xs0 ys0 xs1 ys1 a0 l0 c0 b0 m0 _ a1 l1 c1 b1 m1 _ _ V hl0 hm0 hl1 hm1 (h0.keep bV (Nat.le_refl _)) (h0'.keep bV (Nat.le_refl _)) (h1.keep bV (Nat.le_refl _)) (h1'.keep bV (Nat.le_refl _)) hVs d0 d1 d2 d3 d4 d5).mono fun e w' ⟨e1, hb⟩ => ⟨e1, bV.trans (hb.mono bV.size)⟩

end Go.Proofs.Ytomldealpmohhaa

/- Is a number one of a world: contracts of both sides. Conditions: those in the theorems. -/
namespace Go.Proofs.Ytomldealpmohhaa
open Go.RowKit

def wlB (n m : Int) : Bool := decide (0 ≤ m) && decide (m < n)

set_option maxHeartbeats 400000 in
theorem l05World_any (n m : Int) (a : Option Addr) (len cap : Nat) (w : World) (hn : 0 ≤ n) (hn2 : n ≤ 30) :
    Calls Try.prog 51 #[.agg #[.int .i64 n, .slice a len cap], .int .i64 m] w fun e w' => e = .returned (.bool (wlB n m)) ∧ Below w.heap.size w w' := by
  have HB := Lib.hid (boxF (w := w) n a len cap)
  have E := Lib.hid (show inB m 0 (n - 1) = wlB n m by rw [inB, wlB, Bool.eq_iff_iff]; simp; omega)
  go_enter Try.func51, Try.ntmps51
  go_wp2_with (go_at_call 96; refine (l01In_any _ _ _ _).mono ?_; rintro e w' ⟨rfl, rfl⟩)
  go_ret
  exact ⟨ret_bool E.out, HB.out⟩

theorem isBelow_any (m n : Int) (w : World) : Calls Try.prog 53 #[.int .i64 m, .int .i64 n] w fun e w' => e = .returned (.bool (wlB n m)) ∧ w = w' := by
  by_cases h : 0 ≤ m
  all_goals
    go_enter Try.func53, Try.ntmps53
    go_wp2
    go_ret
    exact ⟨ret_bool (by first | (simp [wlB, h]; done) | (simp [wlB]; omega)), rfl⟩

end Go.Proofs.Ytomldealpmohhaa
