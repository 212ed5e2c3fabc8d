/- 8 texts in one: Prt, Sum, Prt2, PmA, Se, MoD, Aw, ZoM. -/
import Derived.Test.YtnoaaklkbfbdbaaDoorJn07
import Derived.Test.YtnoaaklkbfbdbaaDoorJn04
import Derived.Test.YtnoaaklkbfbdbaaDoorJn05
import Derived.Test.YtnoaaklkbfbdbaaDoorJn06
/- Contracts of the frame of a list of worlds, of the model and of the program, and of PartOfFrame. Conditions: those in the theorems. -/
namespace Go.Proofs.YtnoaaklkbfbdbaaDoor
open Go.RowKit

/-- The mask of the indices, in a list of worlds, of the members of x. -/
def sqTo (ls : List Int) (x : Int) : Nat → Int
  | 0 => 0
  | k + 1 => if bitB x (nth ls k) then bits .or .i64 (sqTo ls x k) (one k) else sqTo ls x k
def arF (xs ls : List Int) (i : Nat) : Int := sqTo ls (nth xs (nth ls i).toNat) ls.length
def arV (xs ls : List Int) : List Int := tab ls.length (arF xs ls)
def LsOk (n : Nat) (ls : List Int) : Prop := ∀ k, k < ls.length → ∃ p : Nat, nth ls k = p ∧ p < n
theorem memTo_ok (m k : Nat) : LsOk k (memTo m k) := by
  induction k with
  | zero => intro i hi; simp [memTo] at hi
  | succ k ih =>
    intro i hi
    rw [memTo] at hi ⊢
    split at hi
    · rename_i h
      rw [if_pos h]
      by_cases e : i < (memTo m k).length
      · obtain ⟨p, h1, h2⟩ := ih i e
        exact ⟨p, by rw [nth_left _ _ _ e]; exact h1, by omega⟩
      · have e2 : i = (memTo m k).length := by simp at hi; omega
        subst e2
        exact ⟨k, nth_snoc _ _ _ rfl, by omega⟩
    · rename_i h
      rw [if_neg h]
      obtain ⟨p, h1, h2⟩ := ih i hi
      exact ⟨p, h1, by omega⟩

theorem boxF1 (w : World) (n : Int) (a : Option Addr) (l c : Nat) : ∃ W : World, W = (w.alloc (.cells #[.int .i64 n, .slice a l c] 30)).alloc (.cells #[.int .i64 0, .slice none 0 0] 30) ∧
    Hid (Below w.heap.size w W) ∧ Hid (Bx W w.heap.size n a l c) ∧ Hid (Bz W (w.heap.size + 1)) ∧ W.heap.size = w.heap.size + 1 + 1 := by
  refine ⟨_, rfl, Lib.hid (((Below.refl w.heap.size w).alloc (Nat.le_refl _) _).alloc (by simp) _), Lib.hid ((Bx.new w n a l c _).keep (alloc_keep _ _).1), ?_, by simp⟩
  have := Bz.new (w.alloc (.cells #[.int .i64 n, .slice a l c] 30))
  exact Lib.hid (by simpa using this)

def arTo (xs ls : List Int) : Nat → List Int
  | 0 => []
  | k + 1 => arTo xs ls k ++ [arF xs ls k]
theorem arTo_len (xs ls : List Int) (k : Nat) : (arTo xs ls k).length = k := by induction k with | zero => rfl | succ k ih => simp [arTo, ih]
theorem arTo_tab (xs ls : List Int) (k : Nat) : arTo xs ls k = tab k (arF xs ls) := by
  induction k with
  | zero => rfl
  | succ k ih => rw [arTo, ih]; unfold tab; rw [List.range_succ, List.map_append]; rfl
theorem own_ar {w : World} {B k : Nat} {v : Value} {xs ls : List Int} (h : w.ownsRow B 2 1 v k ((arTo xs ls k).map (Value.int .i64))) : Own w B v (arTo xs ls k) := by
  unfold Own; rw [arTo_len]; exact h

end Go.Proofs.YtnoaaklkbfbdbaaDoor

/- Contracts of SumFrames, of the model and of the program. Conditions: those in the theorems. -/
namespace Go.Proofs.YtnoaaklkbfbdbaaDoor
open Go.RowKit

theorem boxFF (w : World) (n0 n1 : Int) (a0 a1 : Option Addr) (l0 c0 l1 c1 : Nat) : ∃ W : World, W = ((w.alloc (.cells #[.int .i64 n0, .slice a0 l0 c0] 30)).alloc (.cells #[.int .i64 n1, .slice a1 l1 c1] 30)).alloc (.cells #[.int .i64 0, .slice none 0 0] 30) ∧
    Hid (Below w.heap.size w W) ∧ Hid (Bx W w.heap.size n0 a0 l0 c0) ∧ Hid (Bx W (w.heap.size + 1) n1 a1 l1 c1) ∧ Hid (Bz W (w.heap.size + 1 + 1)) ∧ W.heap.size = w.heap.size + 1 + 1 + 1 := by
  refine ⟨_, rfl, Lib.hid ((((Below.refl w.heap.size w).alloc (Nat.le_refl _) _).alloc (by simp) _).alloc (by simp; omega) _), Lib.hid (((Bx.new w n0 a0 l0 c0 _).keep (alloc_keep _ _).1).keep (alloc_keep _ _).1), ?_, ?_, by simp⟩
  · have := (Bx.new (w.alloc (.cells #[.int .i64 n0, .slice a0 l0 c0] 30)) n1 a1 l1 c1 30).keep (alloc_keep _ (.cells #[.int .i64 0, .slice none 0 0] 30)).1
    exact Lib.hid (by simpa using this)
  · have := Bz.new ((w.alloc (.cells #[.int .i64 n0, .slice a0 l0 c0] 30)).alloc (.cells #[.int .i64 n1, .slice a1 l1 c1] 30))
    exact Lib.hid (by simpa using this)

def smTo (xs ys : List Int) (k : Int) : Nat → List Int
  | 0 => xs
  | j + 1 => smTo xs ys k j ++ [wrap64 (nth ys j * 2 ^ k.toNat)]
theorem smTo_len (xs ys : List Int) (k : Int) (j : Nat) : (smTo xs ys k j).length = xs.length + j := by
  induction j with
  | zero => rfl
  | succ j ih => simp [smTo, ih]; omega

theorem shl_spell {n : Int} (h0 : 0 ≤ n) (h1 : n ≤ 8) (y : Int) : IntKind.i64.wrap (y * 2 ^ min (IntKind.u64.wrap n).toNat 64) = wrap64 (y * 2 ^ n.toNat) := by
  rw [IntWalk.u64_in n (by omega), Nat.min_eq_left (by omega)]
  unfold wrap64
  exact IntKind.wrap_i64 _
theorem own_sm {w : World} {B k : Nat} {v : Value} {xs ys : List Int} {n : Int} (h : w.ownsRow B 2 1 v (xs.length + k) ((smTo xs ys n k).map (Value.int .i64))) : Own w B v (smTo xs ys n k) := by
  unfold Own; rw [smTo_len]; exact h
theorem sm_next {w : World} {B m : Nat} {v : Value} {xs ys : List Int} {n z : Int} {k : Nat} (hz : z = wrap64 (nth ys k * 2 ^ n.toNat)) (h : w.ownsRow B 2 1 v (m + k + 1) ((smTo xs ys n k).map (Value.int .i64) ++ [.int .i64 z])) :
    w.ownsRow B 2 1 v (m + (k + 1)) ((smTo xs ys n (k + 1)).map (Value.int .i64)) := by
  rw [smTo, List.map_append, ← hz, ← Nat.add_assoc]; exact h

def smC (n0 : Int) (x0 : List Int) (n1 : Int) (x1 : List Int) : Int := if frB n0 x0 && frB n1 x1 then (if 8 < n0 + n1 then 3 else 0) else 1
def smL (n0 : Int) (x0 : List Int) (n1 : Int) (x1 : List Int) : List Int := if smC n0 x0 n1 x1 = 0 then smTo x0 x1 n0 x1.length else []
theorem smC_1 {n0 n1 : Int} {x0 x1 : List Int} (h : (frB n0 x0 && frB n1 x1) = false) : smC n0 x0 n1 x1 = 1 := by rw [smC, h]; rfl
theorem smC_3 {n0 n1 : Int} {x0 x1 : List Int} (h : (frB n0 x0 && frB n1 x1) = true) (h2 : 8 < n0 + n1) : smC n0 x0 n1 x1 = 3 := by rw [smC, h, if_pos rfl, if_pos h2]
theorem smC_0 {n0 n1 : Int} {x0 x1 : List Int} (h : (frB n0 x0 && frB n1 x1) = true) (h2 : ¬ 8 < n0 + n1) : smC n0 x0 n1 x1 = 0 := by rw [smC, h, if_pos rfl, if_neg h2]
/-- A result that is a frame and a code. -/
def RF (w : World) (B : Nat) (n c : Int) (xs : List Int) (e : Ending) : Prop := ∃ v, e = .returned (.tuple #[v, .int .i64 c]) ∧ OwnF w B v n xs
theorem RF.bad {w : World} {B : Nat} {c c' n : Int} {xs : List Int} (h : c = c') (hn : n = 0) (hx : xs = []) : RF w B n c xs (.returned (.tuple #[.agg #[.int .i64 0, .slice none 0 0], .int .i64 c'])) := by
  subst h hn hx
  exact ⟨_, rfl, OwnF.mk (World.ownsRow_nil _ _ _ _)⟩
theorem RF.good {w : World} {B B' : Nat} {c n n' : Int} {v : Value} {xs xs' : List Int} (h : c = 0) (hn : n = n') (hx : xs = xs') (ho : OwnF w B' v n' xs') (hB : B ≤ B') : RF w B n c xs (.returned (.tuple #[v, .int .i64 0])) := by
  subst h hn hx
  exact ⟨_, rfl, ho.mono hB⟩

theorem cells4 (W : World) (n0 n1 : Int) (a0 a1 : Option Addr) (l0 c0 l1 c1 : Nat) : ∃ W' : World, W' = W.alloc (.cells #[.int .i64 n0, .slice a0 l0 c0, .int .i64 n1, .slice a1 l1 c1] 30) ∧ Below W.heap.size W W' ∧ W.heap.size < W'.heap.size ∧
    W'.cell? ⟨W.heap.size, 0, none⟩ = some (.int .i64 n0) ∧ W'.cell? ⟨W.heap.size, 1, none⟩ = some (.slice a0 l0 c0) ∧ W'.cell? ⟨W.heap.size, 2, none⟩ = some (.int .i64 n1) ∧ W'.cell? ⟨W.heap.size, 3, none⟩ = some (.slice a1 l1 c1) :=
  ⟨_, rfl, (alloc_keep _ _).1, by simp, World.cell?_alloc_at _ _ _ _ rfl, World.cell?_alloc_at _ _ _ _ rfl, World.cell?_alloc_at _ _ _ _ rfl, World.cell?_alloc_at _ _ _ _ rfl⟩

end Go.Proofs.YtnoaaklkbfbdbaaDoor

/- Contracts of arranged of the program and of PartOfFrame of both. Conditions: those in the theorems. -/
namespace Go.Proofs.YtnoaaklkbfbdbaaDoor
open Go.RowKit

/-- The row under way: entries below i are done. -/
def arS (xs ls : List Int) (i t : Nat) : Int := if t < i then arF xs ls t else 0
theorem arS_start (xs ls : List Int) (t : Nat) : arS xs ls 0 t = 0 := by unfold arS; rw [if_neg (by omega)]
theorem arS_all {xs ls : List Int} {n t : Nat} (h : t < n) : arS xs ls n t = arF xs ls t := by unfold arS; rw [if_pos h]
theorem arS_set {xs ls : List Int} {k : Nat} {z : Int} (hz : z = arF xs ls k) (t : Nat) : (if t = k then z else arS xs ls k t) = arS xs ls (k + 1) t := by
  unfold arS
  by_cases e : t = k
  · subst e; rw [if_pos rfl, if_pos (by omega), hz]
  · rw [if_neg e]
    by_cases h2 : t < k
    · rw [if_pos h2, if_pos (by omega)]
    · rw [if_neg h2, if_neg (by omega)]

def prL (n : Int) (xs : List Int) (m : Int) : List Int := if cwV n xs m = 0 then arV xs (memTo m.toNat xs.length) else []
theorem pr_ok {n m : Int} {xs : List Int} (h : cwV n xs m = 0) : prL n xs m = arV xs (memTo m.toNat xs.length) := if_pos h
theorem pr_bad {n m : Int} {xs : List Int} (h : ¬ cwV n xs m = 0) : prL n xs m = [] := if_neg h
theorem RF.bad' {w : World} {B : Nat} {c c' n : Int} {xs : List Int} (h : c = c') (hn : n = 0) (hx : xs = []) : RF w B n c' xs (.returned (.tuple #[.agg #[.int .i64 0, .slice none 0 0], .int .i64 c])) := by
  subst h hn hx
  exact ⟨_, rfl, OwnF.mk (World.ownsRow_nil _ _ _ _)⟩

end Go.Proofs.YtnoaaklkbfbdbaaDoor

/- The arranged model of the program, with what serves it. Conditions: those in the theorems. -/
namespace Go.Proofs.YtnoaaklkbfbdbaaDoor
open Go.RowKit

/-- The values of the arranged model. -/
def mvF (ys ls : List Int) (t : Nat) : Int := sqTo ls (nth ys t) ls.length
def mvV (ys ls : List Int) : List Int := tab ys.length (mvF ys ls)
theorem mvV_len (ys ls : List Int) : (mvV ys ls).length = ys.length := tab_len _ _

/-- The cells of a result that is a model, before it is stored. -/
def BzM (w : World) (b : Nat) : Prop := Bm w b 0 none 0 0 none 0 0 ∧ w.frozen? ⟨b, 0, none⟩ = false ∧ w.frozen? ⟨b, 1, none⟩ = false ∧ w.frozen? ⟨b, 2, none⟩ = false
theorem BzM.below {w w' : World} {C b : Nat} (h : BzM w b) (hb : Below C w w') (hC : b < C) : BzM w' b :=
  ⟨h.1.below hb hC, (hb.frozen (p := ⟨b, 0, none⟩) hC).trans h.2.1, (hb.frozen (p := ⟨b, 1, none⟩) hC).trans h.2.2.1, (hb.frozen (p := ⟨b, 2, none⟩) hC).trans h.2.2.2⟩
theorem BzM.keep {w w' : World} {b : Nat} (h : BzM w b) (hb : Below w.heap.size w w') : BzM w' b := h.below hb h.1.1
theorem BzM.new (w : World) : BzM (w.alloc (.cells #[.int .i64 0, .slice none 0 0, .slice none 0 0] 59)) w.heap.size := ⟨Bm.new _ _ _ _ _ _ _ _ _, by simp, by simp, by simp⟩
theorem BzM.all {w : World} {b : Nat} (h : BzM w b) : b < w.heap.size ∧ w.cell? ⟨b, 0, none⟩ = some (.int .i64 0) ∧ w.cell? ⟨b, 1, none⟩ = some (.slice none 0 0) ∧ w.cell? ⟨b, 2, none⟩ = some (.slice none 0 0) ∧ w.frozen? ⟨b, 0, none⟩ = false ∧ w.frozen? ⟨b, 1, none⟩ = false ∧ w.frozen? ⟨b, 2, none⟩ = false := ⟨h.1.1, h.1.2.1, h.1.2.2.1, h.1.2.2.2, h.2.1, h.2.2.1, h.2.2.2⟩
theorem boxM2 (w : World) (n : Int) (a : Option Addr) (l c : Nat) (b : Option Addr) (m d : Nat) : ∃ W : World, W = (w.alloc (.cells #[.int .i64 n, .slice a l c, .slice b m d] 59)).alloc (.cells #[.int .i64 0, .slice none 0 0, .slice none 0 0] 59) ∧
    Hid (Below w.heap.size w W) ∧ Hid (Bm W w.heap.size n a l c b m d) ∧ Hid (BzM W (w.heap.size + 1)) ∧ W.heap.size = w.heap.size + 1 + 1 := by
  refine ⟨_, rfl, Lib.hid (((Below.refl w.heap.size w).alloc (Nat.le_refl _) _).alloc (by simp) _), Lib.hid ((Bm.new w n a l c b m d _).keep (alloc_keep _ _).1), ?_, by simp⟩
  have := BzM.new (w.alloc (.cells #[.int .i64 n, .slice a l c, .slice b m d] 59))
  exact Lib.hid (by simpa using this)
theorem OwnM.out3 {w : World} {B R o o' o'' : Nat} {v z z' z'' : Value} {n : Int} {xs ys : List Int} (h : OwnM w B v n xs ys) (hR : R < B) : OwnM (((w.setCell ⟨R, o, none⟩ z).setCell ⟨R, o', none⟩ z').setCell ⟨R, o'', none⟩ z'') B v n xs ys :=
  ⟨h.1, (((h.2.1.inn.setOut (.inl hR)).setOut (.inl hR)).setOut (.inl hR)).1, (((h.2.2.1.inn.setOut (.inl hR)).setOut (.inl hR)).setOut (.inl hR)).1, h.2.2.2⟩

end Go.Proofs.YtnoaaklkbfbdbaaDoor

/- The lists of masks with a number, of the program. Conditions: those in the theorems. -/
namespace Go.Proofs.YtnoaaklkbfbdbaaDoor
open Go.RowKit

/-- The mask at j of the list of c masks of n elements with the number k. -/
def mkQ (n c k j : Nat) : Nat := (k / 2 ^ ((c - 1 - j) * n)) % 2 ^ n
def mkF (n c k : Nat) (j : Nat) : Int := (mkQ n c k j : Nat)

theorem low_full {n : Nat} (hn : n ≤ 8) : wrap64 (wrap64 (2 ^ n) - 1) = ((2 ^ n - 1 : Nat) : Int) := by
  have : n = 0 ∨ n = 1 ∨ n = 2 ∨ n = 3 ∨ n = 4 ∨ n = 5 ∨ n = 6 ∨ n = 7 ∨ n = 8 := by omega
  rcases this with rfl | rfl | rfl | rfl | rfl | rfl | rfl | rfl | rfl <;> decide +kernel
theorem and_low {n x : Nat} (hn : n ≤ 8) (hx : x < 1073741824) : bits .and .i64 (x : Int) ((2 ^ n - 1 : Nat) : Int) = ((x % 2 ^ n : Nat) : Int) := by
  have h1 : 2 ^ n ≤ 2 ^ 8 := Nat.pow_le_pow_right (by decide) hn
  rw [iand _ _ (by omega) (by omega), Nat.and_two_pow_sub_one_eq_mod]
theorem shr_nat (k m : Nat) : ((k : Int) / 2 ^ m) = ((k / 2 ^ m : Nat) : Int) := by simp
theorem mk_spell {n k m : Nat} (hn : n ≤ 8) (hk : k < 65536) : bits .and .i64 ((k : Int) / 2 ^ m) (wrap64 (wrap64 (2 ^ n) - 1)) = (((k / 2 ^ m) % 2 ^ n : Nat) : Int) := by
  have h1 : k / 2 ^ m ≤ k := Nat.div_le_self _ _
  rw [low_full hn, shr_nat, and_low hn (by omega)]

set_option maxHeartbeats 2000000 in
set_option maxRecDepth 100000 in
theorem numberedMasks_any (c n k : Nat) (w : World) (hc : c ≤ 6) (hn : n ≤ 8) (hk : k < 65536) :
    Calls Tryd.prog 44 #[.int .i64 c, .int .i64 n, .int .i64 k] w fun e w' => ∃ v, e = .returned v ∧ Own w' w.heap.size v (tab c (mkF n c k)) ∧ Below w.heap.size w w' := by
  have hmk := fun (W : World) => run_make_row' (P := Tryd.prog) 22 2 (.int .i64 0) 8 Tryd.underlying22 info64 rfl .i64 .i64 c (by omega) (by omega) W
  have hr0 := World.rowIs_made w (.int .i64 0) c 2
  have HR0 := Lib.hid hr0
  have HBV := Lib.hid ((Below.refl w.heap.size w).alloc (Nat.le_refl _) (.cells (madeCells #[.int .i64 0] c) 2))
  clear hr0
  go_enter Tryd.func44, Tryd.ntmps44
  go_wp2
  clear hmk
  go_loopw [14] (fun i wr => ∃ j : Nat, j ≤ c ∧ i = .int .i64 j ∧ wr.rowIs w.heap.size 2 c (fun t => .int .i64 (upS (mkF n c k) j t)) ∧ Hid (Below w.heap.size w wr)) (fun i _ => c - (intOf i).toNat)
  case atStart => exact ⟨0, Nat.zero_le _, rfl, HR0.out.congr fun t _ => by rw [upS_start], HBV⟩
  case round =>
    obtain ⟨j, hj, rfl, hrow, B⟩ := hrel
    have hsz := B.out.size
    have HROW := Lib.hid hrow
    by_cases hlt : j < c
    · have hcg : wr.cell? ⟨w.heap.size, j, none⟩ = some (.int .i64 (upS (mkF n c k) j j)) := hrow.cell hlt
      have hfg : wr.frozen? ⟨w.heap.size, j, none⟩ = false := hrow.frozen j
      obtain ⟨q, hq⟩ : ∃ q : Nat, q = c - 1 - j := ⟨_, rfl⟩
      have hqi : (c : Int) - 1 - j = q := by omega
      obtain ⟨m, hm⟩ : ∃ m : Nat, m = q * n := ⟨_, rfl⟩
      have hm48 : m ≤ 48 := by rw [hm]; exact Nat.mul_le_mul (show q ≤ 6 by omega) hn
      have hqm : (q : Int) * (n : Int) = (m : Int) := by rw [hm]; simp
      have HQ := Lib.hid hq
      have HM := Lib.hid hm
      clear hrow hq hm
      go_wp2
      go_region
      all_goals
        go_wp2
        go_roundw
        case rel => exact ⟨j + 1, hlt, by go_num, row_setI HROW.out (fun t => upS_set (by rw [mk_spell hn hk, HM.out, HQ.out]; rfl) t), Lib.hid (B.out.setCell (p := ⟨w.heap.size, j, none⟩) (Nat.le_refl _) _).drew⟩
        case measure => simp [intOf]; omega
    · obtain rfl : j = c := by omega
      have O5 := Lib.hid (own_of_row (B := w.heap.size) (Nat.le_refl _) (by omega) (hrow.congr fun t ht => by rw [upS_all ht]))
      clear hrow
      go_wp2
      go_ret
      exact ⟨_, rfl, O5.out, B.out⟩

end Go.Proofs.YtnoaaklkbfbdbaaDoor

/- A model's parts at their places. Conditions: those in the theorems. -/
namespace Go.Proofs.YtnoaaklkbfbdbaaDoor
open Go.RowKit

/-- A model's parts at their places. -/
def Mo (w : World) (n : Int) (a : Option Addr) (a' : Option Addr) (xs ys : List Int) : Prop := n = xs.length ∧ xs.length ≤ 8 ∧ (mksTo xs.length xs xs.length = true ∧ mksTo xs.length ys ys.length = true) ∧ ys.length = 6 ∧ At w a xs.length xs ∧ At w a' ys.length ys
theorem Mo.keep {w w' : World} {n : Int} {a a' : Option Addr} {xs ys : List Int} (h : Mo w n a a' xs ys) (hb : Below w.heap.size w w') : Mo w' n a a' xs ys := ⟨h.1, h.2.1, h.2.2.1, h.2.2.2.1, h.2.2.2.2.1.keep hb (Nat.le_refl _), h.2.2.2.2.2.keep hb (Nat.le_refl _)⟩
theorem Mo.drw {w : World} {n : Int} {a a' : Option Addr} {xs ys : List Int} (h : Mo w n a a' xs ys) : Mo w.drew n a a' xs ys := h
theorem Mo.of {w : World} {n : Int} {xs ys : List Int} {a a' : Option Addr} (h : isM n xs ys = true) (h1 : At w a xs.length xs) (h2 : At w a' ys.length ys) : Mo w n a a' xs ys := by
  obtain ⟨-, e1, e2, e3, e4, e5⟩ := isM_ok h
  exact ⟨e1, e2, ⟨e3, e5⟩, e4, h1, h2⟩

theorem isM_rel {n : Int} {xs ys : List Int} (h : isM n xs ys = true) : n = xs.length ∧ xs.length ≤ 8 ∧ Rel xs.length (nth xs) ∧ ∀ i, InMk xs.length (nth ys i) := by
  obtain ⟨h1, h2, h3, h4, h5, h6⟩ := isM_ok h
  refine ⟨h2, h3, (frB_ok h1).2.2.2, fun i => ?_⟩
  by_cases hi : i < ys.length
  · exact (mksTo_iff (by omega) ys ys.length).1 h6 i hi
  · rw [nth_high (by omega)]; exact InMk.zero _

end Go.Proofs.YtnoaaklkbfbdbaaDoor

/- The mask of all worlds of a frame: the program's contract. Conditions: those in the theorems. -/
namespace Go.Proofs.YtnoaaklkbfbdbaaDoor
open Go.RowKit

set_option maxHeartbeats 400000 in
theorem allWorlds_any (n : Int) (a : Option Addr) (len cap : Nat) (w : World) (hn : 0 ≤ n) (hn2 : n ≤ 30) :
    Calls Tryd.prog 45 #[.agg #[.int .i64 n, .slice a len cap]] w fun e w' => e = .returned (.int .i64 (full n)) ∧ Below w.heap.size w w' := by
  have HB := Lib.hid (boxF (w := w) n a len cap)
  go_enter Tryd.func45, Tryd.ntmps45
  go_wp2
  go_ret
  exact ⟨rfl, HB.out⟩

end Go.Proofs.YtnoaaklkbfbdbaaDoor

/- A result box of a model that may be made early, in a region that draws its order. Conditions: those in the theorems. -/
namespace Go.Proofs.YtnoaaklkbfbdbaaDoor
open Go.RowKit

def ZoM (w W : World) (b : Option Nat) : Prop := ∀ k, b = some k → BzM w k ∧ W.heap.size ≤ k
theorem ZoM.no (w W : World) : ZoM w W none := fun k h => by cases h
theorem ZoM.keep {w w' W : World} {b : Option Nat} (h : ZoM w W b) (hb : Below w.heap.size w w') : ZoM w' W b := fun k e => ⟨(h k e).1.keep hb, (h k e).2⟩
theorem ZoM.new {w w' W : World} (hW : W.heap.size ≤ w.heap.size) (hb : Below (w.alloc (.cells #[.int .i64 0, .slice none 0 0, .slice none 0 0] 59)).heap.size (w.alloc (.cells #[.int .i64 0, .slice none 0 0, .slice none 0 0] 59)) w') : ZoM w' W (some w.heap.size) := fun k e => by
  cases e
  exact ⟨(BzM.new w).keep hb, hW⟩
theorem three_set {w : World} {k b o : Nat} {u v v' v'' : Value} (h : w.cell? ⟨b, o, none⟩ = some u) (hk : b ≠ k) : (((w.setCell ⟨k, 0, none⟩ v).setCell ⟨k, 1, none⟩ v').setCell ⟨k, 2, none⟩ v'').cell? ⟨b, o, none⟩ = some u := by
  rw [World.cell?_setCell_other _ _ _ _ (fun e => hk (by cases e; rfl)), World.cell?_setCell_other _ _ _ _ (fun e => hk (by cases e; rfl)), World.cell?_setCell_other _ _ _ _ (fun e => hk (by cases e; rfl))]; exact h
/-- What the region leaves: the result in a box, and its lists owned. -/
def PrM (W w : World) (b lo hi : Nat) (n : Int) (a : Option Addr) (len c : Nat) (a' : Option Addr) (m c' : Nat) (xs ys : List Int) : Prop := Below W.heap.size W w ∧ Bm w b n a len c a' m c' ∧ InM w lo hi (.agg #[.int .i64 n, .slice a len c, .slice a' m c']) n xs ys
theorem PrM.late {W wB wC : World} {n : Int} {a a' : Option Addr} {len c m c' : Nat} {xs ys : List Int} (hW : W.heap.size ≤ wC.heap.size) (t : Below W.heap.size W wC) (ho : InM wC wB.heap.size wC.heap.size (.agg #[.int .i64 n, .slice a len c, .slice a' m c']) n xs ys) :
    PrM W (wC.alloc (.cells #[.int .i64 n, .slice a len c, .slice a' m c'] 59)) wC.heap.size wB.heap.size wC.heap.size n a len c a' m c' xs ys :=
  ⟨t.alloc hW _, Bm.new _ _ _ _ _ _ _ _ _, ho.below (alloc_keep _ _).1 (Nat.le_refl _)⟩
theorem PrM.early {W wC : World} {n : Int} {a a' : Option Addr} {len c m c' k lo : Nat} {xs ys : List Int} (hk : W.heap.size ≤ k) (hkl : k < lo) (t : Below W.heap.size W wC) (z : BzM wC k) (ho : InM wC lo wC.heap.size (.agg #[.int .i64 n, .slice a len c, .slice a' m c']) n xs ys) :
    PrM W (((wC.setCell ⟨k, 0, none⟩ (.int .i64 n)).setCell ⟨k, 1, none⟩ (.slice a len c)).setCell ⟨k, 2, none⟩ (.slice a' m c')) k lo wC.heap.size n a len c a' m c' xs ys := by
  obtain ⟨z1, z2, z3, z4, -, -, -⟩ := z.all
  have e3 : (wC.setCell ⟨k, 0, none⟩ (.int .i64 n)).cell? ⟨k, 1, none⟩ = some (.slice none 0 0) := by rw [cell_set' _ _ _ _ _ (by decide)]; exact z3
  have e4 : ((wC.setCell ⟨k, 0, none⟩ (.int .i64 n)).setCell ⟨k, 1, none⟩ (.slice a len c)).cell? ⟨k, 2, none⟩ = some (.slice none 0 0) := by rw [cell_set' _ _ _ _ _ (by decide), cell_set' _ _ _ _ _ (by decide)]; exact z4
  refine ⟨((t.setCell (by exact hk) _).setCell (by exact hk) _).setCell (by exact hk) _, ⟨by simpa [World.setCell] using z1, ?_, ?_, cell_set _ _ _ _ e4⟩, rfl, ?_, ?_, ho.2.2.2⟩
  · rw [cell_set' _ _ _ _ _ (by decide), cell_set' _ _ _ _ _ (by decide)]; exact cell_set _ _ _ _ z2
  · rw [cell_set' _ _ _ _ _ (by decide)]; exact cell_set _ _ _ _ e3
  · exact ((ho.2.1.setOut (.inl hkl)).setOut (.inl hkl)).setOut (.inl hkl)
  · exact ((ho.2.2.1.setOut (.inl hkl)).setOut (.inl hkl)).setOut (.inl hkl)

end Go.Proofs.YtnoaaklkbfbdbaaDoor
