/- Contracts of SumFrames, of the model and of the program. Conditions: those in the theorems. -/
import Derived.Test.YthopleeehbkjaaaJn07
namespace Go.Proofs.Ythopleeehbkjaaa
open Go.RowKit

theorem boxFF (w : World) (n0 n1 : Int) (a0 a1 : Option Addr) (l0 c0 l1 c1 : Nat) : ∃ W : World, W = ((w.alloc (.cells #[.int .i64 n0, .slice a0 l0 c0] 30)).alloc (.cells #[.int .i64 n1, .slice a1 l1 c1] 30)).alloc (.cells #[.int .i64 0, .slice none 0 0] 30) ∧
    Hid (Below w.heap.size w W) ∧ Hid (Bx W w.heap.size n0 a0 l0 c0) ∧ Hid (Bx W (w.heap.size + 1) n1 a1 l1 c1) ∧ Hid (Bz W (w.heap.size + 1 + 1)) ∧ W.heap.size = w.heap.size + 1 + 1 + 1 := by
  refine ⟨_, rfl, Lib.hid ((((Below.refl w.heap.size w).alloc (Nat.le_refl _) _).alloc (by simp) _).alloc (by simp; omega) _), Lib.hid (((Bx.new w n0 a0 l0 c0 _).keep (alloc_keep _ _).1).keep (alloc_keep _ _).1), ?_, ?_, by simp⟩
  · have := (Bx.new (w.alloc (.cells #[.int .i64 n0, .slice a0 l0 c0] 30)) n1 a1 l1 c1 30).keep (alloc_keep _ (.cells #[.int .i64 0, .slice none 0 0] 30)).1
    exact Lib.hid (by simpa using this)
  · have := Bz.new ((w.alloc (.cells #[.int .i64 n0, .slice a0 l0 c0] 30)).alloc (.cells #[.int .i64 n1, .slice a1 l1 c1] 30))
    exact Lib.hid (by simpa using this)

def smTo (xs ys : List Int) (k : Int) : Nat → List Int
  | 0 => xs
  | j + 1 => smTo xs ys k j ++ [wrap64 (nth ys j * 2 ^ k.toNat)]
theorem smTo_len (xs ys : List Int) (k : Int) (j : Nat) : (smTo xs ys k j).length = xs.length + j := by
  induction j with
  | zero => rfl
  | succ j ih => simp [smTo, ih]; omega

theorem shl_spell {n : Int} (h0 : 0 ≤ n) (h1 : n ≤ 8) (y : Int) : IntKind.i64.wrap (y * 2 ^ min (IntKind.u64.wrap n).toNat 64) = wrap64 (y * 2 ^ n.toNat) := by
  rw [IntWalk.u64_in n (by omega), Nat.min_eq_left (by omega)]
  unfold wrap64
  exact IntKind.wrap_i64 _
theorem own_sm {w : World} {B k : Nat} {v : Value} {xs ys : List Int} {n : Int} (h : w.ownsRow B 2 1 v (xs.length + k) ((smTo xs ys n k).map (Value.int .i64))) : Own w B v (smTo xs ys n k) := by
  unfold Own; rw [smTo_len]; exact h
theorem sm_next {w : World} {B m : Nat} {v : Value} {xs ys : List Int} {n z : Int} {k : Nat} (hz : z = wrap64 (nth ys k * 2 ^ n.toNat)) (h : w.ownsRow B 2 1 v (m + k + 1) ((smTo xs ys n k).map (Value.int .i64) ++ [.int .i64 z])) :
    w.ownsRow B 2 1 v (m + (k + 1)) ((smTo xs ys n (k + 1)).map (Value.int .i64)) := by
  rw [smTo, List.map_append, ← hz, ← Nat.add_assoc]; exact h

set_option maxHeartbeats 1000000 in
set_option maxRecDepth 100000 in
theorem l05Sum_any (n0 n1 : Int) (xs ys : List Int) (a0 a1 : Option Addr) (l0 c0 l1 c1 : Nat) (w : World) (hn0 : 0 ≤ n0) (hn1 : n0 ≤ 8) (hl0 : l0 ≤ 8) (hl1 : l1 ≤ 8) (h0 : At w a0 l0 xs) (h1 : At w a1 l1 ys) (hc0 : a0 = none → c0 = 0) :
    Calls Try.prog 86 #[.agg #[.int .i64 n0, .slice a0 l0 c0], .agg #[.int .i64 n1, .slice a1 l1 c1]] w fun e w' => ∃ v, e = .returned v ∧ OwnF w' w.heap.size v (smTo xs ys n0 l1).length (smTo xs ys n0 l1) ∧ Below w.heap.size w w' := by
  obtain ⟨W, hW, HB, X0, X1, Z, hWs⟩ := boxFF w n0 n1 a0 a1 l0 c0 l1 c1
  have H0 := Lib.hid (h0.keep HB.out (Nat.le_refl _))
  have H1 := Lib.hid (h1.keep HB.out (Nat.le_refl _))
  have N0 := Lib.hid hc0
  have WS := Lib.hid hWs
  have hz0 : w.heap.size + 1 + 1 + 1 ≤ W.heap.size := by omega
  obtain rfl := h0.1
  clear h0 h1 hc0 hWs
  have HW := Lib.hid hW
  clear hW
  go_enter Try.func86, Try.ntmps86
  go_wp2_with fail
  rw [← HW.out]
  refine (l01Own_any xs _ _ _ _ (by omega) H0.out N0.out).mono ?_
  rintro e w1 ⟨g, k1, rfl, hg, ho, hb⟩
  have O1 := Lib.hid ho
  have B1 := Lib.hid hb
  clear ho hb hg
  go_wp2
  go_loopw [5, 6] (fun v i wr => ∃ k : Nat, k ≤ l1 ∧ i = .int .i64 k ∧ wr.ownsRow W.heap.size 2 1 v (xs.length + k) ((smTo xs ys n0 k).map (Value.int .i64)) ∧ Hid (Below W.heap.size W wr)) (fun _ i _ => l1 - (intOf i).toNat)
  case atStart => exact ⟨0, Nat.zero_le _, rfl, O1.out, B1⟩
  case round =>
    obtain ⟨k, hk, rfl, hown, B⟩ := hrel
    have HO := Lib.hid hown
    clear hown
    have HY := Lib.hid (H1.out.keep B.out (Nat.le_refl _))
    obtain ⟨lt0, x0, x0'⟩ := X0.out.keep B.out
    obtain ⟨lt1, x1, x1'⟩ := X1.out.keep B.out
    have hsz := B.out.size
    by_cases hlt : k < l1
    · obtain ⟨b, off, rfl, hb, hc⟩ := HY.out.2.resolve_left (by omega)
      have hcell := hc k hlt
      clear hc
      go_wp2
      go_region_law (first | (refine step_app1 rfl _ _ rfl W.heap.size _ (xs.length + k) _ rfl (HO.out.drew.alloc _) ⟨wr.heap.size, 0, none⟩ 1 _ rfl (World.cell?_alloc_at _ _ _ _ rfl) (by omega) (by simp; omega) ?_; intro v' w1' hown1 hgr1))
      all_goals
        have hbel := Lib.hid (below_app B.out (((Below.refl _ _).alloc hsz _).drew) hsz HO.out hgr1)
        clear hgr1 x0 x0' x1 x1' hcell
        go_wp2
        go_roundw
        case rel => exact ⟨k + 1, hlt, by go_num, sm_next (shl_spell hn0 hn1 _) hown1, hbel⟩
        case measure => simp [intOf]; omega
    · obtain rfl : k = l1 := by omega
      obtain ⟨a5, k5, e5, hat5, -, hn5, -⟩ := (own_sm HO.out).at
      subst e5
      have H5 := Lib.hid hat5
      have N5 := Lib.hid hn5
      have Z1 := Lib.hid (Z.out.keep (w' := wr) (by rw [WS.out] at *; exact B.out))
      have hl5 : (smTo xs ys n0 k).length ≤ 1048576 := by rw [smTo_len]; omega
      have E5 := Lib.hid (smTo_len xs ys n0 k)
      have B1 := Lib.hid (HB.out.trans (B.out.mono HB.out.size))
      clear hat5 hn5
      go_wp2_with fail
      clear x0 x0' x1 x1'
      refine (l05Make_any _ _ _ _ _ hl5 H5.out N5.out).mono ?_
      rintro e w2 ⟨v2, rfl, ho, hb⟩
      obtain ⟨a2, k2, rfl⟩ := ho.form
      obtain ⟨lt2, z0, z1, z2, z3⟩ := Z1.out.keep hb
      have B2 := Lib.hid (B1.out.trans (hb.mono B1.out.size))
      have O2 := Lib.hid ho
      clear ho hb
      go_wp2
      exact bodyPost_ret (v := .agg #[.int .i64 (smTo xs ys n0 k).length, .slice a2 (smTo xs ys n0 k).length k2]) (by simp [results, Try.results86, go_sem, z0, z1]) rfl ⟨_, rfl, (O2.out.out2 (by omega)).mono (by omega), (B2.out.setCell (by show _ ≤ _; simp; omega) _).setCell (by show _ ≤ _; simp; omega) _⟩

def smC (n0 : Int) (x0 : List Int) (n1 : Int) (x1 : List Int) : Int := if frB n0 x0 && frB n1 x1 then (if 8 < n0 + n1 then 3 else 0) else 1
def smL (n0 : Int) (x0 : List Int) (n1 : Int) (x1 : List Int) : List Int := if smC n0 x0 n1 x1 = 0 then smTo x0 x1 n0 x1.length else []
theorem smC_1 {n0 n1 : Int} {x0 x1 : List Int} (h : (frB n0 x0 && frB n1 x1) = false) : smC n0 x0 n1 x1 = 1 := by rw [smC, h]; rfl
theorem smC_3 {n0 n1 : Int} {x0 x1 : List Int} (h : (frB n0 x0 && frB n1 x1) = true) (h2 : 8 < n0 + n1) : smC n0 x0 n1 x1 = 3 := by rw [smC, h, if_pos rfl, if_pos h2]
theorem smC_0 {n0 n1 : Int} {x0 x1 : List Int} (h : (frB n0 x0 && frB n1 x1) = true) (h2 : ¬ 8 < n0 + n1) : smC n0 x0 n1 x1 = 0 := by rw [smC, h, if_pos rfl, if_neg h2]
/-- A result that is a frame and a code. -/
def RF (w : World) (B : Nat) (n c : Int) (xs : List Int) (e : Ending) : Prop := ∃ v, e = .returned (.tuple #[v, .int .i64 c]) ∧ OwnF w B v n xs
theorem RF.bad {w : World} {B : Nat} {c c' n : Int} {xs : List Int} (h : c = c') (hn : n = 0) (hx : xs = []) : RF w B n c xs (.returned (.tuple #[.agg #[.int .i64 0, .slice none 0 0], .int .i64 c'])) := by
  subst h hn hx
  exact ⟨_, rfl, OwnF.mk (World.ownsRow_nil _ _ _ _)⟩
theorem RF.good {w : World} {B B' : Nat} {c n n' : Int} {v : Value} {xs xs' : List Int} (h : c = 0) (hn : n = n') (hx : xs = xs') (ho : OwnF w B' v n' xs') (hB : B ≤ B') : RF w B n c xs (.returned (.tuple #[v, .int .i64 0])) := by
  subst h hn hx
  exact ⟨_, rfl, ho.mono hB⟩

set_option maxHeartbeats 1000000 in
theorem specSumFrames_any (n0 n1 : Int) (xs ys : List Int) (a0 a1 : Option Addr) (l0 c0 l1 c1 : Nat) (w : World) (hl0 : l0 ≤ 1048576) (hl1 : l1 ≤ 1048576) (h0 : At w a0 l0 xs) (h1 : At w a1 l1 ys) (hc0 : a0 = none → c0 = 0) :
    Calls Try.prog 50 #[.agg #[.int .i64 n0, .slice a0 l0 c0], .agg #[.int .i64 n1, .slice a1 l1 c1]] w fun e w' => RF w' w.heap.size (smL n0 xs n1 ys).length (smC n0 xs n1 ys) (smL n0 xs n1 ys) e ∧ Below w.heap.size w w' := by
  obtain ⟨W, hW, HB, X0, X1, Z, hWs⟩ := boxFF w n0 n1 a0 a1 l0 c0 l1 c1
  have H0 := Lib.hid (h0.keep HB.out (Nat.le_refl _))
  have H1 := Lib.hid (h1.keep HB.out (Nat.le_refl _))
  have N0 := Lib.hid hc0
  have hz0 : w.heap.size + 1 + 1 + 1 ≤ W.heap.size := by omega
  obtain rfl := h0.1
  obtain rfl := h1.1
  clear h0 h1 hc0 hWs
  have HW := Lib.hid hW
  clear hW
  cases hf0 : frB n0 xs
  · have F0 := Lib.hid hf0
    have C := Lib.hid (smC_1 (x1 := ys) (n1 := n1) (show (frB n0 xs && frB n1 ys) = false by rw [hf0]; rfl))
    have L := Lib.hid (show smL n0 xs n1 ys = [] by rw [smL, C.out]; rfl)
    clear hf0
    go_enter Try.func50, Try.ntmps50
    go_wp2_with fail
    rw [← HW.out]
    refine (l05Is_any n0 xs _ _ _ _ hl0 H0.out).mono ?_
    rw [F0.out]
    rintro e w1 ⟨rfl, hb⟩
    have B1 := Lib.hid (HB.out.trans (hb.mono HB.out.size))
    obtain ⟨lt, z0, z1, z2, z3⟩ := Z.out.keep hb
    clear hb
    go_wp2
    exact bodyPost_ret (v := .tuple #[.agg #[.int .i64 0, .slice none 0 0], .int .i64 1]) (by simp [results, Try.results50, go_sem, z0, z1]) rfl ⟨RF.bad C.out (by rw [L.out]; rfl) L.out, (B1.out.setCell (by show _ ≤ _; simp; omega) _).setCell (by show _ ≤ _; simp; omega) _⟩
  · obtain ⟨hn0, h80, -, -⟩ := frB_ok hf0
    have hn00 : 0 ≤ n0 := by omega
    have hn08 : n0 ≤ 8 := by omega
    have F0 := Lib.hid hf0
    clear hn0
    cases hf1 : frB n1 ys
    · have F1 := Lib.hid hf1
      have C := Lib.hid (smC_1 (show (frB n0 xs && frB n1 ys) = false by rw [hf1, Bool.and_false]))
      have L := Lib.hid (show smL n0 xs n1 ys = [] by rw [smL, C.out]; rfl)
      clear hf1 hf0
      go_enter Try.func50, Try.ntmps50
      go_wp2_with fail
      rw [← HW.out]
      refine (l05Is_any n0 xs _ _ _ _ hl0 H0.out).mono ?_
      rw [F0.out]
      rintro e w1 ⟨rfl, hb⟩
      have B1 := Lib.hid (HB.out.trans (hb.mono HB.out.size))
      have Z1 := Lib.hid (Z.out.keep hb)
      have H11 := Lib.hid (H1.out.keep hb (Nat.le_refl _))
      obtain ⟨lt, x0, x1⟩ := X1.out.keep hb
      clear hb
      go_wp2_with fail
      refine (l05Is_any n1 ys _ _ _ _ hl1 H11.out).mono ?_
      rw [F1.out]
      rintro e w2 ⟨rfl, hb⟩
      have B2 := Lib.hid (B1.out.trans (hb.mono B1.out.size))
      obtain ⟨lt, z0, z1, z2, z3⟩ := Z1.out.keep hb
      clear hb x0 x1
      go_wp2
      exact bodyPost_ret (v := .tuple #[.agg #[.int .i64 0, .slice none 0 0], .int .i64 1]) (by simp [results, Try.results50, go_sem, z0, z1]) rfl ⟨RF.bad C.out (by rw [L.out]; rfl) L.out, (B2.out.setCell (by show _ ≤ _; simp; omega) _).setCell (by show _ ≤ _; simp; omega) _⟩
    · obtain ⟨hn1, h81, -, -⟩ := frB_ok hf1
      have hn10 : 0 ≤ n1 := by omega
      have hn18 : n1 ≤ 8 := by omega
      have F1 := Lib.hid hf1
      clear hn1
      by_cases h8 : 8 < n0 + n1
      · have C := Lib.hid (smC_3 (show (frB n0 xs && frB n1 ys) = true by rw [hf0, hf1]; rfl) h8)
        have L := Lib.hid (show smL n0 xs n1 ys = [] by rw [smL, C.out]; rfl)
        clear hf1 hf0
        go_enter Try.func50, Try.ntmps50
        go_wp2_with fail
        rw [← HW.out]
        refine (l05Is_any n0 xs _ _ _ _ hl0 H0.out).mono ?_
        rw [F0.out]
        rintro e w1 ⟨rfl, hb⟩
        have B1 := Lib.hid (HB.out.trans (hb.mono HB.out.size))
        have Z1 := Lib.hid (Z.out.keep hb)
        have H11 := Lib.hid (H1.out.keep hb (Nat.le_refl _))
        have X01 := Lib.hid (X0.out.keep hb)
        have X11 := Lib.hid (X1.out.keep hb)
        obtain ⟨lt, x0, x1⟩ := X1.out.keep hb
        clear hb
        go_wp2_with fail
        clear x0 x1
        refine (l05Is_any n1 ys _ _ _ _ hl1 H11.out).mono ?_
        rw [F1.out]
        rintro e w2 ⟨rfl, hb⟩
        have B2 := Lib.hid (B1.out.trans (hb.mono B1.out.size))
        obtain ⟨lt, z0, z1, z2, z3⟩ := Z1.out.keep hb
        obtain ⟨lt, x0, x0'⟩ := X01.out.keep hb
        obtain ⟨lt, x1, x1'⟩ := X11.out.keep hb
        clear hb
        go_wp2
        exact bodyPost_ret (v := .tuple #[.agg #[.int .i64 0, .slice none 0 0], .int .i64 3]) (by simp [results, Try.results50, go_sem, z0, z1]) rfl ⟨RF.bad C.out (by rw [L.out]; rfl) L.out, (B2.out.setCell (by show _ ≤ _; simp; omega) _).setCell (by show _ ≤ _; simp; omega) _⟩
      · have C := Lib.hid (smC_0 (show (frB n0 xs && frB n1 ys) = true by rw [hf0, hf1]; rfl) h8)
        have L := Lib.hid (show smL n0 xs n1 ys = smTo xs ys n0 ys.length by rw [smL, C.out]; rfl)
        clear hf1 hf0
        go_enter Try.func50, Try.ntmps50
        go_wp2_with fail
        rw [← HW.out]
        refine (l05Is_any n0 xs _ _ _ _ hl0 H0.out).mono ?_
        rw [F0.out]
        rintro e w1 ⟨rfl, hb⟩
        have B1 := Lib.hid (HB.out.trans (hb.mono HB.out.size))
        have Z1 := Lib.hid (Z.out.keep hb)
        have H01 := Lib.hid (H0.out.keep hb (Nat.le_refl _))
        have H11 := Lib.hid (H1.out.keep hb (Nat.le_refl _))
        have X01 := Lib.hid (X0.out.keep hb)
        have X11 := Lib.hid (X1.out.keep hb)
        obtain ⟨lt, x0, x1⟩ := X1.out.keep hb
        have hz1 := hb.size
        clear hb
        go_wp2_with fail
        clear x0 x1
        refine (l05Is_any n1 ys _ _ _ _ hl1 H11.out).mono ?_
        rw [F1.out]
        rintro e w2 ⟨rfl, hb⟩
        have B2 := Lib.hid (B1.out.trans (hb.mono B1.out.size))
        have Z2 := Lib.hid (Z1.out.keep hb)
        have H02 := Lib.hid (H01.out.keep hb (Nat.le_refl _))
        have H12 := Lib.hid (H11.out.keep hb (Nat.le_refl _))
        obtain ⟨lt, x0, x0'⟩ := X01.out.keep hb
        obtain ⟨lt, x1, x1'⟩ := X11.out.keep hb
        have hz2 := hb.size
        clear hb
        go_wp2_with fail
        clear x0 x0' x1 x1'
        refine (l05Sum_any n0 n1 xs ys _ _ _ _ _ _ _ hn00 hn08 h80 h81 H02.out H12.out N0.out).mono ?_
        rintro e w3 ⟨v3, rfl, ho, hb⟩
        obtain ⟨a3, k3, rfl⟩ := ho.form
        obtain ⟨lt, z0, z1, z2, z3⟩ := Z2.out.keep hb
        have B3 := Lib.hid (B2.out.trans (hb.mono B2.out.size))
        have O3 := Lib.hid ho
        clear ho hb
        go_wp2
        exact bodyPost_ret (v := .tuple #[.agg #[.int .i64 (smTo xs ys n0 ys.length).length, .slice a3 (smTo xs ys n0 ys.length).length k3], .int .i64 0]) (by simp [results, Try.results50, go_sem, z0, z1]) rfl ⟨RF.good C.out (by rw [L.out]) L.out (O3.out.out2 (by omega)) (by omega), (B3.out.setCell (by show _ ≤ _; simp; omega) _).setCell (by show _ ≤ _; simp; omega) _⟩

set_option maxHeartbeats 1000000 in
theorem areFrames2_any (n0 n1 : Int) (xs ys : List Int) (a0 a1 : Option Addr) (l0 c0 l1 c1 b : Nat) (w : World) (hl0 : l0 ≤ 1048576) (hl1 : l1 ≤ 1048576) (h0 : At w a0 l0 xs) (h1 : At w a1 l1 ys) (hb0 : b < w.heap.size)
    (d0 : w.cell? ⟨b, 0, none⟩ = some (.int .i64 n0)) (d1 : w.cell? ⟨b, 1, none⟩ = some (.slice a0 l0 c0)) (d2 : w.cell? ⟨b, 2, none⟩ = some (.int .i64 n1)) (d3 : w.cell? ⟨b, 3, none⟩ = some (.slice a1 l1 c1)) :
    Calls Try.prog 98 #[.slice (some ⟨b, 0, none⟩) 2 2] w fun e w' => e = .returned (.bool (frB n0 xs && frB n1 ys)) ∧ Below w.heap.size w w' := by
  have HB := Lib.hid (boxF (w := w) n0 a0 l0 c0)
  have H0 := Lib.hid (h0.keep HB.out (Nat.le_refl _))
  have H1 := Lib.hid (h1.keep HB.out (Nat.le_refl _))
  have E2 := Lib.hid ((HB.out.cell (p := ⟨b, 2, none⟩) hb0).trans d2)
  have E3 := Lib.hid ((HB.out.cell (p := ⟨b, 3, none⟩) hb0).trans d3)
  have hsz := HB.out.size
  cases hf0 : frB n0 xs
  · have F0 := Lib.hid hf0
    go_enter Try.func98, Try.ntmps98
    go_wp2
    refine wp_loop_rounds 3 ?_
    rw [rounds_succ]
    go_wp2_with fail
    refine (implIsFrame_any n0 xs _ _ _ _ hl0 H0.out).mono ?_
    rw [F0.out]
    rintro e w1 ⟨rfl, hb⟩
    have B1 := Lib.hid (HB.out.trans (hb.mono HB.out.size))
    clear hb
    go_wp2
    go_ret
    exact ⟨rfl, B1.out⟩
  · have F0 := Lib.hid hf0
    cases hf1 : frB n1 ys
    all_goals
      have F1 := Lib.hid hf1
      clear hf0 hf1
      go_enter Try.func98, Try.ntmps98
      go_wp2
      refine wp_loop_rounds 3 ?_
      rw [rounds_succ]
      go_wp2_with fail
      refine (implIsFrame_any n0 xs _ _ _ _ hl0 H0.out).mono ?_
      rw [F0.out]
      rintro e w1 ⟨rfl, hb⟩
      have B1 := Lib.hid (HB.out.trans (hb.mono HB.out.size))
      have e2 := (hb.cell (p := ⟨b, 2, none⟩) (Nat.lt_of_lt_of_le hb0 hsz)).trans E2.out
      have e3 := (hb.cell (p := ⟨b, 3, none⟩) (Nat.lt_of_lt_of_le hb0 hsz)).trans E3.out
      have H11 := Lib.hid ((H1.out.keep hb (Nat.le_refl _)).keep (boxF (w := w1) n1 a1 l1 c1) (Nat.le_refl _))
      have B1' := Lib.hid (B1.out.trans ((boxF (w := w1) n1 a1 l1 c1).mono B1.out.size))
      clear hb d0 d1 d2 d3
      go_wp2
      rw [rounds_succ]
      go_wp2_with fail
      clear e2 e3
      refine (implIsFrame_any n1 ys _ _ _ _ hl1 H11.out).mono ?_
      rw [F1.out]
      rintro e w2 ⟨rfl, hb⟩
      have B2 := Lib.hid (B1'.out.trans (hb.mono B1'.out.size))
      clear hb
      go_wp2
      first | (rw [rounds_succ]; go_wp2; go_ret; exact ⟨rfl, B2.out⟩) | (go_ret; exact ⟨rfl, B2.out⟩)

theorem cells4 (W : World) (n0 n1 : Int) (a0 a1 : Option Addr) (l0 c0 l1 c1 : Nat) : ∃ W' : World, W' = W.alloc (.cells #[.int .i64 n0, .slice a0 l0 c0, .int .i64 n1, .slice a1 l1 c1] 30) ∧ Below W.heap.size W W' ∧ W.heap.size < W'.heap.size ∧
    W'.cell? ⟨W.heap.size, 0, none⟩ = some (.int .i64 n0) ∧ W'.cell? ⟨W.heap.size, 1, none⟩ = some (.slice a0 l0 c0) ∧ W'.cell? ⟨W.heap.size, 2, none⟩ = some (.int .i64 n1) ∧ W'.cell? ⟨W.heap.size, 3, none⟩ = some (.slice a1 l1 c1) :=
  ⟨_, rfl, (alloc_keep _ _).1, by simp, World.cell?_alloc_at _ _ _ _ rfl, World.cell?_alloc_at _ _ _ _ rfl, World.cell?_alloc_at _ _ _ _ rfl, World.cell?_alloc_at _ _ _ _ rfl⟩

set_option maxHeartbeats 1000000 in
set_option maxRecDepth 100000 in
theorem plusF_any (n0 n1 : Int) (xs ys : List Int) (a0 a1 : Option Addr) (c0 c1 : Nat) (w : World) (hn00 : 0 ≤ n0) (hn08 : n0 ≤ 8) (h80 : xs.length ≤ 8) (h81 : ys.length ≤ 8) (h0 : At w a0 xs.length xs) (h1 : At w a1 ys.length ys) :
    Calls Try.prog 99 #[.agg #[.int .i64 n0, .slice a0 xs.length c0], .agg #[.int .i64 n1, .slice a1 ys.length c1]] w fun e w' => ∃ v, e = .returned v ∧ OwnF w' w.heap.size v (smTo xs ys n0 ys.length).length (smTo xs ys n0 ys.length) ∧ Below w.heap.size w w' := by
  obtain ⟨W, hW, HB, X0, X1, Z, hWs⟩ := boxFF w n0 n1 a0 a1 xs.length c0 ys.length c1
  have hz0 : w.heap.size + 1 + 1 + 1 ≤ W.heap.size := by omega
  have H0 := Lib.hid (h0.keep HB.out (Nat.le_refl _))
  have H1 := Lib.hid (h1.keep HB.out (Nat.le_refl _))
  have HW := Lib.hid hW
  have hl0 : xs.length ≤ 1048576 := by omega
  clear h0 h1 hWs hW
  obtain ⟨lt, x0, x0'⟩ := X0.out
  obtain ⟨lt', x1, x1'⟩ := X1.out
  go_enter Try.func99, Try.ntmps99
  go_wp2_with fail
  clear x0 x0' x1 x1'
  rw [← HW.out]
  refine (slCloneI_any xs _ _ _ _ hl0 H0.out).mono ?_
  rintro e w2 ⟨v2, rfl, ho, hb⟩
  have B2 := Lib.hid hb
  have O2 := Lib.hid ho
  have H12 := Lib.hid (H1.out.keep hb (Nat.le_refl _))
  obtain ⟨lt, x0, x0'⟩ := X0.out.keep hb
  obtain ⟨lt', x1, x1'⟩ := X1.out.keep hb
  clear hb ho
  go_wp2
  clear x0 x0' x1 x1'
  go_loopw [5, 14] (fun v i wr => ∃ k : Nat, k ≤ ys.length ∧ i = .int .i64 k ∧ wr.ownsRow W.heap.size 2 1 v (xs.length + k) ((smTo xs ys n0 k).map (Value.int .i64)) ∧ Hid (Below W.heap.size W wr)) (fun _ i _ => ys.length - (intOf i).toNat)
  case atStart => exact ⟨0, Nat.zero_le _, rfl, O2.out, B2⟩
  case round =>
    obtain ⟨k, hk, rfl, hown, B⟩ := hrel
    have HO := Lib.hid hown
    clear hown
    have HY := Lib.hid (H1.out.keep B.out (Nat.le_refl _))
    obtain ⟨lt0, x0, x0'⟩ := X0.out.keep B.out
    have hsz := B.out.size
    by_cases hlt : k < ys.length
    · obtain ⟨b, off, rfl, hb, hc⟩ := HY.out.2.resolve_left (by omega)
      have hcell := hc k hlt
      clear hc
      go_wp2_with (at_builtin; refine list_app1 rfl _ _ rfl W.heap.size _ (xs.length + k) _ rfl (HO.out.alloc _) ⟨wr.heap.size, 0, none⟩ 1 _ rfl (World.cell?_alloc_at _ _ _ _ rfl) (by omega) (by simp; omega) ?_; intro v' w1' hown1 hgr1)
      have hbel := Lib.hid (below_app B.out ((Below.refl _ _).alloc hsz _) hsz HO.out hgr1)
      clear hgr1 x0 x0' hcell
      go_roundw
      case rel => exact ⟨k + 1, hlt, by go_num, sm_next rfl hown1, hbel⟩
      case measure => simp [intOf]; omega
    · obtain rfl : k = ys.length := by omega
      have O5 := Lib.hid (own_sm HO.out)
      obtain ⟨a5, k5, e5, -, -, -, -⟩ := O5.out.at
      subst e5
      have Z5 := Lib.hid (Z.out.keep B.out)
      have hl5 : (smTo xs ys n0 ys.length).length ≤ 1048576 := by rw [smTo_len]; omega
      have B5 := Lib.hid (HB.out.trans (B.out.mono HB.out.size))
      clear x0 x0'
      go_wp2_with fail
      refine (frameOf_any _ _ _ _ hl5).mono ?_
      rintro e w3 ⟨rfl, hb⟩
      obtain ⟨lt, z0, z1, z2, z3⟩ := Z5.out.keep hb
      have B6 := Lib.hid (B5.out.trans (hb.mono B5.out.size))
      have O6 := Lib.hid (OwnF.mk (n := (smTo xs ys n0 ys.length).length) (O5.out.keep hb (Nat.le_refl _)))
      clear hb O5
      go_wp2
      exact bodyPost_ret (v := .agg #[.int .i64 (smTo xs ys n0 ys.length).length, .slice a5 (smTo xs ys n0 ys.length).length k5]) (by simp [results, Try.results99, go_sem, z0, z1]) rfl ⟨_, rfl, (O6.out.out2 (by omega)).mono (by omega), (B6.out.setCell (by show _ ≤ _; simp; omega) _).setCell (by show _ ≤ _; simp; omega) _⟩

set_option maxHeartbeats 1000000 in
set_option maxRecDepth 100000 in
theorem implSumFrames_any (n0 n1 : Int) (xs ys : List Int) (a0 a1 : Option Addr) (l0 c0 l1 c1 : Nat) (w : World) (hl0 : l0 ≤ 1048576) (hl1 : l1 ≤ 1048576) (h0 : At w a0 l0 xs) (h1 : At w a1 l1 ys) :
    Calls Try.prog 52 #[.agg #[.int .i64 n0, .slice a0 l0 c0], .agg #[.int .i64 n1, .slice a1 l1 c1]] w fun e w' => RF w' w.heap.size (smL n0 xs n1 ys).length (smC n0 xs n1 ys) (smL n0 xs n1 ys) e ∧ Below w.heap.size w w' := by
  obtain ⟨W, hW, HB, X0, X1, Z, hWs⟩ := boxFF w n0 n1 a0 a1 l0 c0 l1 c1
  have hz0 : w.heap.size + 1 + 1 + 1 ≤ W.heap.size := by omega
  obtain ⟨V, hV, bV, hVs, d0, d1, d2, d3⟩ := cells4 W n0 n1 a0 a1 l0 c0 l1 c1
  have H0 := Lib.hid ((h0.keep HB.out (Nat.le_refl _)).keep bV (Nat.le_refl _))
  have H1 := Lib.hid ((h1.keep HB.out (Nat.le_refl _)).keep bV (Nat.le_refl _))
  rw [hWs] at hVs d0 d1 d2 d3
  have AF := Lib.hid (fun (hl0 : l0 ≤ 1048576) (hl1 : l1 ≤ 1048576) => areFrames2_any n0 n1 xs ys a0 a1 l0 c0 l1 c1 (w.heap.size + 1 + 1 + 1) V hl0 hl1 H0.out H1.out hVs d0 d1 d2 d3)
  have BV := Lib.hid (HB.out.trans (bV.mono HB.out.size))
  have ZV := Lib.hid (Z.out.keep bV)
  have X0V := Lib.hid (X0.out.keep bV)
  have X1V := Lib.hid (X1.out.keep bV)
  obtain rfl := h0.1
  obtain rfl := h1.1
  clear h0 h1 hWs d0 d1 d2 d3 bV X0 X1 Z HB
  have HW := Lib.hid hW
  have HV := Lib.hid hV
  clear hW hV
  cases hf : (frB n0 xs && frB n1 ys)
  · have F := Lib.hid hf
    have C := Lib.hid (smC_1 hf)
    have L := Lib.hid (show smL n0 xs n1 ys = [] by rw [smL, C.out]; rfl)
    clear hf
    go_enter Try.func52, Try.ntmps52
    go_wp2_with fail
    rw [← HW.out, ← HV.out]
    refine (AF.out hl0 hl1).mono ?_
    rw [F.out]
    rintro e w1 ⟨rfl, hb⟩
    have B1 := Lib.hid (BV.out.trans (hb.mono BV.out.size))
    obtain ⟨lt, z0, z1, z2, z3⟩ := ZV.out.keep hb
    clear hb
    go_wp2
    exact bodyPost_ret (v := .tuple #[.agg #[.int .i64 0, .slice none 0 0], .int .i64 1]) (by simp [results, Try.results52, go_sem, z0, z1]) rfl ⟨RF.bad C.out (by rw [L.out]; rfl) L.out, (B1.out.setCell (by show _ ≤ _; simp; omega) _).setCell (by show _ ≤ _; simp; omega) _⟩
  · have hf2 := hf
    rw [Bool.and_eq_true] at hf2
    obtain ⟨hn0, h80, -, -⟩ := frB_ok hf2.1
    obtain ⟨hn1, h81, -, -⟩ := frB_ok hf2.2
    have hn00 : 0 ≤ n0 := by omega
    have hn08 : n0 ≤ 8 := by omega
    have hn10 : 0 ≤ n1 := by omega
    have hn18 : n1 ≤ 8 := by omega
    have F := Lib.hid hf
    clear hf2 hn0 hn1
    by_cases h8 : 8 < n0 + n1
    · have C := Lib.hid (smC_3 hf h8)
      have L := Lib.hid (show smL n0 xs n1 ys = [] by rw [smL, C.out]; rfl)
      clear hf
      go_enter Try.func52, Try.ntmps52
      go_wp2_with fail
      rw [← HW.out, ← HV.out]
      refine (AF.out hl0 hl1).mono ?_
      rw [F.out]
      rintro e w1 ⟨rfl, hb⟩
      have B1 := Lib.hid (BV.out.trans (hb.mono BV.out.size))
      obtain ⟨lt, z0, z1, z2, z3⟩ := ZV.out.keep hb
      obtain ⟨lt, x0, x0'⟩ := X0V.out.keep hb
      obtain ⟨lt, x1, x1'⟩ := X1V.out.keep hb
      clear hb
      go_wp2
      exact bodyPost_ret (v := .tuple #[.agg #[.int .i64 0, .slice none 0 0], .int .i64 3]) (by simp [results, Try.results52, go_sem, z0, z1]) rfl ⟨RF.bad C.out (by rw [L.out]; rfl) L.out, (B1.out.setCell (by show _ ≤ _; simp; omega) _).setCell (by show _ ≤ _; simp; omega) _⟩
    · have C := Lib.hid (smC_0 hf h8)
      have L := Lib.hid (show smL n0 xs n1 ys = smTo xs ys n0 ys.length by rw [smL, C.out]; rfl)
      clear hf
      go_enter Try.func52, Try.ntmps52
      go_wp2_with fail
      rw [← HW.out, ← HV.out]
      refine (AF.out hl0 hl1).mono ?_
      rw [F.out]
      rintro e w1 ⟨rfl, hb⟩
      have B1 := Lib.hid (BV.out.trans (hb.mono BV.out.size))
      have Z1 := Lib.hid (ZV.out.keep hb)
      have H01 := Lib.hid (H0.out.keep hb (Nat.le_refl _))
      have H11 := Lib.hid (H1.out.keep hb (Nat.le_refl _))
      have X01 := Lib.hid (X0V.out.keep hb)
      have X11 := Lib.hid (X1V.out.keep hb)
      obtain ⟨lt, x0, x0'⟩ := X01.out
      obtain ⟨lt', x1, x1'⟩ := X11.out
      have hz1 := hb.size
      clear hb
      go_wp2_with fail
      clear x0 x0' x1 x1'
      refine (plusF_any n0 n1 xs ys _ _ _ _ _ hn00 hn08 h80 h81 H01.out H11.out).mono ?_
      rintro e w3 ⟨v3, rfl, ho, hb⟩
      obtain ⟨a5, k5, rfl⟩ := ho.form
      obtain ⟨lt, z0, z1, z2, z3⟩ := Z1.out.keep hb
      have B6 := Lib.hid (B1.out.trans (hb.mono B1.out.size))
      have O6 := Lib.hid ho
      clear hb ho
      go_wp2
      exact bodyPost_ret (v := .tuple #[.agg #[.int .i64 (smTo xs ys n0 ys.length).length, .slice a5 (smTo xs ys n0 ys.length).length k5], .int .i64 0]) (by simp [results, Try.results52, go_sem, z0, z1]) rfl ⟨RF.good C.out (by rw [L.out]) L.out (O6.out.out2 (by omega)) (by omega), (B6.out.setCell (by show _ ≤ _; simp; omega) _).setCell (by show _ ≤ _; simp; omega) _⟩

theorem SumFrames_len (n0 : Int) (x0 : List Int) (n1 : Int) (x1 : List Int) : (smL n0 x0 n1 x1).length ≤ 1048576 := by
  unfold smL
  split
  · rename_i h
    unfold smC at h
    cases hf : (frB n0 x0 && frB n1 x1)
    · rw [hf] at h; cases h
    · rw [Bool.and_eq_true] at hf
      obtain ⟨-, h1, -, -⟩ := frB_ok hf.1
      obtain ⟨-, h2, -, -⟩ := frB_ok hf.2
      rw [smTo_len]; omega
  · simp
theorem specSumFrames_v (n0 : Int) (x0 : List Int) (n1 : Int) (x1 : List Int) (v0 : Value) (lo0 hi0 : Nat) (v1 : Value) (lo1 hi1 : Nat) (w : World) (hl0 : x0.length ≤ 1048576) (hl1 : x1.length ≤ 1048576) (h0 : InF w lo0 hi0 v0 n0 x0) (h1 : InF w lo1 hi1 v1 n1 x1) :
    Calls Try.prog 50 #[v0, v1] w fun e w' => ∃ v, e = .returned (.tuple #[v, .int .i64 (smC n0 x0 n1 x1)]) ∧ OwnF w' w.heap.size v (smL n0 x0 n1 x1).length (smL n0 x0 n1 x1) ∧ Below w.heap.size w w' := by
  obtain ⟨a, cap, rfl, hat, hn⟩ := h0.at
  obtain ⟨a', cap', rfl, hat', -⟩ := h1.at
  exact (specSumFrames_any n0 n1 x0 x1 a a' _ cap _ cap' w hl0 hl1 hat hat' hn).mono fun e w' ⟨⟨v, e1, o⟩, b⟩ => ⟨v, e1, o, b⟩
theorem implSumFrames_v (n0 : Int) (x0 : List Int) (n1 : Int) (x1 : List Int) (v0 : Value) (lo0 hi0 : Nat) (v1 : Value) (lo1 hi1 : Nat) (w : World) (hl0 : x0.length ≤ 1048576) (hl1 : x1.length ≤ 1048576) (h0 : InF w lo0 hi0 v0 n0 x0) (h1 : InF w lo1 hi1 v1 n1 x1) :
    Calls Try.prog 52 #[v0, v1] w fun e w' => ∃ v, e = .returned (.tuple #[v, .int .i64 (smC n0 x0 n1 x1)]) ∧ OwnF w' w.heap.size v (smL n0 x0 n1 x1).length (smL n0 x0 n1 x1) ∧ Below w.heap.size w w' := by
  obtain ⟨a, cap, rfl, hat, -⟩ := h0.at
  obtain ⟨a', cap', rfl, hat', -⟩ := h1.at
  exact (implSumFrames_any n0 n1 x0 x1 a a' _ cap _ cap' w hl0 hl1 hat hat').mono fun e w' ⟨⟨v, e1, o⟩, b⟩ => ⟨v, e1, o, b⟩

end Go.Proofs.Ythopleeehbkjaaa
