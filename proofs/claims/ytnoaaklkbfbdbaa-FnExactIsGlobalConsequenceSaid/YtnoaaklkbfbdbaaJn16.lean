/- 3 texts in one: LcA, RwS, RwT. -/
import Derived.Test.YtnoaaklkbfbdbaaVaS
import Derived.Test.YtnoaaklkbfbdbaaRwP
import Derived.Test.YtnoaaklkbfbdbaaJn12
import Derived.Test.YtnoaaklkbfbdbaaJn13
import Derived.Test.YtnoaaklkbfbdbaaVarS
import Derived.Test.YtnoaaklkbfbdbaaJn14
/- Variables and checks of a list of formulas, told by the whole list: what the program's search over models wants. Conditions: those in the theorems. -/
namespace Go.Proofs.Ytnoaaklkbfbdbaa
open Go.RowKit

theorem getA {xs ys : List Nd} {j : Nat} (h : j < xs.length) : (xs ++ ys)[j]? = xs[j]? := List.getElem?_append_left h
theorem getB {xs ys : List Nd} (j : Nat) : (xs ++ ys)[xs.length + j]? = ys[j]? := by rw [List.getElem?_append_right (by omega)]; congr 1; omega
theorem kdA {xs ys : List Nd} {j : Nat} (h : j < xs.length) : kd (xs ++ ys) j = kd xs j := by simp only [kd, List.getD_eq_getElem?_getD, getA h]
theorem syA {xs ys : List Nd} {j : Nat} (h : j < xs.length) : sy (xs ++ ys) j = sy xs j := by simp only [sy, List.getD_eq_getElem?_getD, getA h]
theorem kdB (xs ys : List Nd) (j : Nat) : kd (xs ++ ys) (xs.length + j) = kd ys j := by simp only [kd, List.getD_eq_getElem?_getD, getB j]
theorem syB (xs ys : List Nd) (j : Nat) : sy (xs ++ ys) (xs.length + j) = sy ys j := by simp only [sy, List.getD_eq_getElem?_getD, getB j]
theorem mkToA {xs ys : List Nd} : ∀ {k : Nat}, k ≤ xs.length → mkTo (xs ++ ys) k = mkTo xs k
  | 0, _ => rfl
  | k + 1, h => by rw [mkTo, mkTo, kdA (by omega), syA (by omega), mkToA (by omega)]
theorem mkToB {xs ys : List Nd} : ∀ k, mkTo (xs ++ ys) (xs.length + k) = mkTo xs xs.length ||| mkTo ys k
  | 0 => by rw [Nat.add_zero, mkToA (Nat.le_refl _)]; simp [mkTo]
  | k + 1 => by
    rw [← Nat.add_assoc, mkTo, mkTo, kdB, syB, mkToB k]
    split
    · rw [Nat.or_assoc]
    · rfl
theorem treeToA {xs ys : List Nd} : ∀ {k : Nat}, k ≤ xs.length → treeTo (xs ++ ys) k = treeTo xs k
  | 0, _ => rfl
  | k + 1, h => by rw [treeTo, treeTo, kdA (by omega), syA (by omega), treeToA (by omega)]
theorem treeToB {xs ys : List Nd} : ∀ k, treeTo (xs ++ ys) (xs.length + k) = (treeTo xs xs.length && treeTo ys k)
  | 0 => by rw [Nat.add_zero, treeToA (Nat.le_refl _)]; simp [treeTo]
  | k + 1 => by rw [← Nat.add_assoc, treeTo, treeTo, kdB, syB, treeToB k, Bool.and_assoc]
theorem mkL_cat (xss : List (List Nd)) : ∀ l, mkL xss l = mkTo (catTo xss l) (catTo xss l).length
  | 0 => rfl
  | l + 1 => by rw [mkL, catTo, List.length_append, mkToB, mkL_cat xss l]
theorem tree_cat {xss : List (List Nd)} {l : Nat} (h : okAll xss l = true) : ∀ k, k ≤ l → treeTo (catTo xss k) (catTo xss k).length = true
  | 0, _ => rfl
  | k + 1, hk => by
    rw [catTo, List.length_append, treeToB, tree_cat h k (by omega), (is_tree (okAll_at h (by omega : k < l))).1]
    rfl
/-- The variables of a list of formulas. -/
def vrM (xss : List (List Nd)) (l : Nat) : List Int := memTo (mkL xss l) 30
theorem vrM_vs {xss : List (List Nd)} {l : Nat} (h : okAll xss l = true) : Vs (vrM xss l) := mem_vs (mkL_lt h l (Nat.le_refl _))
theorem viL (xss : List (List Nd)) (p : Option Addr) (l c : Nat) (w : World) (hl : l ≤ 2097152) (hs : szTo xss l ≤ 4194304) (h0 : 0 < l) (hok : okAll xss l = true) (h : AtNN w p l xss) : ∀ w1, Below w.heap.size w w1 →
    Calls Try.prog 83 #[.slice p l c] w1 fun e w' => ∃ v, e = .returned v ∧ Own w' w1.heap.size v (vrM xss l) ∧ Below w1.heap.size w1 w' := by
  intro w1 hw
  have := variablesIn_any2 xss p l c w1 hl hs (fun j hj => (is_pos' (okAll_at hok hj)).1) h0 (tree_cat hok l (Nat.le_refl _)) (h.keep hw (Nat.le_refl _))
  rw [← mkL_cat] at this
  exact this
theorem afL (xss : List (List Nd)) (p : Option Addr) (l c : Nat) (w : World) (hl : l ≤ 2097152) (hi : ∀ j, j < l → (nthL xss j).length ≤ 1048576) (h : AtNN w p l xss) : ∀ w1, Below w.heap.size w w1 →
    Calls Try.prog 82 #[.slice p l c] w1 fun e w' => e = .returned (.bool (okAll xss l)) ∧ Below w1.heap.size w1 w' := by
  intro w1 hw
  exact areF_any xss p l c w1 (by omega) hi (h.keep hw (Nat.le_refl _))

end Go.Proofs.Ytnoaaklkbfbdbaa

/- The model's errors of a search, and what it answers for the worlds that refute a formula. Conditions: those in the theorems. -/
namespace Go.Proofs.Ytnoaaklkbfbdbaa
open Go.RowKit

theorem l06Fits_any (n : Int) (xss : List (List Nd)) (a : Option Addr) (len cap : Nat) (p : Option Addr) (l c : Nat) (w : World) (hn0 : 0 ≤ n) (hn8 : n ≤ 8) (hl : l ≤ 2097152) (hok : okAll xss l = true) (h : AtNN w p l xss) :
    Calls Try.prog 76 #[.agg #[.int .i64 n, .slice a len cap], .slice p l c] w fun e w' => e = .returned (.bool (decide (n * (memTo (mkL xss l) 30).length ≤ 16))) ∧ Below w.heap.size w w' := by
  obtain ⟨W, hW, HB, X⟩ : ∃ W : World, W = w.alloc (.cells #[.int .i64 n, .slice a len cap] 30) ∧ Hid (Below w.heap.size w W) ∧ Hid (Bx W w.heap.size n a len cap) := ⟨_, rfl, Lib.hid (alloc_keep _ _).1, Lib.hid (Bx.new _ _ _ _ _ _)⟩
  have LV := Lib.hid (fun w' (hw : Below W.heap.size W w') => l06Variables_any xss p l c w' hl hok ((h.keep HB.out (Nat.le_refl _)).keep hw (Nat.le_refl _)))
  have HW := Lib.hid hW
  have v6 := (mem_vs (mkL_lt hok l (Nat.le_refl _))).l6
  obtain ⟨N, hN⟩ : ∃ N : Nat, N = n.toNat := ⟨_, rfl⟩
  have hNn : n = (N : Int) := by omega
  obtain ⟨k, hk⟩ : ∃ k, k = (memTo (mkL xss l) 30).length := ⟨_, rfl⟩
  obtain ⟨m, hm⟩ : ∃ m, m = N * k := ⟨_, rfl⟩
  have hmm : n * (k : Int) = (m : Int) := by rw [hm, hNn]; simp
  have hm48 : m ≤ 48 := by rw [hm]; exact Nat.mul_le_mul (show N ≤ 8 by omega) (show k ≤ 6 by omega)
  have hwm : IntKind.i64.wrap (n * (k : Int)) = n * (k : Int) := by rw [hmm, IntKind.wrap_i64]; omega
  have KK := Lib.hid hk
  rw [← hk]
  clear h hW hok hk hm hN hNn hmm v6
  obtain ⟨lt, x0, x1⟩ := X.out
  go_enter Try.func76, Try.ntmps76
  go_wp2
  rw [← HW.out]
  go_region_with (go_at_call 87; refine (LV.out _ (by first | exact Below.refl _ _ | exact (Below.refl _ _).drew)).mono ?_; rintro e w3 ⟨v3, rfl, ho, hb3⟩; obtain ⟨a3, k3, e3, -⟩ := ho.at; rw [← KK.out] at e3; subst e3; have T3 := Lib.hid (below_of_drew hb3); clear ho hb3; obtain ⟨lz, z0, z1⟩ := X.out.keep T3.out)
  all_goals
    go_wp2
    go_ret
    exact ⟨ret_bool rfl, HB.out.trans (T3.out.mono HB.out.size)⟩

set_option maxHeartbeats 2000000 in
theorem l06Code_any (n : Int) (xs : List Int) (xss : List (List Nd)) (a : Option Addr) (cap : Nat) (p : Option Addr) (l c : Nat) (w : World) (hl0 : xs.length ≤ 1048576) (hl : l ≤ 2097152) (hi : ∀ j, j < l → (nthL xss j).length ≤ 1048576) (hx : At w a xs.length xs) (h : AtNN w p l xss) :
    Calls Try.prog 36 #[.agg #[.int .i64 n, .slice a xs.length cap], .slice p l c] w fun e w' => e = .returned (.int .i64 (csC n xs (okAll xss l) (memTo (mkL xss l) 30).length)) ∧ Below w.heap.size w w' := by
  obtain ⟨W, hW, HB, X⟩ : ∃ W : World, W = w.alloc (.cells #[.int .i64 n, .slice a xs.length cap] 30) ∧ Hid (Below w.heap.size w W) ∧ Hid (Bx W w.heap.size n a xs.length cap) := ⟨_, rfl, Lib.hid (alloc_keep _ _).1, Lib.hid (Bx.new _ _ _ _ _ _)⟩
  have IS := Lib.hid (l05Is_any n xs a xs.length cap W hl0 (hx.keep HB.out (Nat.le_refl _)))
  have H := Lib.hid (h.keep HB.out (Nat.le_refl _))
  have HI := Lib.hid hi
  have HW := Lib.hid hW
  clear h hx hW hi
  obtain ⟨lt, x0, x1⟩ := X.out
  cases hf : frB n xs
  · have F := Lib.hid hf
    have C := Lib.hid (show csC n xs (okAll xss l) (memTo (mkL xss l) 30).length = 1 by rw [csC, hf]; rfl)
    clear hf
    go_enter Try.func36, Try.ntmps36
    go_wp2_with fail
    rw [← HW.out]
    refine IS.out.mono ?_
    rw [F.out]
    rintro e w1 ⟨rfl, hb⟩
    have T := Lib.hid (HB.out.trans (hb.mono HB.out.size))
    clear hb lt x0 x1
    go_wp2
    go_ret
    exact ⟨ret_int C.out.symm, T.out⟩
  · have F := Lib.hid hf
    obtain ⟨hn, h8, -, -⟩ := frB_ok hf
    have hn0 : 0 ≤ n := by omega
    have hn8 : n ≤ 8 := by omega
    clear hn h8
    go_enter Try.func36, Try.ntmps36
    go_wp2_with fail
    rw [← HW.out]
    refine IS.out.mono ?_
    rw [F.out]
    rintro e w1 ⟨rfl, hb⟩
    have T := Lib.hid hb
    clear hb lt x0 x1
    go_wp2
    go_loop [5] (fun i => ∃ j : Nat, j ≤ l ∧ i = .int .i64 j ∧ Hid (okAll xss j = true)) (fun i => l - (intOf i).toNat)
    case atStart => exact ⟨0, Nat.zero_le _, rfl, Lib.hid rfl⟩
    case round =>
      obtain ⟨j, hj, rfl, O⟩ := hrel
      by_cases hlt : j < l
      · obtain ⟨b, o, rfl, hb, hc⟩ := (H.out.keep T.out (Nat.le_refl _)).2.resolve_left (by omega)
        obtain ⟨a2, c2, g, hz⟩ := hc j hlt
        have hz2 := HI.out j hlt
        cases hbj : isB (nthL xss j) (nthL xss j).length
        · have NO := Lib.hid (okAll_bad hlt hbj)
          have IJ := Lib.hid (by have q := l02Is_any (nthL xss j) a2 _ c2 w1 hz2 hz; rw [hbj] at q; exact q)
          have C := Lib.hid (show csC n xs (okAll xss l) (memTo (mkL xss l) 30).length = 1 by rw [csC, hf, NO.out]; rfl)
          clear hc hz hbj hz2 hf
          go_wp2_with (go_at_call 67; refine IJ.out.mono ?_; rintro e w' ⟨rfl, rfl⟩)
          go_ret
          exact ⟨ret_int C.out.symm, HB.out.trans (T.out.mono HB.out.size)⟩
        · have YES := Lib.hid (okAll_succ O.out hbj)
          have IJ := Lib.hid (by have q := l02Is_any (nthL xss j) a2 _ c2 w1 hz2 hz; rw [hbj] at q; exact q)
          clear hc hz hbj hz2 hf
          go_wp2_with (go_at_call 67; refine IJ.out.mono ?_; rintro e w' ⟨rfl, rfl⟩)
          go_round
          case rel => exact ⟨j + 1, hlt, by go_num, YES⟩
          case measure => simp [intOf]; omega
      · obtain rfl : j = l := by omega
        obtain ⟨lt, x0, x1⟩ := X.out.keep T.out
        have FI := Lib.hid (l06Fits_any n xss a xs.length cap p j c w1 hn0 hn8 hl O.out (H.out.keep T.out (Nat.le_refl _)))
        by_cases h16 : n * (memTo (mkL xss j) 30).length ≤ 16
        · have C := Lib.hid (show csC n xs (okAll xss j) (memTo (mkL xss j) 30).length = 0 by rw [csC, hf, O.out, show (true && true) = true from rfl, if_pos rfl, if_neg (by omega)])
          have D := Lib.hid (decide_eq_true h16)
          clear hf h16
          go_wp2_with fail
          refine FI.out.mono ?_
          rw [D.out]
          rintro e w2 ⟨rfl, hb⟩
          have T2 := Lib.hid (T.out.trans (hb.mono T.out.size))
          clear hb lt x0 x1
          go_wp2
          go_ret
          exact ⟨ret_int C.out.symm, HB.out.trans (T2.out.mono HB.out.size)⟩
        · have C := Lib.hid (show csC n xs (okAll xss j) (memTo (mkL xss j) 30).length = 3 by rw [csC, hf, O.out, show (true && true) = true from rfl, if_pos rfl, if_pos (by omega)])
          have D := Lib.hid (decide_eq_false h16)
          clear hf h16
          go_wp2_with fail
          refine FI.out.mono ?_
          rw [D.out]
          rintro e w2 ⟨rfl, hb⟩
          have T2 := Lib.hid (T.out.trans (hb.mono T.out.size))
          clear hb lt x0 x1
          go_wp2
          go_ret
          exact ⟨ret_int C.out.symm, HB.out.trans (T2.out.mono HB.out.size)⟩

theorem mkL_1 (zs : List Nd) : mkL [zs] 1 = mkTo zs zs.length := by
  show 0 ||| mkTo (nthL [zs] 0) (nthL [zs] 0).length = _
  rw [Nat.zero_or]; rfl

end Go.Proofs.Ytnoaaklkbfbdbaa

/- What the model answers for the worlds that refute a formula. Conditions: those in the theorems. -/
namespace Go.Proofs.Ytnoaaklkbfbdbaa
open Go.RowKit

/-- What the region leaves: a model in a box, and its values. -/
def PrX (W w : World) (b n : Nat) (a : Option Addr) (len c : Nat) (a' : Option Addr) (c' : Nat) (ys : List Int) : Prop := Below W.heap.size W w ∧ Bm w b n a len c a' 6 c' ∧ At w a' 6 ys
theorem PrX.late {W wC : World} {n : Nat} {a a' : Option Addr} {len c c' B : Nat} {ys : List Int} (hW : W.heap.size ≤ wC.heap.size) (t : Below W.heap.size W wC) (h6 : ys.length = 6) (ho : Own wC B (.slice a' 6 c') ys) :
    PrX W (wC.alloc (.cells #[.int .i64 n, .slice a len c, .slice a' 6 c'] 65)) wC.heap.size n a len c a' c' ys := by
  obtain ⟨a2, c2, e2, h2, -⟩ := ho.at
  rw [h6] at e2 h2
  cases e2
  exact ⟨t.alloc hW _, Bm.new _ _ _ _ _ _ _ _ _, h2.keep (alloc_keep _ _).1 (Nat.le_refl _)⟩
theorem PrX.early {W wC : World} {n : Nat} {a a' : Option Addr} {len c c' k lo : Nat} {ys : List Int} (hk : W.heap.size ≤ k) (hkl : k < lo) (t : Below W.heap.size W wC) (z : BzM wC k) (h6 : ys.length = 6) (ho : Own wC lo (.slice a' 6 c') ys) :
    PrX W (((wC.setCell ⟨k, 0, none⟩ (.int .i64 n)).setCell ⟨k, 1, none⟩ (.slice a len c)).setCell ⟨k, 2, none⟩ (.slice a' 6 c')) k n a len c a' c' ys := by
  obtain ⟨a2, c2, e2, h2, -, -, h3⟩ := ho.at
  rw [h6] at e2 h2
  cases e2
  have hne : ∀ p, a' = some p → p.block ≠ k := fun p hp e => by have := (h3 p hp).1; omega
  obtain ⟨z1, z2, z3, z4, -, -, -⟩ := z.all
  have e3 : (wC.setCell ⟨k, 0, none⟩ (.int .i64 n)).cell? ⟨k, 1, none⟩ = some (.slice none 0 0) := by rw [cell_set' _ _ _ _ _ (by decide)]; exact z3
  have e4 : ((wC.setCell ⟨k, 0, none⟩ (.int .i64 n)).setCell ⟨k, 1, none⟩ (.slice a len c)).cell? ⟨k, 2, none⟩ = some (.slice none 0 0) := by rw [cell_set' _ _ _ _ _ (by decide), cell_set' _ _ _ _ _ (by decide)]; exact z4
  refine ⟨((t.setCell (by exact hk) _).setCell (by exact hk) _).setCell (by exact hk) _, ⟨by simpa [World.setCell] using z1, ?_, ?_, cell_set _ _ _ _ e4⟩, at_setO (at_setO (at_setO h2 hne) hne) hne⟩
  · rw [cell_set' _ _ _ _ _ (by decide), cell_set' _ _ _ _ _ (by decide)]; exact cell_set _ _ _ _ z2
  · rw [cell_set' _ _ _ _ _ (by decide)]; exact cell_set _ _ _ _ e3

theorem one_16 {m : Nat} (h : m ≤ 16) : one (m : Int) = ((2 ^ m : Nat) : Int) := by rw [one, Int.toNat_natCast]; exact pw_16 h

set_option maxHeartbeats 4000000 in
set_option maxRecDepth 100000 in
theorem specRefutingWorlds_v (n0 : Int) (xs : List Int) (zs : List Nd) (v0 : Value) (lo0 hi0 : Nat) (v1 : Value) (lo1 hi1 : Nat) (w : World) (hl0 : xs.length ≤ 1048576) (hl1 : zs.length ≤ 1048576) (h0 : InF w lo0 hi0 v0 n0 xs) (h1 : InN w lo1 hi1 v1 zs) :
    Calls Try.prog 10 #[v0, v1] w fun e w' => e = .returned (.tuple #[.int .i64 (rwV n0 xs zs), .int .i64 (rwC n0 xs zs)]) ∧ Below w.heap.size w w' := by
  obtain ⟨a0, c0, rfl, hat0, -⟩ := h0.at
  obtain ⟨a1, c1, rfl, hn, hc1, hc2⟩ := h1.at'
  obtain ⟨W, hW, HB, X, HS⟩ : ∃ W : World, W = w.alloc (.cells #[.int .i64 n0, .slice a0 xs.length c0] 30) ∧ Hid (Below w.heap.size w W) ∧ Hid (Bx W w.heap.size n0 a0 xs.length c0) ∧ Hid (W.heap.size = w.heap.size + 1) := ⟨_, rfl, Lib.hid (alloc_keep _ _).1, Lib.hid (Bx.new _ _ _ _ _ _), Lib.hid (by simp)⟩
  have H0 := Lib.hid (hat0.keep HB.out (Nat.le_refl _))
  have H1 := Lib.hid (hn.keep HB.out (Nat.le_refl _))
  have HW := Lib.hid hW
  obtain ⟨lt0, x0, x1⟩ := X.out
  have CSX := Lib.hid (fun (C : Nat) (hC : C = W.heap.size) => show Calls Try.prog 36 #[.agg #[.int .i64 n0, .slice a0 xs.length c0], .slice (some ⟨C, 0, none⟩) 1 1] (W.alloc (.cells #[.slice a1 zs.length c1] 32)) fun e w' => e = .returned (.int .i64 (csC n0 xs (isB zs zs.length) (vrL zs).length)) ∧ Below (W.alloc (.cells #[.slice a1 zs.length c1] 32)).heap.size (W.alloc (.cells #[.slice a1 zs.length c1] 32)) w' by
    have q := l06Code_any n0 xs [zs] a0 c0 (some ⟨C, 0, none⟩) 1 1 (W.alloc (.cells #[.slice a1 zs.length c1] 32)) hl0 (by omega) (nthL_le1 hl1) (H0.out.keep (alloc_keep _ _).1 (Nat.le_refl _)) (lay1 H1.out 32 hC)
    rw [okAll_1, mkL_1] at q
    exact q)
  clear h0 h1 hat0 hn hW
  by_cases hz : rwC n0 xs zs = 0
  · have Z := Lib.hid (show csC n0 xs (isB zs zs.length) (vrL zs).length = 0 from hz)
    have HZ := Lib.hid hz
    obtain ⟨hf, hb', h16⟩ := csC_ok Z.out
    have ISB := Lib.hid hb'
    obtain ⟨b1, o1, ea1, hf1⟩ := (show ∃ b off, a1 = some ⟨b, off, none⟩ ∧ AtF W b off zs.length c1 (toFm zs) from AtN.fm' H1.out hc1 hc2 ISB.out)
    subst ea1
    have HF := Lib.hid hf1
    have VV := Lib.hid (vr_vs hb')
    obtain ⟨hn0, h8, -, hr⟩ := frB_ok hf
    have REL := Lib.hid hr
    have H16 := Lib.hid h16
    have H8 := Lib.hid h8
    subst hn0
    clear hf hb' hr hz h16 h8 hf1
    go_enter Try.func10, Try.ntmps10
    go_wp2_with fail
    rw [← HW.out]
    refine (CSX.out _ HS.out.symm).mono ?_
    rw [Z.out]
    rintro e w2 ⟨rfl, hb⟩
    have T2 := Lib.hid ((alloc_keep W _).1.trans (hb.mono (alloc_keep W _).1.size))
    clear hb x0 x1 lt0
    obtain ⟨lt0, x0, x1⟩ := X.out.keep T2.out
    go_wp2_with fail
    refine (l02Variables_any zs _ zs.length c1 w2 (is_tree ISB.out).2 (is_tree ISB.out).1 (H1.out.keep T2.out (Nat.le_refl _))).mono ?_
    rintro e w3 ⟨v3, rfl, ho, hb⟩
    obtain ⟨av, cv, rfl, hav, -⟩ := ho.at
    have AV := Lib.hid hav
    have T3 := Lib.hid (T2.out.trans (hb.mono T2.out.size))
    clear hb ho hav x0 x1 lt0
    rw [show memTo (mkTo zs zs.length) 30 = vrL zs from rfl] at AV ⊢
    obtain ⟨n, hn⟩ : ∃ n, n = xs.length := ⟨_, rfl⟩
    obtain ⟨c, hc⟩ : ∃ c, c = (vrL zs).length := ⟨_, rfl⟩
    have NN := Lib.hid hn
    have CC := Lib.hid hc
    obtain ⟨M, hM⟩ : ∃ M : Nat, M = n * c := ⟨_, rfl⟩
    have hM16 : M ≤ 16 := by have := H16.out; rw [← hn, ← hc] at this; rw [hM]; exact_mod_cast this
    have hM' : (n : Int) * (c : Int) = (M : Int) := by rw [hM]; simp
    have hwm : IntKind.i64.wrap ((n : Int) * (c : Int)) = (M : Int) := by rw [hM', IntKind.wrap_i64]; omega
    obtain ⟨N, hN⟩ : ∃ N : Nat, N = 2 ^ M := ⟨_, rfl⟩
    have hN16 : N ≤ 65536 := by rw [hN]; exact Nat.pow_le_pow_right (show 0 < 2 by omega) hM16
    have ONE := Lib.hid (fun w' => show Calls Try.prog 38 #[.int .i64 (M : Int)] w' fun e w'' => e = .returned (.int .i64 (N : Int)) ∧ w' = w'' by
      have q := l01One_any (M : Int) w' (by omega) (by omega)
      rw [one_16 hM16, ← hN] at q
      exact q)
    have RWV := Lib.hid (show ∀ z, rwF xs zs N = z → rwV (xs.length : Int) xs zs = z from fun z h => by rw [rwV, if_pos HZ.out, ← h, hN, hM, hn, hc])
    have X' := Lib.hid (X.out.keep T3.out)
    have n8 : n ≤ 8 := by have := H8.out; omega
    have c6 : c ≤ 6 := by have := VV.out.l6; omega
    rw [← hn] at X' H0 ⊢
    rw [← hc]
    have HN := Lib.hid hN
    have HC := Lib.hid HZ.out
    clear hn hc hM hM' hN X
    have n0 : 0 ≤ (n : Int) := by omega
    have n30 : (n : Int) ≤ 30 := by omega
    go_wp2
    go_loopg [8, 9] (N + 1) (fun g o i wr => ∃ k : Nat, k ≤ N ∧ i = .int .i64 k ∧ o = .int .i64 (rwF xs zs k) ∧ N < k + g ∧ Hid (Below w3.heap.size w3 wr))
    case atStart => exact ⟨0, Nat.zero_le _, rfl, rfl, by omega, Lib.hid (Below.refl _ _)⟩
    case round =>
      obtain ⟨k, hk, rfl, rfl, hg, B⟩ := hrel
      by_cases hlt : k < N
      · obtain ⟨lt0, x0, x1⟩ := X'.out.keep B.out
        have LV := Lib.hid (fun w' (hw : Below wr.heap.size wr w') => show Calls Try.prog 39 #[.agg #[.int .i64 n, .slice a0 n c0], .slice av c cv, .int .i64 k] w' fun e w'' => ∃ v, e = .returned v ∧ Own w'' w'.heap.size v (vlL n (vrL zs) k) ∧ Below w'.heap.size w' w'' by
          have q := l06Values_any n k (vrL zs) a0 n c0 av cv w' n8 VV.out (by omega) ((AV.out.keep B.out (Nat.le_refl _)).keep hw (Nat.le_refl _))
          rw [← CC.out] at q
          exact q)
        have LN := Lib.hid (vlL_len n (vrL zs) k)
        obtain ⟨ys, hy⟩ : ∃ ys, ys = vlL n (vrL zs) k := ⟨_, rfl⟩
        have HY := Lib.hid hy
        rw [← hy] at LV LN
        clear hy
        go_wp2_with (go_at_call 38; refine (ONE.out _).mono ?_; rintro e w' ⟨rfl, rfl⟩)
        go_cut [10] (fun s wx => ∃ (b : Nat) (a' : Option Addr) (c' : Nat), s = .pointer (some ⟨b, 0, none⟩) ∧ Hid (PrX wr wx b n a0 n c0 a' c' ys))
        case first =>
          go_region_held3 (fun w' => w'.cell? ⟨w.heap.size, 0, none⟩ = some (.int .i64 n) ∧ w'.cell? ⟨w.heap.size, 1, none⟩ = some (.slice a0 n c0)) (first | exact ⟨y0, y1⟩ | exact ⟨x0, x1⟩ | exact ⟨three_set y0 (by omega), three_set y1 (by omega)⟩ | go_keep | (refine ⟨?_, ?_⟩ <;> simp [*])) (first | (go_at_call 39; refine (LV.out _ (Below.refl _ _).drew).mono ?_; rintro e w4 ⟨v4, rfl, ho, hb⟩; have O4 := Lib.hid ho; obtain ⟨a4, c4, e4, -⟩ := ho.at; rw [LN.out] at e4; subst e4; have T4 := Lib.hid (show Below wr.heap.size wr w4 from below_of_drew hb); have zC := Lib.hid (ZoM.no w4 wr); have sC := T4.out.size; clear ho hb; obtain ⟨ly, y0, y1⟩ := X'.out.keep (B.out.trans (T4.out.mono B.out.size))) | (go_at_call 39; refine (LV.out _ ((Below.refl wr.heap.size wr).drew.alloc (Nat.le_refl _) _)).mono ?_; rintro e w4 ⟨v4, rfl, ho, hb⟩; have O4 := Lib.hid ho; obtain ⟨a4, c4, e4, -⟩ := ho.at; rw [LN.out] at e4; subst e4; have T4 := Lib.hid (show Below wr.heap.size wr w4 from below_of_drew (below_al (Nat.le_refl _) hb)); have zC := Lib.hid (show ZoM w4 wr (some wr.heap.size) from ZoM.new (W := wr) (w := wr.drew) (Nat.le_refl _) hb); have sC := T4.out.size; have sC2 : wr.heap.size + 1 ≤ w4.heap.size := (by have q := hb.size; simpa using q); clear ho hb; obtain ⟨zl, z0, z1, z2, z3, z4, z5⟩ := (zC.out _ rfl).1.all; obtain ⟨ly, y0, y1⟩ := X'.out.keep (B.out.trans (T4.out.mono B.out.size))))
          all_goals (try go_wp2_with fail)
          all_goals go_meet
          all_goals first | exact ⟨_, _, _, rfl, Lib.hid (PrX.late sC T4.out LN.out O4.out)⟩ | exact ⟨_, _, _, rfl, Lib.hid (PrX.early (Nat.le_refl _) (by simp) T4.out (zC.out _ rfl).1 LN.out O4.out)⟩
        case rest =>
          rename World => wz
          obtain ⟨b, a', c', rfl, P⟩ := hcut
          obtain ⟨hbw, hbm, hat⟩ := P.out
          have P1 := Lib.hid (B.out.trans (hbw.mono B.out.size))
          have BM := Lib.hid hbm
          have MO := Lib.hid (show Mo wz (n : Int) a0 a' xs ys from by
            have hA := H0.out.keep (T3.out.trans (P1.out.mono T3.out.size)) (Nat.le_refl _)
            have h8' : xs.length ≤ 8 := H8.out
            rw [HY.out] at hat ⊢
            rw [NN.out] at hA hat ⊢
            exact ⟨rfl, h8', ⟨(mksTo_iff (by omega) _ _).2 fun i _ => REL.out i, vlL_mks _ (by omega) _ _⟩, vlL_len _ _ _, hA, by rw [vlL_len]; exact hat⟩)
          obtain ⟨y, hy⟩ : ∃ y, y = (toFm zs).tr xs ys := ⟨_, rfl⟩
          have T := Lib.hid (fun w1 (hw : Below wz.heap.size wz w1) => show Calls Try.prog 41 #[.agg #[.int .i64 n, .slice a0 n c0, .slice a' 6 c'], .slice (some ⟨b1, o1, none⟩) zs.length c1] w1 fun e w' => e = .returned (.int .i64 y) ∧ Below w1.heap.size w1 w' by
            have q := l06Truth_any (toFm zs) (toFm_of ISB.out).1 n xs ys a0 c0 a' c' b1 o1 zs.length c1 w1 hl1 (MO.out.keep hw) ((HF.out.keep (T3.out.trans (P1.out.mono T3.out.size)) (Nat.le_refl _)).keep hw (Nat.le_refl _))
            rw [← NN.out, LN.out, ← hy] at q
            exact q)
          have RN := Lib.hid (show bits .or .i64 (rwF xs zs k) (bits .andNot .i64 (full n) y) = rwF xs zs (k + 1) by rw [rwF, ← NN.out, ← HY.out, ← hy])
          obtain ⟨ly, y0, y1⟩ := X'.out.keep P1.out
          obtain ⟨lb, m0, m1, m2⟩ := BM.out
          obtain ⟨m, hm⟩ : ∃ m, m = gk - 1 := ⟨_, rfl⟩
          have m1' : N < k + 1 + m := by omega
          have m2' : m < gk := by omega
          clear hbw hbm hat hy x0 x1 lt0 hm
          go_wp2
          go_region_held3 (fun w' => w'.cell? ⟨w.heap.size, 0, none⟩ = some (.int .i64 n) ∧ w'.cell? ⟨b, 0, none⟩ = some (.int .i64 n) ∧ w'.cell? ⟨b, 1, none⟩ = some (.slice a0 n c0) ∧ w'.cell? ⟨b, 2, none⟩ = some (.slice a' 6 c')) (first | exact ⟨z0, p0, p1, p2⟩ | exact ⟨y0, m0, m1, m2⟩ | go_keep) (first | (go_at_call 41; refine (T.out _ (Below.refl _ _).drew).mono ?_; rintro e w5 ⟨rfl, hb⟩; have T5 := Lib.hid (show Below wz.heap.size wz w5 from below_of_drew hb); clear hb; obtain ⟨lz, z0, z1⟩ := X'.out.keep (P1.out.trans (T5.out.mono P1.out.size)); obtain ⟨lp, p0, p1, p2⟩ := BM.out.keep T5.out) | (go_at_call 40; refine (l01Full_any _ _ n0 n30).mono ?_; rintro e w' ⟨rfl, rfl⟩))
          all_goals
            go_wp2
            go_roundg m
            case measure => exact m2'
            case rel => exact ⟨k + 1, hlt, by go_num, by rw [← RN.out], m1', Lib.hid (P1.out.trans (T5.out.mono P1.out.size))⟩
      · obtain rfl : k = N := by omega
        obtain ⟨lt0, x0, x1⟩ := X'.out.keep B.out
        have R := Lib.hid (show Ending.returned (.tuple #[.int .i64 (rwF xs zs k), .int .i64 0]) = .returned (.tuple #[.int .i64 (rwV (xs.length : Int) xs zs), .int .i64 (rwC (xs.length : Int) xs zs)]) by rw [RWV.out _ rfl, HC.out])
        go_wp2_with (go_at_call 38; refine (ONE.out _).mono ?_; rintro e w' ⟨rfl, rfl⟩)
        go_ret2
        exact ⟨R.out, HB.out.trans ((T3.out.trans (B.out.mono T3.out.size)).mono HB.out.size)⟩
  · obtain ⟨z, hzz⟩ : ∃ z, z = csC n0 xs (isB zs zs.length) (vrL zs).length := ⟨_, rfl⟩
    have hz1 : (z == 0) = false := by rw [hzz]; simpa [rwC] using hz
    have hz2 : (z != 0) = true := by rw [hzz]; simpa [rwC] using hz
    have R := Lib.hid (show Ending.returned (.tuple #[.int .i64 0, .int .i64 z]) = .returned (.tuple #[.int .i64 (rwV n0 xs zs), .int .i64 (rwC n0 xs zs)]) by rw [rwV, if_neg hz, rwC, hzz])
    have ZZ := Lib.hid hzz
    clear hz hzz
    go_enter Try.func10, Try.ntmps10
    go_wp2_with fail
    rw [← HW.out]
    refine (CSX.out _ HS.out.symm).mono ?_
    rw [← ZZ.out]
    rintro e w2 ⟨rfl, hb⟩
    have T2 := Lib.hid (HB.out.trans (((alloc_keep W _).1.trans (hb.mono (alloc_keep W _).1.size)).mono HB.out.size))
    clear hb x0 x1 lt0
    go_wp2
    go_ret2
    exact ⟨R.out, T2.out⟩

end Go.Proofs.Ytnoaaklkbfbdbaa
