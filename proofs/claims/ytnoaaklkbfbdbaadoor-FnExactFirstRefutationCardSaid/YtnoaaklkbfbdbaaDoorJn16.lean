/- 3 texts in one: RwP, RwS, RwT. -/
import Derived.Test.YtnoaaklkbfbdbaaDoorRwI
import Derived.Test.YtnoaaklkbfbdbaaDoorJn14
import Derived.Test.YtnoaaklkbfbdbaaDoorVars2
import Derived.Test.YtnoaaklkbfbdbaaDoorJn08
import Derived.Test.YtnoaaklkbfbdbaaDoorVlS
import Derived.Test.YtnoaaklkbfbdbaaDoorVarS
import Derived.Test.YtnoaaklkbfbdbaaDoorJn13
/- What the program answers for the worlds that refute a formula. Conditions: those in the theorems. -/
namespace Go.Proofs.YtnoaaklkbfbdbaaDoor
open Go.RowKit Go.Shelf

/-- The variables of a formula; the worlds that the first k models refute it at. -/
def vrL (zs : List Nd) : List Int := memTo (mkTo zs zs.length) 30
noncomputable def rwF (xs : List Int) (zs : List Nd) : Nat → Int
  | 0 => 0
  | k + 1 => bits .or .i64 (rwF xs zs k) (bits .andNot .i64 (full xs.length) ((toFm zs).tr xs (vlL xs.length (vrL zs) k)))
def rwC (n : Int) (xs : List Int) (zs : List Nd) : Int := csC n xs (isB zs zs.length) (vrL zs).length
noncomputable def rwV (n : Int) (xs : List Int) (zs : List Nd) : Int := if rwC n xs zs = 0 then rwF xs zs (2 ^ (xs.length * (vrL zs).length)) else 0
theorem vr_vs {zs : List Nd} (h : isB zs zs.length = true) : Vs (vrL zs) := mem_vs (mkTo_lt (is_tree h).1 _ (Nat.le_refl _))
theorem csC_ok {n : Int} {xs : List Int} {ok : Bool} {c : Nat} (h : csC n xs ok c = 0) : frB n xs = true ∧ ok = true ∧ n * c ≤ 16 := by
  unfold csC at h
  cases hf : frB n xs
  · rw [hf] at h; cases h
  · cases ok
    · rw [hf] at h; cases h
    · rw [hf] at h
      refine ⟨rfl, rfl, ?_⟩
      by_cases e : 16 < n * c
      · rw [show (true && true) = true from rfl, if_pos rfl, if_pos e] at h; cases h
      · omega

theorem vi1 (zs : List Nd) (a : Option Addr) (cap : Nat) (w : World) (hz : zs.length ≤ 1048576) (hb : isB zs zs.length = true) (h : AtN w a zs.length zs) (C : Nat) (t : TypeId) (hC : C = w.heap.size) : ∀ w1, Below (w.alloc (.cells #[.slice a zs.length cap] t)).heap.size (w.alloc (.cells #[.slice a zs.length cap] t)) w1 →
    Calls Tryd.prog 42 #[.slice (some ⟨C, 0, none⟩) 1 1] w1 fun e w' => ∃ v, e = .returned v ∧ Own w' w1.heap.size v (vrL zs) ∧ Below w1.heap.size w1 w' := by
  intro w1 hw
  obtain ⟨ht, h40⟩ := is_tree hb
  have hpos := (is_pos' hb).1
  have := variablesIn_any [zs] (some ⟨C, 0, none⟩) 1 1 w1 (by omega) (by show szTo [zs] 1 ≤ _; rw [← catTo_len, cat1]; omega) (fun j hj => by have e : j = 0 := (by omega); subst e; exact hpos) (by omega) (by rw [cat1]; exact ht) ((lay1 h t hC).keep hw (Nat.le_refl _))
  rw [cat1] at this
  exact this
theorem af1 (zs : List Nd) (a : Option Addr) (cap : Nat) (w : World) (hz : zs.length ≤ 1048576) (h : AtN w a zs.length zs) (C : Nat) (t : TypeId) (hC : C = w.heap.size) : ∀ w1, Below (w.alloc (.cells #[.slice a zs.length cap] t)).heap.size (w.alloc (.cells #[.slice a zs.length cap] t)) w1 →
    Calls Tryd.prog 41 #[.slice (some ⟨C, 0, none⟩) 1 1] w1 fun e w' => e = .returned (.bool (isB zs zs.length)) ∧ Below w1.heap.size w1 w' := by
  intro w1 hw
  have := areF_any [zs] (some ⟨C, 0, none⟩) 1 1 w1 (by omega) (nthL_le1 hz) ((lay1 h t hC).keep hw (Nat.le_refl _))
  rw [okAll_1] at this
  exact this

theorem But.drw {D : Nat → Prop} {a b : World} (h : But D a b) : But D a b.drew := ⟨h.os, h.tape, h.output, h.size, h.block⟩
theorem AtN.fm' {w : World} {a : Option Addr} {cap : Nat} {xs : List Nd} (h : AtN w a xs.length xs) (h1 : xs.length ≤ cap) (h2 : cap ≤ maxLen) (hb : isB xs xs.length = true) : ∃ b off, a = some ⟨b, off, none⟩ ∧ AtF w b off xs.length cap (toFm xs) := by
  obtain ⟨f1, f2, f3⟩ := toFm_of hb
  have e : xs.length = (toFm xs).enc.length := by rw [← f2]
  rw [f2] at h
  rw [← e] at h
  exact h.fm h1 h2
theorem atF_but {D : Nat → Prop} {w w' : World} {b off len cap : Nat} {f : Fm} (h : AtF w b off len cap f) (hb : But D w w') (hd : ¬ D b) : AtF w' b off len cap f := by
  refine ⟨⟨h.1.1, ?_⟩, h.2⟩
  rcases h.1.2 with h0 | ⟨c, o, e, hlt, hc⟩
  · exact .inl h0
  · cases e
    refine .inr ⟨b, off, rfl, Nat.lt_of_lt_of_le hlt hb.size, fun j hj => ?_⟩
    exact ⟨hb.cell (p := ⟨b, _, none⟩) (hc j hj).1 hd, hb.cell (p := ⟨b, _, none⟩) (hc j hj).2 hd⟩

theorem at_putO {W : World} {a : Option Addr} {len l : Nat} {xs : List Int} {r : Loop} {o : Obj} (h : At W a len xs) (hl : W.heap[l]? = some (.loop r)) : At (W.putObj l o) a len xs := by
  refine ⟨h.1, ?_⟩
  rcases h.2 with h0 | ⟨c, q, rfl, hb, hc⟩
  · exact .inl h0
  · exact .inr ⟨c, q, rfl, by simpa using hb, fun j hj => cell_kept (hc j hj) (grownBy_putObj' W l o) (fun r' e => by cases e; exact ⟨_, hl, rfl⟩)⟩
theorem bm_putO {W : World} {b l : Nat} {n : Int} {a : Option Addr} {len cap : Nat} {c : Option Addr} {m d : Nat} {r : Loop} {o : Obj} (h : Bm W b n a len cap c m d) (hl : W.heap[l]? = some (.loop r)) : Bm (W.putObj l o) b n a len cap c m d :=
  have k := fun {p : Addr} {v : Value} (hc : W.cell? p = some v) => cell_kept hc (grownBy_putObj' W l o) (fun r' e => by cases e; exact ⟨_, hl, rfl⟩)
  ⟨by simpa using h.1, k h.2.1, k h.2.2.1, k h.2.2.2⟩
theorem boxFN (w : World) (n : Int) (a : Option Addr) (l c : Nat) (a' : Option Addr) (l' c' : Nat) : ∃ W : World, W = (w.alloc (.cells #[.int .i64 n, .slice a l c] 30)).alloc (.cells #[.slice a' l' c'] 32) ∧
    Hid (Below w.heap.size w W) ∧ Hid (Bx W w.heap.size n a l c) ∧ Hid (W.cell? ⟨w.heap.size + 1, 0, none⟩ = some (.slice a' l' c')) ∧ Hid (W.heap.size = w.heap.size + 1 + 1) := by
  refine ⟨_, rfl, Lib.hid (((Below.refl w.heap.size w).alloc (Nat.le_refl _) _).alloc (by simp) _), Lib.hid ((Bx.new w n a l c _).keep (alloc_keep _ _).1), Lib.hid (World.cell?_alloc_at _ _ _ _ (by simp)), Lib.hid (by simp)⟩

attribute [local go_sem] Oper.semAt_some

end Go.Proofs.YtnoaaklkbfbdbaaDoor

/- The model's errors of a search, and what it answers for the worlds that refute a formula. Conditions: those in the theorems. -/
namespace Go.Proofs.YtnoaaklkbfbdbaaDoor
open Go.RowKit

theorem l06Fits_any (n : Int) (xss : List (List Nd)) (a : Option Addr) (len cap : Nat) (p : Option Addr) (l c : Nat) (w : World) (hn0 : 0 ≤ n) (hn8 : n ≤ 8) (hl : l ≤ 2097152) (hok : okAll xss l = true) (h : AtNN w p l xss) :
    Calls Tryd.prog 35 #[.agg #[.int .i64 n, .slice a len cap], .slice p l c] w fun e w' => e = .returned (.bool (decide (n * (memTo (mkL xss l) 30).length ≤ 16))) ∧ Below w.heap.size w w' := by
  obtain ⟨W, hW, HB, X⟩ : ∃ W : World, W = w.alloc (.cells #[.int .i64 n, .slice a len cap] 30) ∧ Hid (Below w.heap.size w W) ∧ Hid (Bx W w.heap.size n a len cap) := ⟨_, rfl, Lib.hid (alloc_keep _ _).1, Lib.hid (Bx.new _ _ _ _ _ _)⟩
  have LV := Lib.hid (fun w' (hw : Below W.heap.size W w') => l06Variables_any xss p l c w' hl hok ((h.keep HB.out (Nat.le_refl _)).keep hw (Nat.le_refl _)))
  have HW := Lib.hid hW
  have v6 := (mem_vs (mkL_lt hok l (Nat.le_refl _))).l6
  obtain ⟨N, hN⟩ : ∃ N : Nat, N = n.toNat := ⟨_, rfl⟩
  have hNn : n = (N : Int) := by omega
  obtain ⟨k, hk⟩ : ∃ k, k = (memTo (mkL xss l) 30).length := ⟨_, rfl⟩
  obtain ⟨m, hm⟩ : ∃ m, m = N * k := ⟨_, rfl⟩
  have hmm : n * (k : Int) = (m : Int) := by rw [hm, hNn]; simp
  have hm48 : m ≤ 48 := by rw [hm]; exact Nat.mul_le_mul (show N ≤ 8 by omega) (show k ≤ 6 by omega)
  have hwm : IntKind.i64.wrap (n * (k : Int)) = n * (k : Int) := by rw [hmm, IntKind.wrap_i64]; omega
  have KK := Lib.hid hk
  rw [← hk]
  clear h hW hok hk hm hN hNn hmm v6
  obtain ⟨lt, x0, x1⟩ := X.out
  go_enter Tryd.func35, Tryd.ntmps35
  go_wp2
  rw [← HW.out]
  go_region_with (go_at_call 51; refine (LV.out _ (by first | exact Below.refl _ _ | exact (Below.refl _ _).drew)).mono ?_; rintro e w3 ⟨v3, rfl, ho, hb3⟩; obtain ⟨a3, k3, e3, -⟩ := ho.at; rw [← KK.out] at e3; subst e3; have T3 := Lib.hid (below_of_drew hb3); clear ho hb3; obtain ⟨lz, z0, z1⟩ := X.out.keep T3.out)
  all_goals
    go_wp2
    go_ret
    exact ⟨ret_bool rfl, HB.out.trans (T3.out.mono HB.out.size)⟩

set_option maxHeartbeats 2000000 in
theorem l06Code_any (n : Int) (xs : List Int) (xss : List (List Nd)) (a : Option Addr) (cap : Nat) (p : Option Addr) (l c : Nat) (w : World) (hl0 : xs.length ≤ 1048576) (hl : l ≤ 2097152) (hi : ∀ j, j < l → (nthL xss j).length ≤ 1048576) (hx : At w a xs.length xs) (h : AtNN w p l xss) :
    Calls Tryd.prog 21 #[.agg #[.int .i64 n, .slice a xs.length cap], .slice p l c] w fun e w' => e = .returned (.int .i64 (csC n xs (okAll xss l) (memTo (mkL xss l) 30).length)) ∧ Below w.heap.size w w' := by
  obtain ⟨W, hW, HB, X⟩ : ∃ W : World, W = w.alloc (.cells #[.int .i64 n, .slice a xs.length cap] 30) ∧ Hid (Below w.heap.size w W) ∧ Hid (Bx W w.heap.size n a xs.length cap) := ⟨_, rfl, Lib.hid (alloc_keep _ _).1, Lib.hid (Bx.new _ _ _ _ _ _)⟩
  have IS := Lib.hid (l05Is_any n xs a xs.length cap W hl0 (hx.keep HB.out (Nat.le_refl _)))
  have H := Lib.hid (h.keep HB.out (Nat.le_refl _))
  have HI := Lib.hid hi
  have HW := Lib.hid hW
  clear h hx hW hi
  obtain ⟨lt, x0, x1⟩ := X.out
  cases hf : frB n xs
  · have F := Lib.hid hf
    have C := Lib.hid (show csC n xs (okAll xss l) (memTo (mkL xss l) 30).length = 1 by rw [csC, hf]; rfl)
    clear hf
    go_enter Tryd.func21, Tryd.ntmps21
    go_wp2_with fail
    rw [← HW.out]
    refine IS.out.mono ?_
    rw [F.out]
    rintro e w1 ⟨rfl, hb⟩
    have T := Lib.hid (HB.out.trans (hb.mono HB.out.size))
    clear hb lt x0 x1
    go_wp2
    go_ret
    exact ⟨ret_int C.out.symm, T.out⟩
  · have F := Lib.hid hf
    obtain ⟨hn, h8, -, -⟩ := frB_ok hf
    have hn0 : 0 ≤ n := by omega
    have hn8 : n ≤ 8 := by omega
    clear hn h8
    go_enter Tryd.func21, Tryd.ntmps21
    go_wp2_with fail
    rw [← HW.out]
    refine IS.out.mono ?_
    rw [F.out]
    rintro e w1 ⟨rfl, hb⟩
    have T := Lib.hid hb
    clear hb lt x0 x1
    go_wp2
    go_loop [5] (fun i => ∃ j : Nat, j ≤ l ∧ i = .int .i64 j ∧ Hid (okAll xss j = true)) (fun i => l - (intOf i).toNat)
    case atStart => exact ⟨0, Nat.zero_le _, rfl, Lib.hid rfl⟩
    case round =>
      obtain ⟨j, hj, rfl, O⟩ := hrel
      by_cases hlt : j < l
      · obtain ⟨b, o, rfl, hb, hc⟩ := (H.out.keep T.out (Nat.le_refl _)).2.resolve_left (by omega)
        obtain ⟨a2, c2, g, hz⟩ := hc j hlt
        have hz2 := HI.out j hlt
        cases hbj : isB (nthL xss j) (nthL xss j).length
        · have NO := Lib.hid (okAll_bad hlt hbj)
          have IJ := Lib.hid (by have q := l02Is_any (nthL xss j) a2 _ c2 w1 hz2 hz; rw [hbj] at q; exact q)
          have C := Lib.hid (show csC n xs (okAll xss l) (memTo (mkL xss l) 30).length = 1 by rw [csC, hf, NO.out]; rfl)
          clear hc hz hbj hz2 hf
          go_wp2_with (go_at_call 34; refine IJ.out.mono ?_; rintro e w' ⟨rfl, rfl⟩)
          go_ret
          exact ⟨ret_int C.out.symm, HB.out.trans (T.out.mono HB.out.size)⟩
        · have YES := Lib.hid (okAll_succ O.out hbj)
          have IJ := Lib.hid (by have q := l02Is_any (nthL xss j) a2 _ c2 w1 hz2 hz; rw [hbj] at q; exact q)
          clear hc hz hbj hz2 hf
          go_wp2_with (go_at_call 34; refine IJ.out.mono ?_; rintro e w' ⟨rfl, rfl⟩)
          go_round
          case rel => exact ⟨j + 1, hlt, by go_num, YES⟩
          case measure => simp [intOf]; omega
      · obtain rfl : j = l := by omega
        obtain ⟨lt, x0, x1⟩ := X.out.keep T.out
        have FI := Lib.hid (l06Fits_any n xss a xs.length cap p j c w1 hn0 hn8 hl O.out (H.out.keep T.out (Nat.le_refl _)))
        by_cases h16 : n * (memTo (mkL xss j) 30).length ≤ 16
        · have C := Lib.hid (show csC n xs (okAll xss j) (memTo (mkL xss j) 30).length = 0 by rw [csC, hf, O.out, show (true && true) = true from rfl, if_pos rfl, if_neg (by omega)])
          have D := Lib.hid (decide_eq_true h16)
          clear hf h16
          go_wp2_with fail
          refine FI.out.mono ?_
          rw [D.out]
          rintro e w2 ⟨rfl, hb⟩
          have T2 := Lib.hid (T.out.trans (hb.mono T.out.size))
          clear hb lt x0 x1
          go_wp2
          go_ret
          exact ⟨ret_int C.out.symm, HB.out.trans (T2.out.mono HB.out.size)⟩
        · have C := Lib.hid (show csC n xs (okAll xss j) (memTo (mkL xss j) 30).length = 3 by rw [csC, hf, O.out, show (true && true) = true from rfl, if_pos rfl, if_pos (by omega)])
          have D := Lib.hid (decide_eq_false h16)
          clear hf h16
          go_wp2_with fail
          refine FI.out.mono ?_
          rw [D.out]
          rintro e w2 ⟨rfl, hb⟩
          have T2 := Lib.hid (T.out.trans (hb.mono T.out.size))
          clear hb lt x0 x1
          go_wp2
          go_ret
          exact ⟨ret_int C.out.symm, HB.out.trans (T2.out.mono HB.out.size)⟩

theorem mkL_1 (zs : List Nd) : mkL [zs] 1 = mkTo zs zs.length := by
  show 0 ||| mkTo (nthL [zs] 0) (nthL [zs] 0).length = _
  rw [Nat.zero_or]; rfl

end Go.Proofs.YtnoaaklkbfbdbaaDoor

/- What the model answers for the worlds that refute a formula. Conditions: those in the theorems. -/
namespace Go.Proofs.YtnoaaklkbfbdbaaDoor
open Go.RowKit

/-- What the region leaves: a model in a box, and its values. -/
def PrX (W w : World) (b n : Nat) (a : Option Addr) (len c : Nat) (a' : Option Addr) (c' : Nat) (ys : List Int) : Prop := Below W.heap.size W w ∧ Bm w b n a len c a' 6 c' ∧ At w a' 6 ys
theorem PrX.late {W wC : World} {n : Nat} {a a' : Option Addr} {len c c' B : Nat} {ys : List Int} (hW : W.heap.size ≤ wC.heap.size) (t : Below W.heap.size W wC) (h6 : ys.length = 6) (ho : Own wC B (.slice a' 6 c') ys) :
    PrX W (wC.alloc (.cells #[.int .i64 n, .slice a len c, .slice a' 6 c'] 59)) wC.heap.size n a len c a' c' ys := by
  obtain ⟨a2, c2, e2, h2, -⟩ := ho.at
  rw [h6] at e2 h2
  cases e2
  exact ⟨t.alloc hW _, Bm.new _ _ _ _ _ _ _ _ _, h2.keep (alloc_keep _ _).1 (Nat.le_refl _)⟩
theorem PrX.early {W wC : World} {n : Nat} {a a' : Option Addr} {len c c' k lo : Nat} {ys : List Int} (hk : W.heap.size ≤ k) (hkl : k < lo) (t : Below W.heap.size W wC) (z : BzM wC k) (h6 : ys.length = 6) (ho : Own wC lo (.slice a' 6 c') ys) :
    PrX W (((wC.setCell ⟨k, 0, none⟩ (.int .i64 n)).setCell ⟨k, 1, none⟩ (.slice a len c)).setCell ⟨k, 2, none⟩ (.slice a' 6 c')) k n a len c a' c' ys := by
  obtain ⟨a2, c2, e2, h2, -, -, h3⟩ := ho.at
  rw [h6] at e2 h2
  cases e2
  have hne : ∀ p, a' = some p → p.block ≠ k := fun p hp e => by have := (h3 p hp).1; omega
  obtain ⟨z1, z2, z3, z4, -, -, -⟩ := z.all
  have e3 : (wC.setCell ⟨k, 0, none⟩ (.int .i64 n)).cell? ⟨k, 1, none⟩ = some (.slice none 0 0) := by rw [cell_set' _ _ _ _ _ (by decide)]; exact z3
  have e4 : ((wC.setCell ⟨k, 0, none⟩ (.int .i64 n)).setCell ⟨k, 1, none⟩ (.slice a len c)).cell? ⟨k, 2, none⟩ = some (.slice none 0 0) := by rw [cell_set' _ _ _ _ _ (by decide), cell_set' _ _ _ _ _ (by decide)]; exact z4
  refine ⟨((t.setCell (by exact hk) _).setCell (by exact hk) _).setCell (by exact hk) _, ⟨by simpa [World.setCell] using z1, ?_, ?_, cell_set _ _ _ _ e4⟩, at_setO (at_setO (at_setO h2 hne) hne) hne⟩
  · rw [cell_set' _ _ _ _ _ (by decide), cell_set' _ _ _ _ _ (by decide)]; exact cell_set _ _ _ _ z2
  · rw [cell_set' _ _ _ _ _ (by decide)]; exact cell_set _ _ _ _ e3

theorem one_16 {m : Nat} (h : m ≤ 16) : one (m : Int) = ((2 ^ m : Nat) : Int) := by rw [one, Int.toNat_natCast]; exact pw_16 h

end Go.Proofs.YtnoaaklkbfbdbaaDoor
