/- What the program answers for the worlds that refute a formula. Conditions: those in the theorems. -/
import Derived.Test.YtnoaaklkbfbdbaaRwI
import Derived.Test.YtnoaaklkbfbdbaaTrV
import Derived.Test.YtnoaaklkbfbdbaaVars2
namespace Go.Proofs.Ytnoaaklkbfbdbaa
open Go.RowKit Go.Shelf

/-- The variables of a formula; the worlds that the first k models refute it at. -/
def vrL (zs : List Nd) : List Int := memTo (mkTo zs zs.length) 30
noncomputable def rwF (xs : List Int) (zs : List Nd) : Nat → Int
  | 0 => 0
  | k + 1 => bits .or .i64 (rwF xs zs k) (bits .andNot .i64 (full xs.length) ((toFm zs).tr xs (vlL xs.length (vrL zs) k)))
def rwC (n : Int) (xs : List Int) (zs : List Nd) : Int := csC n xs (isB zs zs.length) (vrL zs).length
noncomputable def rwV (n : Int) (xs : List Int) (zs : List Nd) : Int := if rwC n xs zs = 0 then rwF xs zs (2 ^ (xs.length * (vrL zs).length)) else 0
theorem vr_vs {zs : List Nd} (h : isB zs zs.length = true) : Vs (vrL zs) := mem_vs (mkTo_lt (is_tree h).1 _ (Nat.le_refl _))
theorem csC_ok {n : Int} {xs : List Int} {ok : Bool} {c : Nat} (h : csC n xs ok c = 0) : frB n xs = true ∧ ok = true ∧ n * c ≤ 16 := by
  unfold csC at h
  cases hf : frB n xs
  · rw [hf] at h; cases h
  · cases ok
    · rw [hf] at h; cases h
    · rw [hf] at h
      refine ⟨rfl, rfl, ?_⟩
      by_cases e : 16 < n * c
      · rw [show (true && true) = true from rfl, if_pos rfl, if_pos e] at h; cases h
      · omega

theorem vi1 (zs : List Nd) (a : Option Addr) (cap : Nat) (w : World) (hz : zs.length ≤ 1048576) (hb : isB zs zs.length = true) (h : AtN w a zs.length zs) (C : Nat) (t : TypeId) (hC : C = w.heap.size) : ∀ w1, Below (w.alloc (.cells #[.slice a zs.length cap] t)).heap.size (w.alloc (.cells #[.slice a zs.length cap] t)) w1 →
    Calls Try.prog 83 #[.slice (some ⟨C, 0, none⟩) 1 1] w1 fun e w' => ∃ v, e = .returned v ∧ Own w' w1.heap.size v (vrL zs) ∧ Below w1.heap.size w1 w' := by
  intro w1 hw
  obtain ⟨ht, h40⟩ := is_tree hb
  have hpos := (is_pos' hb).1
  have := variablesIn_any [zs] (some ⟨C, 0, none⟩) 1 1 w1 (by omega) (by show szTo [zs] 1 ≤ _; rw [← catTo_len, cat1]; omega) (fun j hj => by have e : j = 0 := (by omega); subst e; exact hpos) (by omega) (by rw [cat1]; exact ht) ((lay1 h t hC).keep hw (Nat.le_refl _))
  rw [cat1] at this
  exact this
theorem af1 (zs : List Nd) (a : Option Addr) (cap : Nat) (w : World) (hz : zs.length ≤ 1048576) (h : AtN w a zs.length zs) (C : Nat) (t : TypeId) (hC : C = w.heap.size) : ∀ w1, Below (w.alloc (.cells #[.slice a zs.length cap] t)).heap.size (w.alloc (.cells #[.slice a zs.length cap] t)) w1 →
    Calls Try.prog 82 #[.slice (some ⟨C, 0, none⟩) 1 1] w1 fun e w' => e = .returned (.bool (isB zs zs.length)) ∧ Below w1.heap.size w1 w' := by
  intro w1 hw
  have := areF_any [zs] (some ⟨C, 0, none⟩) 1 1 w1 (by omega) (nthL_le1 hz) ((lay1 h t hC).keep hw (Nat.le_refl _))
  rw [okAll_1] at this
  exact this

theorem But.drw {D : Nat → Prop} {a b : World} (h : But D a b) : But D a b.drew := ⟨h.os, h.tape, h.output, h.size, h.block⟩
theorem AtN.fm' {w : World} {a : Option Addr} {cap : Nat} {xs : List Nd} (h : AtN w a xs.length xs) (h1 : xs.length ≤ cap) (h2 : cap ≤ maxLen) (hb : isB xs xs.length = true) : ∃ b off, a = some ⟨b, off, none⟩ ∧ AtF w b off xs.length cap (toFm xs) := by
  obtain ⟨f1, f2, f3⟩ := toFm_of hb
  have e : xs.length = (toFm xs).enc.length := by rw [← f2]
  rw [f2] at h
  rw [← e] at h
  exact h.fm h1 h2
theorem atF_but {D : Nat → Prop} {w w' : World} {b off len cap : Nat} {f : Fm} (h : AtF w b off len cap f) (hb : But D w w') (hd : ¬ D b) : AtF w' b off len cap f := by
  refine ⟨⟨h.1.1, ?_⟩, h.2⟩
  rcases h.1.2 with h0 | ⟨c, o, e, hlt, hc⟩
  · exact .inl h0
  · cases e
    refine .inr ⟨b, off, rfl, Nat.lt_of_lt_of_le hlt hb.size, fun j hj => ?_⟩
    exact ⟨hb.cell (p := ⟨b, _, none⟩) (hc j hj).1 hd, hb.cell (p := ⟨b, _, none⟩) (hc j hj).2 hd⟩

theorem at_putO {W : World} {a : Option Addr} {len l : Nat} {xs : List Int} {r : Loop} {o : Obj} (h : At W a len xs) (hl : W.heap[l]? = some (.loop r)) : At (W.putObj l o) a len xs := by
  refine ⟨h.1, ?_⟩
  rcases h.2 with h0 | ⟨c, q, rfl, hb, hc⟩
  · exact .inl h0
  · exact .inr ⟨c, q, rfl, by simpa using hb, fun j hj => cell_kept (hc j hj) (grownBy_putObj' W l o) (fun r' e => by cases e; exact ⟨_, hl, rfl⟩)⟩
theorem bm_putO {W : World} {b l : Nat} {n : Int} {a : Option Addr} {len cap : Nat} {c : Option Addr} {m d : Nat} {r : Loop} {o : Obj} (h : Bm W b n a len cap c m d) (hl : W.heap[l]? = some (.loop r)) : Bm (W.putObj l o) b n a len cap c m d :=
  have k := fun {p : Addr} {v : Value} (hc : W.cell? p = some v) => cell_kept hc (grownBy_putObj' W l o) (fun r' e => by cases e; exact ⟨_, hl, rfl⟩)
  ⟨by simpa using h.1, k h.2.1, k h.2.2.1, k h.2.2.2⟩
theorem boxFN (w : World) (n : Int) (a : Option Addr) (l c : Nat) (a' : Option Addr) (l' c' : Nat) : ∃ W : World, W = (w.alloc (.cells #[.int .i64 n, .slice a l c] 30)).alloc (.cells #[.slice a' l' c'] 32) ∧
    Hid (Below w.heap.size w W) ∧ Hid (Bx W w.heap.size n a l c) ∧ Hid (W.cell? ⟨w.heap.size + 1, 0, none⟩ = some (.slice a' l' c')) ∧ Hid (W.heap.size = w.heap.size + 1 + 1) := by
  refine ⟨_, rfl, Lib.hid (((Below.refl w.heap.size w).alloc (Nat.le_refl _) _).alloc (by simp) _), Lib.hid ((Bx.new w n a l c _).keep (alloc_keep _ _).1), Lib.hid (World.cell?_alloc_at _ _ _ _ (by simp)), Lib.hid (by simp)⟩

attribute [local go_sem] Oper.semAt_some

set_option maxHeartbeats 4000000 in
set_option maxRecDepth 100000 in
theorem implRefutingWorlds_v (n0 : Int) (xs : List Int) (zs : List Nd) (v0 : Value) (lo0 hi0 : Nat) (v1 : Value) (lo1 hi1 : Nat) (w : World) (hl0 : xs.length ≤ 1048576) (hl1 : zs.length ≤ 1048576) (h0 : InF w lo0 hi0 v0 n0 xs) (h1 : InN w lo1 hi1 v1 zs) :
    Calls Try.prog 13 #[v0, v1] w fun e w' => e = .returned (.tuple #[.int .i64 (rwV n0 xs zs), .int .i64 (rwC n0 xs zs)]) ∧ Below w.heap.size w w' := by
  obtain ⟨a0, c0, rfl, hat0, -⟩ := h0.at
  obtain ⟨a1, c1, rfl, hn, hc1, hc2⟩ := h1.at'
  obtain ⟨W, hW, HB, X, Y, HS⟩ := boxFN w n0 a0 xs.length c0 a1 zs.length c1
  have H0 := Lib.hid (hat0.keep HB.out (Nat.le_refl _))
  have H1 := Lib.hid (hn.keep HB.out (Nat.le_refl _))
  have HW := Lib.hid hW
  have x2 := Y.out
  obtain ⟨lt0, x0, x1⟩ := X.out
  have CSX := Lib.hid (fun (C : Nat) (hC : C = W.heap.size) => checkSearch_any n0 xs a0 c0 (some ⟨C, 0, none⟩) 1 1 (isB zs zs.length) (vrL zs) (W.alloc (.cells #[.slice a1 zs.length c1] 32)) hl0 (fun h => (vr_vs h).l6) (H0.out.keep (alloc_keep _ _).1 (Nat.le_refl _)) (af1 zs a1 c1 W hl1 H1.out C _ hC) (fun hb => vi1 zs a1 c1 W hl1 hb H1.out C _ hC))
  have HWS := HS.out
  clear h0 h1 hat0 hn hW
  by_cases hz : rwC n0 xs zs = 0
  · refine (callsIn_wide (n := 6)).1 ?_
    refine callsIn_of_wp_marks Try.func13 rfl trivial ?_ rfl
    simp only [Try.ntmps13, List.size_toArray, List.length_cons, List.length_nil, Nat.reduceAdd, Nat.reduceSub, Array.replicate_succ, Array.replicate_zero, List.push_toArray, List.append_toArray, List.nil_append, List.cons_append]
    gi_wp2
    refine ⟨trivial, ?_⟩
    rw [← HW.out]
    refine (callsIn_wide.2 (CSX.out _ HWS.symm)).mono ?_
    rintro e w2 ⟨rfl, hb⟩
    have Z := Lib.hid (show csC n0 xs (isB zs zs.length) (vrL zs).length = 0 from hz)
    rw [Z.out]
    have T2 := Lib.hid ((alloc_keep W _).1.trans (hb.mono (alloc_keep W _).1.size))
    obtain ⟨hf, hb', h16⟩ := csC_ok hz
    have ISB := Lib.hid hb'
    have VV := Lib.hid (vr_vs hb')
    obtain ⟨hn0, h8, -, hr⟩ := frB_ok hf
    have REL := Lib.hid hr
    have F := Lib.hid hf
    clear hb hf hb' hr x0 x1 x2 lt0
    obtain ⟨lt0, x0, x1⟩ := X.out.keep T2.out
    have lt2 : w.heap.size + 1 < w2.heap.size := by have := T2.out.size; have := HS.out; omega
    subst hn0
    have x2 := (T2.out.cell (p := ⟨w.heap.size + 1, 0, none⟩) (by have := HS.out; show w.heap.size + 1 < _; omega)).trans Y.out
    gi_wp2
    refine ⟨trivial, ?_⟩
    obtain ⟨V, hV, bV, cV, sV⟩ : ∃ V, V = w2.alloc (.cells #[.int .i64 0] 2) ∧ Below w2.heap.size w2 V ∧ (V.cell? ⟨w2.heap.size, 0, none⟩ = some (.int .i64 0) ∧ V.frozen? ⟨w2.heap.size, 0, none⟩ = false) ∧ V.heap.size = w2.heap.size + 1 := ⟨_, rfl, (alloc_keep _ _).1, ⟨World.cell?_alloc_at _ _ _ _ rfl, by simp⟩, by simp⟩
    rw [← hV, ← sV]
    have TV := T2.out.trans (bV.mono T2.out.size)
    have VI1 := vi1 zs a1 c1 V hl1 ISB.out (H1.out.keep TV (Nat.le_refl _)) V.heap.size 32 rfl
    refine (callsIn_wide.2 (modelsOn_any xs.length a0 xs.length c0 _ 1 1 (vrL zs) _ VV.out.l6 VI1)).mono ?_
    rintro e w3 ⟨bc, bf, bv, av, cv, rfl, hit, k1, k2, k3, k4, hb⟩
    have hk : V.heap.size + 1 ≤ (V.alloc (.cells #[.slice a1 zs.length c1] 32)).heap.size := by simp
    have b3 : Below V.heap.size V w3 := (alloc_keep V _).1.trans (hb.mono (alloc_keep V _).1.size)
    have h0V : w3.cell? ⟨w2.heap.size, 0, none⟩ = some (.int .i64 0) := (b3.cell (p := ⟨w2.heap.size, 0, none⟩) (by simp; omega)).trans cV.1
    have h0F : w3.frozen? ⟨w2.heap.size, 0, none⟩ = false := (b3.frozen (p := ⟨w2.heap.size, 0, none⟩) (by simp; omega)).trans cV.2
    have T3 := Lib.hid (TV.trans (b3.mono TV.size))
    have hs3 := b3.size
    have IT := Lib.hid hit
    have K1 := Lib.hid (show w2.heap.size < bc by omega)
    have K2 := Lib.hid (show w2.heap.size < bf by omega)
    have K3 := Lib.hid (show w2.heap.size < bv by omega)
    have K4 := Lib.hid (show 0 < (vrL zs).length → ∀ q, av = some q → ¬ q.block = w2.heap.size from fun h q hq e => by have := k4 h q hq; omega)
    have lt3 : w2.heap.size < w3.heap.size := by omega
    clear hit k1 k2 k3 k4 hb hk b3 cV bV VI1 TV x0 x1 x2 lt0 lt2
    gi_wp2
    have h8' : xs.length ≤ 8 := h8
    have h16' : xs.length * (vrL zs).length ≤ 16 := by exact_mod_cast h16
    obtain ⟨f1, -, -⟩ := toFm_of ISB.out
    obtain ⟨b1, o1, ea1, hf1⟩ := (show ∃ b off, a1 = some ⟨b, off, none⟩ ∧ AtF W b off zs.length c1 (toFm zs) from AtN.fm' H1.out hc1 hc2 ISB.out)
    subst ea1
    have HF := Lib.hid (fun W' (hb : But (fun b => b = w2.heap.size) w3 W') => atF_but (hf1.keep T3.out (Nat.le_refl _)) hb (by have := hf1.head.1; have := T2.out.size; show ¬ b1 = _; omega))
    have HA := Lib.hid (fun W' (hb : But (fun b => b = w2.heap.size) w3 W') => hb.at (H0.out.keep T3.out (Nat.le_refl _)) (fun h0 q hq e => by
      subst hq
      obtain ⟨cb, co, e1, hlt, -⟩ := H0.out.2.resolve_left (by omega)
      cases e1
      have e' : cb = w2.heap.size := e
      have := T2.out.size
      omega))
    have HY := Lib.hid (fun W' (hb : But (fun b => b = w2.heap.size) w3 W') => hb.cell (p := ⟨w.heap.size + 1, 0, none⟩) ((T3.out.cell (p := ⟨w.heap.size + 1, 0, none⟩) (by have := HS.out; show w.heap.size + 1 < W.heap.size; omega)).trans Y.out) (by have := HS.out; have := T2.out.size; show ¬ w.heap.size + 1 = _; omega))
    have FT := Lib.hid (fun ys a' c' w' (hm : Mo w' xs.length a0 a' xs ys) h => falsity_any (toFm zs) f1 xs.length xs ys a0 c0 a' c' b1 o1 zs.length c1 w' hl1 hm h)
    refine wpIn_rangeFunc_X (F := Fence.wide) (n := 6) rfl (by decide) (gf := 84) (lb := #[.pointer (some ⟨bc, 0, none⟩), .pointer (some ⟨bf, 0, none⟩), .pointer (some ⟨bv, 0, none⟩)]) rfl trivial (enters_of Try.func84 (by kernel_rfl) rfl)
      (D := fun b => b = w2.heap.size) (Fx := FxM w3.heap.size xs.length a0 xs.length c0 (vrL zs)) (N := 2 ^ (xs.length * (vrL zs).length))
      (modelsOn_seq _ bc bf bv xs.length a0 xs.length c0 av cv (vrL zs) w3 (6 - 1) (by decide) VV.out h8' h16' IT.out (by have := K1.out; omega) (by have := K2.out; omega) (by have := K3.out; omega) K4.out) rfl (fun b hb => by omega)
      (fun k W' => W'.cell? ⟨w2.heap.size, 0, none⟩ = some (.int .i64 (rwF xs zs k)) ∧ W'.frozen? ⟨w2.heap.size, 0, none⟩ = false ∧ But (fun b => b = w2.heap.size) w3 W')
      (fun _ _ _ => False)
      (fun k A B hi hb => ⟨(hb.cell (p := ⟨w2.heap.size, 0, none⟩) lt3).trans hi.1, (hb.frozen (p := ⟨w2.heap.size, 0, none⟩) lt3).trans hi.2.1, hi.2.2.then hb (Nat.le_refl _)⟩)
      (fun _ _ _ _ h _ => h) (fun _ _ _ _ _ _ h _ _ => h) ⟨h0V, h0F, But.refl _ _⟩
      (fun k x a' W' => ∃ B b, Bm W' B xs.length a0 xs.length c0 (some ⟨b, 0, none⟩) 6 6 ∧ At W' (some ⟨b, 0, none⟩) 6 (vlL xs.length (vrL zs) k) ∧ a' = { tmps := #[.agg #[.int .i64 xs.length, .slice a0 xs.length c0], .slice (some ⟨b1, o1, none⟩) zs.length c1, .pointer (some ⟨w.heap.size, 0, none⟩), .pointer (some ⟨w.heap.size + 1, 0, none⟩), .int .i64 0, .int .i64 0, .int .i64 0, .pointer (some ⟨w2.heap.size, 0, none⟩), .pointer (some ⟨B, 0, none⟩), .agg #[.int .i64 xs.length, .slice a0 xs.length c0], .slice (some ⟨b1, o1, none⟩) zs.length c1, .slice (some ⟨w.heap.size + 1 + 1, 0, none⟩) 1 1, .int .i64 0, .int .i64 0, .bool false, undef, .agg #[.int .i64 xs.length, .slice a0 xs.length c0], .slice (some ⟨b1, o1, none⟩) zs.length c1, .slice (some ⟨w2.heap.size + 1, 0, none⟩) 1 1, .func (.func 84) #[] #[.pointer (some ⟨bc, 0, none⟩), .pointer (some ⟨bf, 0, none⟩), .pointer (some ⟨bv, 0, none⟩)], .agg #[.int .i64 xs.length, .slice a0 xs.length c0, .slice (some ⟨b, 0, none⟩) 6 6], undef, undef, undef, undef, undef, undef], defers := [] })
      ?hax ?assign ?body ?done ?stop
    case hax =>
      rintro k x a' A l r o ⟨B, b, hbm, hat, rfl⟩ hl _
      exact ⟨B, b, bm_putO hbm hl, at_putO hat hl, rfl⟩
    case assign =>
      rintro l k x W' K hi hs ⟨b, rfl, hat, -⟩ hK
      gi_wp2
      exact hK _ _ (alloc_keep _ _).1 ⟨W'.heap.size, b, Bm.new _ _ _ _ _ _ _ _ _, hat.keep (alloc_keep _ _).1 (Nat.le_refl _), rfl⟩
    case body =>
      rintro l k x a' W' hl hs ⟨hc, hf, hB⟩ ⟨B, b, hbm, hat, rfl⟩ hk
      have MO := Lib.hid (show Mo W' xs.length a0 (some ⟨b, 0, none⟩) xs (vlL xs.length (vrL zs) k) from ⟨rfl, h8', ⟨(mksTo_iff (by omega) _ _).2 fun i _ => REL.out i, vlL_mks _ (by omega) _ _⟩, vlL_len _ _ _, HA.out _ hB, by rw [vlL_len]; exact hat⟩)
      have FA := Lib.hid (fun w' (hw : Below W'.heap.size W' w') => by
        have q := FT.out _ _ 6 w' (MO.out.keep hw) ((HF.out _ hB).keep hw (Nat.le_refl _))
        rw [vlL_len] at q
        exact q)
      have lw : w2.heap.size < W'.heap.size := by omega
      have hy := HY.out _ hB
      obtain ⟨lb, m0, m1, m2⟩ := hbm
      have hmx : Try.prog.follows .mixedOrders = true := by kernel_rfl
      have BB := Lib.hid hB
      obtain ⟨z, hz2⟩ : ∃ z, z = rwF xs zs k := ⟨_, rfl⟩
      rw [← hz2] at hc
      have ZZ := Lib.hid hz2
      clear hat hB hz2
      gi_wp2
      gi_region_with_o (refine ⟨trivial, ?_⟩; gi_at_call 46; refine (CallsIn.inRound l (callsIn_wide.2 (FA.out _ (by first | exact Below.refl _ _ | exact (Below.refl _ _).drew)))).mono ?_; rintro e w4 ⟨rfl, hb4⟩; have hbb := below_of_drew hb4; have c4 := (hbb.cell (p := ⟨w2.heap.size, 0, none⟩) lw).trans hc; have f4 := (hbb.frozen (p := ⟨w2.heap.size, 0, none⟩) lw).trans hf)
      all_goals gi_wp2
      all_goals
        have bt : But (fun b => b = w2.heap.size) W' (w4.setCell ⟨w2.heap.size, 0, none⟩ (.int .i64 (bits .or .i64 z (bits .andNot .i64 (full xs.length) ((toFm zs).tr xs (vlL xs.length (vrL zs) k)))))) := (But.below hbb).trans (But.set rfl)
        have hcc : (w4.setCell ⟨w2.heap.size, 0, none⟩ (.int .i64 (bits .or .i64 z (bits .andNot .i64 (full xs.length) ((toFm zs).tr xs (vlL xs.length (vrL zs) k)))))).cell? ⟨w2.heap.size, 0, none⟩ = some (.int .i64 (rwF xs zs (k + 1))) := by rw [rwF, ← ZZ.out]; exact World.cell?_setCell_same' _ _ _ (by rw [c4]; rfl)
        have hff : (w4.setCell ⟨w2.heap.size, 0, none⟩ (.int .i64 (bits .or .i64 z (bits .andNot .i64 (full xs.length) ((toFm zs).tr xs (vlL xs.length (vrL zs) k)))))).frozen? ⟨w2.heap.size, 0, none⟩ = false := by rw [World.frozen?_setCell]; exact f4
        first
        | exact ⟨bt, hcc, hff, BB.out.trans bt⟩
        | exact ⟨bt.drw, hcc, hff, (BB.out.trans bt).drw⟩
    case done =>
      rintro E W' hE ⟨hc, hf, hB⟩ hK
      gi_wp2
      refine ⟨by simp, .inl ⟨_, _, rfl, run_takeDeferred hK, ?_⟩⟩
      refine ⟨_, results_tmp2 rfl _ _ _, ?_, ?_⟩
      · rw [rwV, hz]; rfl
      · exact HB.out.trans ((((T3.out.trans ((hB.out (Nat.le_of_lt lt3) (fun k e => by omega)).mono (show W.heap.size ≤ w2.heap.size from T2.out.size))).trans (below_putObj _ _ (by have := T3.out.size; omega)))).mono HB.out.size)
    case stop =>
      rintro E c k W' _ _ h _
      exact h.elim
  · obtain ⟨z, hzz⟩ : ∃ z, z = csC n0 xs (isB zs zs.length) (vrL zs).length := ⟨_, rfl⟩
    have hz1 : (z == 0) = false := by rw [hzz]; simpa [rwC] using hz
    have hz2 : (z != 0) = true := by rw [hzz]; simpa [rwC] using hz
    have R := Lib.hid (show Ending.returned (.tuple #[.int .i64 0, .int .i64 z]) = .returned (.tuple #[.int .i64 (rwV n0 xs zs), .int .i64 (rwC n0 xs zs)]) by rw [rwV, if_neg hz, rwC, hzz])
    have ZZ := Lib.hid hzz
    clear hz hzz
    refine (callsIn_wide (n := 6)).1 ?_
    refine callsIn_of_wp_marks Try.func13 rfl trivial ?_ rfl
    simp only [Try.ntmps13, List.size_toArray, List.length_cons, List.length_nil, Nat.reduceAdd, Nat.reduceSub, Array.replicate_succ, Array.replicate_zero, List.push_toArray, List.append_toArray, List.nil_append, List.cons_append]
    gi_wp2
    refine ⟨trivial, ?_⟩
    rw [← HW.out]
    refine (callsIn_wide.2 (CSX.out _ HWS.symm)).mono ?_
    rintro e w2 ⟨rfl, hb⟩
    rw [← ZZ.out]
    have T2 := Lib.hid (HB.out.trans (((alloc_keep W _).1.trans (hb.mono (alloc_keep W _).1.size)).mono HB.out.size))
    clear hb x0 x1 x2 lt0
    gi_wp2
    refine ⟨_, results_tmp2 rfl _ _ _, ?_, ?_⟩
    · exact R.out
    · exact T2.out

end Go.Proofs.Ytnoaaklkbfbdbaa
