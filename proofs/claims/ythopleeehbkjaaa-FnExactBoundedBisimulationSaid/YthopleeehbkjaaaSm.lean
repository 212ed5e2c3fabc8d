/- Contracts of SumModels of the model and of the program, at every argument. Conditions: those in the theorems. -/
import Derived.Test.YthopleeehbkjaaaPm
import Derived.Test.YthopleeehbkjaaaSum
namespace Go.Proofs.Ythopleeehbkjaaa
open Go.RowKit

theorem boxMM (w : World) (n0 : Int) (a0 : Option Addr) (l0 c0 : Nat) (b0 : Option Addr) (m0 d0 : Nat) (n1 : Int) (a1 : Option Addr) (l1 c1 : Nat) (b1 : Option Addr) (m1 d1 : Nat) : ∃ W : World, W = ((w.alloc (.cells #[.int .i64 n0, .slice a0 l0 c0, .slice b0 m0 d0] 32)).alloc (.cells #[.int .i64 n1, .slice a1 l1 c1, .slice b1 m1 d1] 32)).alloc (.cells #[.int .i64 0, .slice none 0 0, .slice none 0 0] 32) ∧
    Hid (Below w.heap.size w W) ∧ Hid (Bm W w.heap.size n0 a0 l0 c0 b0 m0 d0) ∧ Hid (Bm W (w.heap.size + 1) n1 a1 l1 c1 b1 m1 d1) ∧ Hid (BzM W (w.heap.size + 1 + 1)) ∧ W.heap.size = w.heap.size + 1 + 1 + 1 := by
  refine ⟨_, rfl, Lib.hid ((((Below.refl w.heap.size w).alloc (Nat.le_refl _) _).alloc (by simp) _).alloc (by simp; omega) _), Lib.hid (((Bm.new w n0 a0 l0 c0 b0 m0 d0 _).keep (alloc_keep _ _).1).keep (alloc_keep _ _).1), ?_, ?_, by simp⟩
  · have := (Bm.new (w.alloc (.cells #[.int .i64 n0, .slice a0 l0 c0, .slice b0 m0 d0] 32)) n1 a1 l1 c1 b1 m1 d1 32).keep (alloc_keep _ (.cells #[.int .i64 0, .slice none 0 0, .slice none 0 0] 32)).1
    exact Lib.hid (by simpa using this)
  · have := BzM.new ((w.alloc (.cells #[.int .i64 n0, .slice a0 l0 c0, .slice b0 m0 d0] 32)).alloc (.cells #[.int .i64 n1, .slice a1 l1 c1, .slice b1 m1 d1] 32))
    exact Lib.hid (by simpa using this)

def smF (n : Int) (ys zs : List Int) (t : Nat) : Int := bits .or .i64 (nth ys t) (wrap64 (nth zs t * 2 ^ n.toNat))
def sdC (n0 : Int) (xs0 ys0 : List Int) (n1 : Int) (xs1 ys1 : List Int) : Int := if isM n0 xs0 ys0 && isM n1 xs1 ys1 then (if 8 < n0 + n1 then 3 else 0) else 1
def sdL (n0 : Int) (xs0 ys0 : List Int) (n1 : Int) (xs1 ys1 : List Int) : List Int := if sdC n0 xs0 ys0 n1 xs1 ys1 = 0 then smTo xs0 xs1 n0 xs1.length else []
def sdV (n0 : Int) (xs0 ys0 : List Int) (n1 : Int) (xs1 ys1 : List Int) : List Int := if sdC n0 xs0 ys0 n1 xs1 ys1 = 0 then tab ys0.length (smF n0 ys0 ys1) else []
theorem sdC_1 {n0 n1 : Int} {xs0 ys0 xs1 ys1 : List Int} (h : (isM n0 xs0 ys0 && isM n1 xs1 ys1) = false) : sdC n0 xs0 ys0 n1 xs1 ys1 = 1 := by rw [sdC, h]; rfl
theorem sdC_3 {n0 n1 : Int} {xs0 ys0 xs1 ys1 : List Int} (h : (isM n0 xs0 ys0 && isM n1 xs1 ys1) = true) (h2 : 8 < n0 + n1) : sdC n0 xs0 ys0 n1 xs1 ys1 = 3 := by rw [sdC, h, if_pos rfl, if_pos h2]
theorem sdC_0 {n0 n1 : Int} {xs0 ys0 xs1 ys1 : List Int} (h : (isM n0 xs0 ys0 && isM n1 xs1 ys1) = true) (h2 : ¬ 8 < n0 + n1) : sdC n0 xs0 ys0 n1 xs1 ys1 = 0 := by rw [sdC, h, if_pos rfl, if_neg h2]
theorem sd_bad {n0 n1 c : Int} {xs0 ys0 xs1 ys1 : List Int} (h : sdC n0 xs0 ys0 n1 xs1 ys1 = c) (hc : ¬ c = 0) : sdL n0 xs0 ys0 n1 xs1 ys1 = [] ∧ sdV n0 xs0 ys0 n1 xs1 ys1 = [] := by
  rw [sdL, sdV, h, if_neg hc, if_neg hc]; exact ⟨rfl, rfl⟩
theorem sd_ok {n0 n1 : Int} {xs0 ys0 xs1 ys1 : List Int} (h : sdC n0 xs0 ys0 n1 xs1 ys1 = 0) : sdL n0 xs0 ys0 n1 xs1 ys1 = smTo xs0 xs1 n0 xs1.length ∧ sdV n0 xs0 ys0 n1 xs1 ys1 = tab ys0.length (smF n0 ys0 ys1) := ⟨if_pos h, if_pos h⟩
theorem SumModels_len (n0 : Int) (xs0 ys0 : List Int) (n1 : Int) (xs1 ys1 : List Int) : (sdL n0 xs0 ys0 n1 xs1 ys1).length ≤ 1048576 ∧ (sdV n0 xs0 ys0 n1 xs1 ys1).length ≤ 1048576 := by
  by_cases h : sdC n0 xs0 ys0 n1 xs1 ys1 = 0
  · obtain ⟨e1, e2⟩ := sd_ok h
    rw [e1, e2]
    cases hb : (isM n0 xs0 ys0 && isM n1 xs1 ys1)
    · rw [sdC_1 hb] at h; cases h
    · rw [Bool.and_eq_true] at hb
      obtain ⟨-, -, h8, -, h6, -⟩ := isM_ok hb.1
      obtain ⟨-, -, h8', -, -, -⟩ := isM_ok hb.2
      rw [smTo_len, tab_len]
      omega
  · obtain ⟨e1, e2⟩ := sd_bad rfl h
    rw [e1, e2]
    simp
theorem OwnIn.upg {w : World} {lo hi hi' : Nat} {v : Value} {xs : List Int} (h : OwnIn w lo hi v xs) (hh : hi ≤ hi' ∧ hi' ≤ w.heap.size) : OwnIn w lo hi' v xs := ⟨h.1, hh.2, fun k hk => ⟨(h.2.2 k hk).1, Nat.lt_of_lt_of_le (h.2.2 k hk).2 hh.1⟩⟩
theorem shl_spell' {n : Int} (h0 : 0 ≤ n) (h1 : n ≤ 8) (y : Int) : IntKind.i64.wrap (y * 2 ^ min n.toNat 64) = wrap64 (y * 2 ^ n.toNat) := by
  rw [Nat.min_eq_left (by omega)]
  unfold wrap64
  exact IntKind.wrap_i64 _

set_option maxHeartbeats 4000000 in
set_option maxRecDepth 100000 in
theorem specSumModels_any (n0 n1 : Int) (xs0 ys0 xs1 ys1 : List Int) (a0 : Option Addr) (c0 : Nat) (b0 : Option Addr) (d0 : Nat) (a1 : Option Addr) (c1 : Nat) (b1 : Option Addr) (d1 : Nat) (w : World) (hl0 : xs0.length ≤ 1048576) (hm0 : ys0.length ≤ 1048576) (hl1 : xs1.length ≤ 1048576) (hm1 : ys1.length ≤ 1048576) (h0 : At w a0 xs0.length xs0) (h0' : At w b0 ys0.length ys0) (h1 : At w a1 xs1.length xs1) (h1' : At w b1 ys1.length ys1) (hc0 : a0 = none → c0 = 0) :
    Calls Try.prog 37 #[.agg #[.int .i64 n0, .slice a0 xs0.length c0, .slice b0 ys0.length d0], .agg #[.int .i64 n1, .slice a1 xs1.length c1, .slice b1 ys1.length d1]] w fun e w' => RM w' w.heap.size (sdL n0 xs0 ys0 n1 xs1 ys1).length (sdC n0 xs0 ys0 n1 xs1 ys1) (sdL n0 xs0 ys0 n1 xs1 ys1) (sdV n0 xs0 ys0 n1 xs1 ys1) e ∧ Below w.heap.size w w' := by
  obtain ⟨W, hW, HB, X0, X1, Z, hWs⟩ := boxMM w n0 a0 xs0.length c0 b0 ys0.length d0 n1 a1 xs1.length c1 b1 ys1.length d1
  have H0 := Lib.hid (h0.keep HB.out (Nat.le_refl _))
  have H0' := Lib.hid (h0'.keep HB.out (Nat.le_refl _))
  have H1 := Lib.hid (h1.keep HB.out (Nat.le_refl _))
  have H1' := Lib.hid (h1'.keep HB.out (Nat.le_refl _))
  have N0 := Lib.hid hc0
  have hz0 : w.heap.size + 1 + 1 + 1 ≤ W.heap.size := by omega
  have HW := Lib.hid hW
  clear h0 h0' h1 h1' hW hc0
  cases hf0 : isM n0 xs0 ys0
  · have F0 := Lib.hid hf0
    have C := Lib.hid (sdC_1 (show (isM n0 xs0 ys0 && isM n1 xs1 ys1) = false by rw [hf0]; rfl))
    have L := Lib.hid (sd_bad C.out (by decide))
    clear hf0
    go_enter Try.func37, Try.ntmps37
    go_wp2_with fail
    rw [← HW.out]
    refine (l06Is_any n0 xs0 ys0 _ _ _ _ _ _ _ hl0 hm0 H0.out H0'.out).mono ?_
    rw [F0.out]
    rintro e w1 ⟨rfl, hb⟩
    have T1 := Lib.hid hb
    clear hb
    have B1 := Lib.hid (HB.out.trans (T1.out.mono HB.out.size))
    obtain ⟨lt2, z0, z1, z2, z3, z4, z5⟩ := (Z.out.keep T1.out).all
    go_wp2
    exact bodyPost_ret (v := .tuple #[.agg #[.int .i64 0, .slice none 0 0, .slice none 0 0], .int .i64 1]) (by simp [results, Try.results37, go_sem, z0, z1, z2]) rfl ⟨RM.bad C.out.symm (by rw [L.out.1]; rfl) L.out.1 L.out.2, ((B1.out.setCell (by show _ ≤ _; simp; omega) _).setCell (by show _ ≤ _; simp; omega) _).setCell (by show _ ≤ _; simp; omega) _⟩
  · obtain ⟨e1, e2, -⟩ := isM_rel hf0
    have hn0 : 0 ≤ n0 := by omega
    have hn8 : n0 ≤ 8 := by omega
    have hl08 : xs0.length ≤ 8 := e2
    have hy0 : ys0.length ≤ 30 := by obtain ⟨-, -, -, -, h6, -⟩ := isM_ok hf0; omega
    have F0 := Lib.hid hf0
    cases hf1 : isM n1 xs1 ys1
    · have F1 := Lib.hid hf1
      have C := Lib.hid (sdC_1 (show (isM n0 xs0 ys0 && isM n1 xs1 ys1) = false by rw [hf0, hf1]; rfl))
      have L := Lib.hid (sd_bad C.out (by decide))
      clear hf0 hf1 e1 e2
      go_enter Try.func37, Try.ntmps37
      go_wp2_with fail
      rw [← HW.out]
      refine (l06Is_any n0 xs0 ys0 _ _ _ _ _ _ _ hl0 hm0 H0.out H0'.out).mono ?_
      rw [F0.out]
      rintro e w1 ⟨rfl, hb⟩
      have T1 := Lib.hid hb
      obtain ⟨lt, x0, x1, x2⟩ := X1.out.keep hb
      have Q1 := Lib.hid (H1.out.keep hb (Nat.le_refl _))
      have Q1' := Lib.hid (H1'.out.keep hb (Nat.le_refl _))
      clear hb
      go_wp2_with fail
      clear x0 x1 x2
      refine (l06Is_any n1 xs1 ys1 _ _ _ _ _ _ _ hl1 hm1 Q1.out Q1'.out).mono ?_
      rw [F1.out]
      rintro e w2 ⟨rfl, hb⟩
      have T2 := Lib.hid (T1.out.trans (hb.mono T1.out.size))
      clear hb
      have B2 := Lib.hid (HB.out.trans (T2.out.mono HB.out.size))
      obtain ⟨lt2, z0, z1, z2, z3, z4, z5⟩ := (Z.out.keep T2.out).all
      go_wp2
      exact bodyPost_ret (v := .tuple #[.agg #[.int .i64 0, .slice none 0 0, .slice none 0 0], .int .i64 1]) (by simp [results, Try.results37, go_sem, z0, z1, z2]) rfl ⟨RM.bad C.out.symm (by rw [L.out.1]; rfl) L.out.1 L.out.2, ((B2.out.setCell (by show _ ≤ _; simp; omega) _).setCell (by show _ ≤ _; simp; omega) _).setCell (by show _ ≤ _; simp; omega) _⟩
    · obtain ⟨e3, e4, -⟩ := isM_rel hf1
      have hn10 : 0 ≤ n1 := by omega
      have hn18 : n1 ≤ 8 := by omega
      have hl18 : xs1.length ≤ 8 := e4
      have HYY := Lib.hid (show ys1.length = ys0.length by obtain ⟨-, -, -, -, h6, -⟩ := isM_ok hf0; obtain ⟨-, -, -, -, h6', -⟩ := isM_ok hf1; omega)
      have F1 := Lib.hid hf1
      have FF := Lib.hid (show frB n0 xs0 = true ∧ frB n1 xs1 = true from ⟨(isM_ok hf0).1, (isM_ok hf1).1⟩)
      by_cases h8 : 8 < n0 + n1
      · have C := Lib.hid (sdC_3 (show (isM n0 xs0 ys0 && isM n1 xs1 ys1) = true by rw [hf0, hf1]; rfl) h8)
        have L := Lib.hid (sd_bad C.out (by decide))
        have SC := Lib.hid (smC_3 (show (frB n0 xs0 && frB n1 xs1) = true by rw [FF.out.1, FF.out.2]; rfl) h8)
        clear hf0 hf1 e1 e2 e3 e4
        go_enter Try.func37, Try.ntmps37
        go_wp2_with fail
        rw [← HW.out]
        refine (l06Is_any n0 xs0 ys0 _ _ _ _ _ _ _ hl0 hm0 H0.out H0'.out).mono ?_
        rw [F0.out]
        rintro e w1 ⟨rfl, hb⟩
        have T1 := Lib.hid hb
        obtain ⟨lt, x0, x1, x2⟩ := X1.out.keep hb
        have Q1 := Lib.hid (H1.out.keep hb (Nat.le_refl _))
        have Q1' := Lib.hid (H1'.out.keep hb (Nat.le_refl _))
        clear hb
        go_wp2_with fail
        clear x0 x1 x2
        refine (l06Is_any n1 xs1 ys1 _ _ _ _ _ _ _ hl1 hm1 Q1.out Q1'.out).mono ?_
        rw [F1.out]
        rintro e w2 ⟨rfl, hb⟩
        have T2 := Lib.hid (T1.out.trans (hb.mono T1.out.size))
        clear hb
        have B2 := Lib.hid (HB.out.trans (T2.out.mono HB.out.size))
        obtain ⟨lt2, z0, z1, z2, z3, z4, z5⟩ := (Z.out.keep T2.out).all
        obtain ⟨lt0, x0, x1, x2⟩ := X0.out.keep T2.out
        obtain ⟨lt1, y0, y1, y2⟩ := X1.out.keep T2.out
        go_wp2
        exact bodyPost_ret (v := .tuple #[.agg #[.int .i64 0, .slice none 0 0, .slice none 0 0], .int .i64 3]) (by simp [results, Try.results37, go_sem, z0, z1, z2]) rfl ⟨RM.bad C.out.symm (by rw [L.out.1]; rfl) L.out.1 L.out.2, ((B2.out.setCell (by show _ ≤ _; simp; omega) _).setCell (by show _ ≤ _; simp; omega) _).setCell (by show _ ≤ _; simp; omega) _⟩
      · have C := Lib.hid (sdC_0 (show (isM n0 xs0 ys0 && isM n1 xs1 ys1) = true by rw [hf0, hf1]; rfl) h8)
        have L := Lib.hid (sd_ok C.out)
        have SC := Lib.hid (smC_0 (show (frB n0 xs0 && frB n1 xs1) = true by rw [FF.out.1, FF.out.2]; rfl) h8)
        have SL := Lib.hid (show smL n0 xs0 n1 xs1 = smTo xs0 xs1 n0 xs1.length by rw [smL, SC.out]; rfl)
        have hsl : (smTo xs0 xs1 n0 xs1.length).length ≤ 16 := by rw [smTo_len]; omega
        clear hf0 hf1 e1 e2 e3 e4
        go_enter Try.func37, Try.ntmps37
        go_wp2_with fail
        rw [← HW.out]
        refine (l06Is_any n0 xs0 ys0 _ _ _ _ _ _ _ hl0 hm0 H0.out H0'.out).mono ?_
        rw [F0.out]
        rintro e w1 ⟨rfl, hb⟩
        have T1 := Lib.hid hb
        obtain ⟨lt, x0, x1, x2⟩ := X1.out.keep hb
        have Q1 := Lib.hid (H1.out.keep hb (Nat.le_refl _))
        have Q1' := Lib.hid (H1'.out.keep hb (Nat.le_refl _))
        clear hb
        go_wp2_with fail
        clear x0 x1 x2
        refine (l06Is_any n1 xs1 ys1 _ _ _ _ _ _ _ hl1 hm1 Q1.out Q1'.out).mono ?_
        rw [F1.out]
        rintro e w2 ⟨rfl, hb⟩
        have T2 := Lib.hid (T1.out.trans (hb.mono T1.out.size))
        clear hb
        obtain ⟨lt0, x0, x1, x2⟩ := X0.out.keep T2.out
        obtain ⟨lt1, y0, y1, y2⟩ := X1.out.keep T2.out
        go_wp2
        clear x0 x1 x2 y0 y1 y2
        go_loopw [6, 7] (fun v i wr => ∃ t : Nat, t ≤ ys0.length ∧ i = .int .i64 t ∧ wr.ownsRow w2.heap.size 2 1 v t ((upTo (smF n0 ys0 ys1) t).map (Value.int .i64)) ∧ Hid (Below w2.heap.size w2 wr)) (fun _ i _ => ys0.length - (intOf i).toNat)
        case atStart => exact ⟨0, Nat.zero_le _, rfl, World.ownsRow_lit w2 #[] 0 (Nat.le_refl _) (by unfold maxLen; omega) rfl, Lib.hid ((Below.refl _ _).alloc (Nat.le_refl _) _)⟩
        case round =>
          obtain ⟨t, ht, rfl, hown, B⟩ := hrel
          have HO := Lib.hid hown
          clear hown
          have hs3 := T2.out.size
          have hsz := B.out.size
          have BW := Lib.hid (T2.out.trans (B.out.mono hs3))
          have HA := Lib.hid (H0'.out.keep BW.out (Nat.le_refl _))
          have HC := Lib.hid (H1'.out.keep BW.out (Nat.le_refl _))
          obtain ⟨lt0, x0, x1, x2⟩ := X0.out.keep BW.out
          obtain ⟨lt1, y0, y1, y2⟩ := X1.out.keep BW.out
          by_cases hlt : t < ys0.length
          · obtain ⟨p, po, rfl, hb1, hc1⟩ := HA.out.2.resolve_left (by omega)
            have hcell := hc1 t hlt
            obtain ⟨q, qo, rfl, hb2, hc2⟩ := HC.out.2.resolve_left (by have := HYY.out; omega)
            have hlt2 : t < ys1.length := by have := HYY.out; omega
            have hcell2 := hc2 t hlt2
            have EF := Lib.hid (show bits .or .i64 (nth ys0 t) (IntKind.i64.wrap (nth ys1 t * 2 ^ min (IntKind.u64.wrap n0).toNat 64)) = smF n0 ys0 ys1 t by rw [shl_spell hn0 hn8]; rfl)
            clear hc1 hc2
            go_wp2
            go_region_law (first | (refine step_app1 rfl _ _ rfl w2.heap.size _ t _ rfl (HO.out.drew.alloc _) ⟨wr.heap.size, 0, none⟩ 1 _ rfl (World.cell?_alloc_at _ _ _ _ rfl) (by omega) (by simp; omega) ?_; intro v' w1' hown1 hgr1))
            all_goals
              have hbel := Lib.hid (below_app B.out (((Below.refl _ _).alloc hsz _).drew) hsz HO.out hgr1)
              clear hgr1 x0 x1 x2 y0 y1 y2 hcell hcell2
              go_wp2
              go_roundw
              case rel => exact ⟨t + 1, hlt, by go_num, by rw [upTo, List.map_append, ← EF.out]; exact hown1, hbel⟩
              case measure => simp [intOf]; omega
          · obtain rfl : t = ys0.length := by omega
            have O5 := Lib.hid (own_up HO.out)
            obtain ⟨a5, k5, e5, -, -, -, -⟩ := O5.out.at
            rw [upTo_len] at e5
            subst e5
            have Z5 := Lib.hid (Z.out.keep BW.out)
            have HF0 := Lib.hid (H0.out.keep BW.out (Nat.le_refl _))
            have HF1 := Lib.hid (H1.out.keep BW.out (Nat.le_refl _))
            have B5 := Lib.hid (HB.out.trans (BW.out.mono HB.out.size))
            go_wp2_with fail
            clear x0 x1 x2 y0 y1 y2
            refine (l05Sum_any n0 n1 xs0 xs1 _ _ _ _ _ _ _ hn0 hn8 hl08 hl18 HF0.out HF1.out N0.out).mono ?_
            rintro e w5 ⟨v5, rfl, ho, hb⟩
            obtain ⟨a6, c6, rfl⟩ := ho.form
            obtain ⟨lt2, z0, z1, z2, z3, z4, z5⟩ := (Z5.out.keep hb).all
            have B6 := Lib.hid (B5.out.trans (hb.mono B5.out.size))
            have O6 := Lib.hid (O5.out.inn.below hb (Nat.le_refl _))
            have O7 := Lib.hid ho
            have hlr : w2.heap.size ≤ wr.heap.size := hsz
            have hww : W.heap.size ≤ w2.heap.size := hs3
            clear hb O5 ho
            go_wp2
            have e7 : tab ys0.length (smF n0 ys0 ys1) = upTo (smF n0 ys0 ys1) ys0.length := by rw [upTo_tab]
            exact bodyPost_ret (v := .tuple #[.agg #[.int .i64 (smTo xs0 xs1 n0 xs1.length).length, .slice a6 (smTo xs0 xs1 n0 xs1.length).length c6, .slice a5 ys0.length k5], .int .i64 0]) (by simp [results, Try.results37, go_sem, z0, z1, z2]) rfl ⟨RM.good C.out (by rw [L.out.1]) L.out.1 (L.out.2.trans e7) ((OwnM.two' (n := (smTo xs0 xs1 n0 xs1.length).length) O7.out.2 O6.out hlr).out3 (by omega)) (by omega), ((B6.out.setCell (by show _ ≤ _; simp; omega) _).setCell (by show _ ≤ _; simp; omega) _).setCell (by show _ ≤ _; simp; omega) _⟩

end Go.Proofs.Ythopleeehbkjaaa
