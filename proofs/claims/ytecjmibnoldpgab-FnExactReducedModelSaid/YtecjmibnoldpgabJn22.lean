/- 4 texts in one: Sm, SmI, TaV, PmI. -/
import Derived.Test.YtecjmibnoldpgabPm
import Derived.Test.YtecjmibnoldpgabJn11
import Derived.Test.YtecjmibnoldpgabJn20
import Derived.Test.YtecjmibnoldpgabJn17
import Derived.Test.YtecjmibnoldpgabJn14
/- Contracts of SumModels of the model and of the program, at every argument. Conditions: those in the theorems. -/
namespace Go.Proofs.Ytecjmibnoldpgab
open Go.RowKit

theorem boxMM (w : World) (n0 : Int) (a0 : Option Addr) (l0 c0 : Nat) (b0 : Option Addr) (m0 d0 : Nat) (n1 : Int) (a1 : Option Addr) (l1 c1 : Nat) (b1 : Option Addr) (m1 d1 : Nat) : ∃ W : World, W = ((w.alloc (.cells #[.int .i64 n0, .slice a0 l0 c0, .slice b0 m0 d0] 32)).alloc (.cells #[.int .i64 n1, .slice a1 l1 c1, .slice b1 m1 d1] 32)).alloc (.cells #[.int .i64 0, .slice none 0 0, .slice none 0 0] 32) ∧
    Hid (Below w.heap.size w W) ∧ Hid (Bm W w.heap.size n0 a0 l0 c0 b0 m0 d0) ∧ Hid (Bm W (w.heap.size + 1) n1 a1 l1 c1 b1 m1 d1) ∧ Hid (BzM W (w.heap.size + 1 + 1)) ∧ W.heap.size = w.heap.size + 1 + 1 + 1 := by
  refine ⟨_, rfl, Lib.hid ((((Below.refl w.heap.size w).alloc (Nat.le_refl _) _).alloc (by simp) _).alloc (by simp; omega) _), Lib.hid (((Bm.new w n0 a0 l0 c0 b0 m0 d0 _).keep (alloc_keep _ _).1).keep (alloc_keep _ _).1), ?_, ?_, by simp⟩
  · have := (Bm.new (w.alloc (.cells #[.int .i64 n0, .slice a0 l0 c0, .slice b0 m0 d0] 32)) n1 a1 l1 c1 b1 m1 d1 32).keep (alloc_keep _ (.cells #[.int .i64 0, .slice none 0 0, .slice none 0 0] 32)).1
    exact Lib.hid (by simpa using this)
  · have := BzM.new ((w.alloc (.cells #[.int .i64 n0, .slice a0 l0 c0, .slice b0 m0 d0] 32)).alloc (.cells #[.int .i64 n1, .slice a1 l1 c1, .slice b1 m1 d1] 32))
    exact Lib.hid (by simpa using this)

def smF (n : Int) (ys zs : List Int) (t : Nat) : Int := bits .or .i64 (nth ys t) (wrap64 (nth zs t * 2 ^ n.toNat))
def sdC (n0 : Int) (xs0 ys0 : List Int) (n1 : Int) (xs1 ys1 : List Int) : Int := if isM n0 xs0 ys0 && isM n1 xs1 ys1 then (if 8 < n0 + n1 then 3 else 0) else 1
def sdL (n0 : Int) (xs0 ys0 : List Int) (n1 : Int) (xs1 ys1 : List Int) : List Int := if sdC n0 xs0 ys0 n1 xs1 ys1 = 0 then smTo xs0 xs1 n0 xs1.length else []
def sdV (n0 : Int) (xs0 ys0 : List Int) (n1 : Int) (xs1 ys1 : List Int) : List Int := if sdC n0 xs0 ys0 n1 xs1 ys1 = 0 then tab ys0.length (smF n0 ys0 ys1) else []
theorem sdC_1 {n0 n1 : Int} {xs0 ys0 xs1 ys1 : List Int} (h : (isM n0 xs0 ys0 && isM n1 xs1 ys1) = false) : sdC n0 xs0 ys0 n1 xs1 ys1 = 1 := by rw [sdC, h]; rfl
theorem sdC_3 {n0 n1 : Int} {xs0 ys0 xs1 ys1 : List Int} (h : (isM n0 xs0 ys0 && isM n1 xs1 ys1) = true) (h2 : 8 < n0 + n1) : sdC n0 xs0 ys0 n1 xs1 ys1 = 3 := by rw [sdC, h, if_pos rfl, if_pos h2]
theorem sdC_0 {n0 n1 : Int} {xs0 ys0 xs1 ys1 : List Int} (h : (isM n0 xs0 ys0 && isM n1 xs1 ys1) = true) (h2 : ¬ 8 < n0 + n1) : sdC n0 xs0 ys0 n1 xs1 ys1 = 0 := by rw [sdC, h, if_pos rfl, if_neg h2]
theorem sd_bad {n0 n1 c : Int} {xs0 ys0 xs1 ys1 : List Int} (h : sdC n0 xs0 ys0 n1 xs1 ys1 = c) (hc : ¬ c = 0) : sdL n0 xs0 ys0 n1 xs1 ys1 = [] ∧ sdV n0 xs0 ys0 n1 xs1 ys1 = [] := by
  rw [sdL, sdV, h, if_neg hc, if_neg hc]; exact ⟨rfl, rfl⟩
theorem sd_ok {n0 n1 : Int} {xs0 ys0 xs1 ys1 : List Int} (h : sdC n0 xs0 ys0 n1 xs1 ys1 = 0) : sdL n0 xs0 ys0 n1 xs1 ys1 = smTo xs0 xs1 n0 xs1.length ∧ sdV n0 xs0 ys0 n1 xs1 ys1 = tab ys0.length (smF n0 ys0 ys1) := ⟨if_pos h, if_pos h⟩
theorem SumModels_len (n0 : Int) (xs0 ys0 : List Int) (n1 : Int) (xs1 ys1 : List Int) : (sdL n0 xs0 ys0 n1 xs1 ys1).length ≤ 1048576 ∧ (sdV n0 xs0 ys0 n1 xs1 ys1).length ≤ 1048576 := by
  by_cases h : sdC n0 xs0 ys0 n1 xs1 ys1 = 0
  · obtain ⟨e1, e2⟩ := sd_ok h
    rw [e1, e2]
    cases hb : (isM n0 xs0 ys0 && isM n1 xs1 ys1)
    · rw [sdC_1 hb] at h; cases h
    · rw [Bool.and_eq_true] at hb
      obtain ⟨-, -, h8, -, h6, -⟩ := isM_ok hb.1
      obtain ⟨-, -, h8', -, -, -⟩ := isM_ok hb.2
      rw [smTo_len, tab_len]
      omega
  · obtain ⟨e1, e2⟩ := sd_bad rfl h
    rw [e1, e2]
    simp
theorem OwnIn.upg {w : World} {lo hi hi' : Nat} {v : Value} {xs : List Int} (h : OwnIn w lo hi v xs) (hh : hi ≤ hi' ∧ hi' ≤ w.heap.size) : OwnIn w lo hi' v xs := ⟨h.1, hh.2, fun k hk => ⟨(h.2.2 k hk).1, Nat.lt_of_lt_of_le (h.2.2 k hk).2 hh.1⟩⟩
theorem shl_spell' {n : Int} (h0 : 0 ≤ n) (h1 : n ≤ 8) (y : Int) : IntKind.i64.wrap (y * 2 ^ min n.toNat 64) = wrap64 (y * 2 ^ n.toNat) := by
  rw [Nat.min_eq_left (by omega)]
  unfold wrap64
  exact IntKind.wrap_i64 _

end Go.Proofs.Ytecjmibnoldpgab

/- The contract of SumModels of the program, at every argument; both told by values. Conditions: those in the theorems. -/
namespace Go.Proofs.Ytecjmibnoldpgab
open Go.RowKit

set_option maxHeartbeats 4000000 in
set_option maxRecDepth 100000 in
theorem plusM_any (n0 n1 : Int) (xs0 ys0 xs1 ys1 : List Int) (a0 : Option Addr) (c0 : Nat) (b0 : Option Addr) (d0 : Nat) (a1 : Option Addr) (c1 : Nat) (b1 : Option Addr) (d1 : Nat) (w : World) (hn0 : 0 ≤ n0) (hn8 : n0 ≤ 8) (h80 : xs0.length ≤ 8) (h81 : xs1.length ≤ 8) (h6 : ys0.length = 6) (h6' : ys1.length = 6) (h0 : At w a0 xs0.length xs0) (h0' : At w b0 ys0.length ys0) (h1 : At w a1 xs1.length xs1) (h1' : At w b1 ys1.length ys1) :
    Calls Try.prog 45 #[.agg #[.int .i64 n0, .slice a0 xs0.length c0, .slice b0 ys0.length d0], .agg #[.int .i64 n1, .slice a1 xs1.length c1, .slice b1 ys1.length d1]] w fun e w' => ∃ v, e = .returned v ∧ OwnM w' w.heap.size v (smTo xs0 xs1 n0 xs1.length).length (smTo xs0 xs1 n0 xs1.length) (tab ys0.length (smF n0 ys0 ys1)) ∧ Below w.heap.size w w' := by
  obtain ⟨W, hW, HB, X0, X1, Z, hWs⟩ := boxMM w n0 a0 xs0.length c0 b0 ys0.length d0 n1 a1 xs1.length c1 b1 ys1.length d1
  have H0 := Lib.hid (h0.keep HB.out (Nat.le_refl _))
  have H0' := Lib.hid (h0'.keep HB.out (Nat.le_refl _))
  have H1 := Lib.hid (h1.keep HB.out (Nat.le_refl _))
  have H1' := Lib.hid (h1'.keep HB.out (Nat.le_refl _))
  have hz0 : w.heap.size + 1 + 1 + 1 ≤ W.heap.size := by omega
  have WS := Lib.hid hWs
  have HW := Lib.hid hW
  have Y6 := Lib.hid h6
  have Y6' := Lib.hid h6'
  have hmk : ∀ W : World, (Instr.makeSlice 22 (.int .i64 6) (.int .i64 6)).run Try.prog W = .ok (.slice (some ⟨W.heap.size, 0, none⟩) 6 6) (W.alloc (.cells (madeCells #[.int .i64 0] 6) 2)) := fun (W : World) => run_make_row' (P := Try.prog) 22 2 (.int .i64 0) 8 Try.underlying22 info64 rfl .i64 .i64 6 (by omega) (by omega) W
  have hr0 := World.rowIs_made W (.int .i64 0) 6 2
  have HR0 := Lib.hid hr0
  have HBV := Lib.hid ((Below.refl W.heap.size W).alloc (Nat.le_refl _) (.cells (madeCells #[.int .i64 0] 6) 2))
  clear h0 h0' h1 h1' hW h6 h6' hr0 hWs
  go_enter Try.func45, Try.ntmps45
  go_wp2
  clear hmk
  rw [← HW.out]
  rw [show w.heap.size + 1 + 1 + 1 = W.heap.size from WS.out.symm]
  go_loopw [10] (fun i wr => ∃ k : Nat, k ≤ 6 ∧ i = .int .i64 k ∧ wr.rowIs W.heap.size 2 6 (fun t => .int .i64 (upS (smF n0 ys0 ys1) k t)) ∧ Hid (Below W.heap.size W wr)) (fun i _ => 6 - (intOf i).toNat)
  case atStart => exact ⟨0, Nat.zero_le _, rfl, HR0.out.congr fun t _ => by rw [upS_start], HBV⟩
  case round =>
    obtain ⟨k, hk, rfl, hrow, B⟩ := hrel
    have HROW := Lib.hid hrow
    by_cases hlt : k < 6
    · have HA := Lib.hid (H0'.out.keep B.out (Nat.le_refl _))
      have HC := Lib.hid (H1'.out.keep B.out (Nat.le_refl _))
      obtain ⟨lt0, x0, x1, x2⟩ := X0.out.keep B.out
      obtain ⟨lt1, y0, y1, y2⟩ := X1.out.keep B.out
      have hlt1 : k < ys0.length := by have := Y6.out; omega
      have hlt2 : k < ys1.length := by have := Y6'.out; omega
      obtain ⟨p, po, rfl, hb1, hc1⟩ := HA.out.2.resolve_left (by omega)
      have hcell := hc1 k hlt1
      obtain ⟨q, qo, rfl, hb2, hc2⟩ := HC.out.2.resolve_left (by omega)
      have hcell2 := hc2 k hlt2
      have hcg : wr.cell? ⟨W.heap.size, k, none⟩ = some (.int .i64 (upS (smF n0 ys0 ys1) k k)) := hrow.cell hlt
      have hfg : wr.frozen? ⟨W.heap.size, k, none⟩ = false := hrow.frozen k
      clear hc1 hc2 hrow
      go_wp2
      go_region
      all_goals
        go_wp2
        go_roundw
        case rel => exact ⟨k + 1, hlt, by go_num, row_setI HROW.out.drew (fun t => upS_set rfl t), Lib.hid ((B.out.drew).setCell (p := ⟨W.heap.size, k, none⟩) (Nat.le_refl _) _)⟩
        case measure => simp [intOf]; omega
    · obtain rfl : k = 6 := by omega
      have O5 := Lib.hid (own_of_row (B := W.heap.size) (Nat.le_refl _) (by omega) (hrow.congr fun t ht => by rw [upS_all ht]))
      have B5 := Lib.hid (HB.out.trans (B.out.mono HB.out.size))
      obtain ⟨lt0, x0, x1, x2⟩ := X0.out.keep B.out
      obtain ⟨lt1, y0, y1, y2⟩ := X1.out.keep B.out
      clear hrow
      go_wp2_with fail
      clear x0 x1 x2 y0 y1 y2
      refine (plusF_any n0 n1 xs0 xs1 _ _ _ _ _ hn0 hn8 h80 h81 (H0.out.keep B.out (Nat.le_refl _)) (H1.out.keep B.out (Nat.le_refl _))).mono ?_
      rintro e w3 ⟨v3, rfl, ho, hb⟩
      obtain ⟨a3, k3, rfl⟩ := ho.form
      have T3 := Lib.hid (B.out.trans (hb.mono B.out.size))
      have B6 := Lib.hid (HB.out.trans (T3.out.mono HB.out.size))
      have O6 := Lib.hid (O5.out.inn.below hb (Nat.le_refl _))
      have O7 := Lib.hid ho
      have hsz : W.heap.size ≤ wr.heap.size := B.out.size
      obtain ⟨lt2, z0, z1, z2, z3, z4, z5⟩ := (Z.out.keep T3.out).all
      have E6 := Lib.hid (show tab 6 (smF n0 ys0 ys1) = tab ys0.length (smF n0 ys0 ys1) by rw [Y6.out])
      have L6 := Lib.hid (show (tab 6 (smF n0 ys0 ys1)).length = 6 from tab_len _ _)
      clear ho hb
      go_wp2
      exact bodyPost_ret (v := .agg #[.int .i64 (smTo xs0 xs1 n0 xs1.length).length, .slice a3 (smTo xs0 xs1 n0 xs1.length).length k3, .slice (some ⟨W.heap.size, 0, none⟩) 6 6]) (by simp [results, Try.results45, go_sem, z0, z1, z2]) rfl ⟨_, rfl, by rw [← E6.out]; exact ((OwnM.two' (n := (smTo xs0 xs1 n0 xs1.length).length) O7.out.2 O6.out hsz).out3 (by omega)).mono (by omega), ((B6.out.setCell (by show w.heap.size ≤ _; simp; omega) _).setCell (by show w.heap.size ≤ _; simp; omega) _).setCell (by show w.heap.size ≤ _; simp; omega) _⟩

end Go.Proofs.Ytecjmibnoldpgab

/- Contracts of IsTrueAt of the model and of the program, at every argument. Conditions: those in the theorems. -/
namespace Go.Proofs.Ytecjmibnoldpgab
open Go.RowKit

def taC (c : Int) (n m : Int) : Int := if c = 0 then (if wlB n m then 0 else 2) else 1
noncomputable def taV (n : Int) (xs ys : List Int) (m : Int) (zs : List Nd) : Bool := if taC (mdC (isM n xs ys) (isB zs zs.length)) n m = 0 then bitB ((toFm zs).tr xs ys) m else false
theorem ta_no {n m : Int} {xs ys : List Int} {zs : List Nd} {b1 b2 : Bool} (h : isM n xs ys = b1) (h' : isB zs zs.length = b2) (hb : (b1 && b2) = false) : Ending.returned (.tuple #[.bool false, .int .i64 1]) = .returned (.tuple #[.bool (taV n xs ys m zs), .int .i64 (taC (mdC (isM n xs ys) (isB zs zs.length)) n m)]) := by rw [taV, h, h', mdC, hb]; rfl
theorem ta_out {n m : Int} {xs ys : List Int} {zs : List Nd} (h1 : isM n xs ys = true) (h2 : isB zs zs.length = true) (hw : wlB n m = false) : Ending.returned (.tuple #[.bool false, .int .i64 2]) = .returned (.tuple #[.bool (taV n xs ys m zs), .int .i64 (taC (mdC (isM n xs ys) (isB zs zs.length)) n m)]) := by
  have e : taC (mdC (isM n xs ys) (isB zs zs.length)) n m = 2 := by rw [h1, h2]; show (if wlB n m then (0 : Int) else 2) = 2; rw [hw]; rfl
  rw [taV, e]; rfl
theorem ta_ok {n m : Int} {xs ys : List Int} {zs : List Nd} (h1 : isM n xs ys = true) (h2 : isB zs zs.length = true) (hw : wlB n m = true) : Ending.returned (.tuple #[.bool (bitB ((toFm zs).tr xs ys) m), .int .i64 0]) = .returned (.tuple #[.bool (taV n xs ys m zs), .int .i64 (taC (mdC (isM n xs ys) (isB zs zs.length)) n m)]) := by
  have e : taC (mdC (isM n xs ys) (isB zs zs.length)) n m = 0 := by rw [h1, h2]; show (if wlB n m then (0 : Int) else 2) = 0; rw [hw]; rfl
  rw [taV, e]; rfl

end Go.Proofs.Ytecjmibnoldpgab

/- The contract of PartOfModel of the program, at every argument; both told by values. Conditions: those in the theorems. -/
namespace Go.Proofs.Ytecjmibnoldpgab
open Go.RowKit

theorem chk0_any (n : Int) (xs ys : List Int) (a : Option Addr) (cap : Nat) (b : Option Addr) (d : Nat) (w : World) (hl : xs.length ≤ 1048576) (hm : ys.length ≤ 1048576) (h : At w a xs.length xs) (h' : At w b ys.length ys) :
    Calls Try.prog 89 #[.agg #[.int .i64 n, .slice a xs.length cap, .slice b ys.length d], .slice none 0 0] w fun e w' => e = .returned (.int .i64 (if isM n xs ys then 0 else 1)) ∧ Below w.heap.size w w' := by
  refine (checkModel_any n xs ys a _ cap b _ d [] none 0 0 w hl hm (by omega) (fun j hj => by omega) h h' ⟨rfl, .inl rfl⟩).mono ?_
  rintro e w' ⟨rfl, hb⟩
  exact ⟨by cases isM n xs ys <;> rfl, hb⟩

set_option maxHeartbeats 2000000 in
set_option maxRecDepth 100000 in
theorem implPartOfModel_any (n m : Int) (xs ys : List Int) (a : Option Addr) (cap : Nat) (b : Option Addr) (d : Nat) (w : World) (hl : xs.length ≤ 1048576) (hm : ys.length ≤ 1048576) (h : At w a xs.length xs) (h' : At w b ys.length ys) :
    Calls Try.prog 62 #[.agg #[.int .i64 n, .slice a xs.length cap, .slice b ys.length d], .int .i64 m] w fun e w' => RM w' w.heap.size (pmL n xs ys m).length (pmC n xs ys m) (pmL n xs ys m) (pmV n xs ys m) e ∧ Below w.heap.size w w' := by
  obtain ⟨W, hW, HB, X, Z, hWs⟩ := boxM2 w n a xs.length cap b ys.length d
  have H := Lib.hid (h.keep HB.out (Nat.le_refl _))
  have H' := Lib.hid (h'.keep HB.out (Nat.le_refl _))
  have hz0 : w.heap.size + 1 + 1 ≤ W.heap.size := by omega
  have HW := Lib.hid hW
  clear h h' hW
  cases h1 : isM n xs ys
  · have F1 := Lib.hid h1
    have C := Lib.hid (pmC_1 (m := m) h1)
    have L := Lib.hid (pm_bad C.out (by decide))
    clear h1
    go_enter Try.func62, Try.ntmps62
    go_wp2_with fail
    rw [← HW.out]
    refine (chk0_any n xs ys _ _ _ _ _ hl hm H.out H'.out).mono ?_
    rw [F1.out]
    rintro e w1 ⟨rfl, hb⟩
    have B1 := Lib.hid (HB.out.trans (hb.mono HB.out.size))
    obtain ⟨lt2, z0, z1, z2, z3, z4, z5⟩ := (Z.out.keep hb).all
    clear hb
    go_wp2
    exact bodyPost_ret (v := .tuple #[.agg #[.int .i64 0, .slice none 0 0, .slice none 0 0], .int .i64 1]) (by simp [results, Try.results62, go_sem, z0, z1, z2]) rfl ⟨RM.bad C.out.symm (by rw [L.out.1]; rfl) L.out.1 L.out.2, ((B1.out.setCell (by show _ ≤ _; simp) _).setCell (by show _ ≤ _; simp) _).setCell (by show _ ≤ _; simp) _⟩
  · obtain ⟨e1, e2, -⟩ := isM_rel h1
    have hn0 : 0 ≤ n := by omega
    have hn30 : n ≤ 30 := by omega
    cases h2 : mskB n m
    · have F1 := Lib.hid h1
      have F2 := Lib.hid h2
      have C := Lib.hid (pmC_2 h1 h2)
      have L := Lib.hid (pm_bad C.out (by decide))
      clear h1 h2 e1 e2
      go_enter Try.func62, Try.ntmps62
      go_wp2_with fail
      rw [← HW.out]
      refine (chk0_any n xs ys _ _ _ _ _ hl hm H.out H'.out).mono ?_
      rw [F1.out]
      rintro e w1 ⟨rfl, hb⟩
      have B1 := Lib.hid (HB.out.trans (hb.mono HB.out.size))
      obtain ⟨lt, x0, x1, x2⟩ := X.out.keep hb
      obtain ⟨lt2, z0, z1, z2, z3, z4, z5⟩ := (Z.out.keep hb).all
      clear hb
      go_wp2_with (go_at_call 68; refine (isMaskWithin_any n m _ hn0 hn30).mono ?_; rw [F2.out]; rintro e w' ⟨rfl, rfl⟩)
      exact bodyPost_ret (v := .tuple #[.agg #[.int .i64 0, .slice none 0 0, .slice none 0 0], .int .i64 2]) (by simp [results, Try.results62, go_sem, z0, z1, z2]) rfl ⟨RM.bad C.out.symm (by rw [L.out.1]; rfl) L.out.1 L.out.2, ((B1.out.setCell (by show _ ≤ _; simp) _).setCell (by show _ ≤ _; simp) _).setCell (by show _ ≤ _; simp) _⟩
    · have F1 := Lib.hid h1
      have F2 := Lib.hid h2
      have C := Lib.hid (pmC_0 h1 h2)
      have L := Lib.hid (pm_ok C.out)
      have hy8 : ys.length ≤ 30 := by obtain ⟨-, -, -, -, h6, -⟩ := isM_ok h1; omega
      have h8 : xs.length ≤ 30 := by omega
      have CD := Lib.hid (show cod n m = 0 by rw [e1] at h2 ⊢; rw [cod_of (by omega) h2]; rfl)
      have OK := Lib.hid (show LsOk xs.length (memTo m.toNat xs.length) from memTo_ok _ _)
      have hlm : (memTo m.toNat xs.length).length ≤ 30 := Nat.le_trans (memTo_len _ _) (by omega)
      have EM := Lib.hid (show outL (cod n m) (memTo m.toNat n.toNat) = memTo m.toNat xs.length by rw [CD.out, e1, Int.toNat_natCast]; rfl)
      clear h1 h2 e1 e2
      go_enter Try.func62, Try.ntmps62
      go_wp2_with fail
      rw [← HW.out]
      refine (chk0_any n xs ys _ _ _ _ _ hl hm H.out H'.out).mono ?_
      rw [F1.out]
      rintro e w1 ⟨rfl, hb⟩
      have B1 := Lib.hid hb
      obtain ⟨lt, x0, x1, x2⟩ := X.out.keep hb
      clear hb
      go_wp2_with (go_at_call 68; refine (isMaskWithin_any n m _ hn0 hn30).mono ?_; rw [F2.out]; rintro e w' ⟨rfl, rfl⟩)
      refine (implMembersOf_any _ m _).mono ?_
      rw [EM.out, CD.out]
      rintro e w2 ⟨v2, rfl, ho, hb⟩
      obtain ⟨a2, k2, rfl, hat, -, -, -⟩ := ho.at
      have LA := Lib.hid hat
      have B2 := Lib.hid (B1.out.trans (hb.mono B1.out.size))
      clear x0 x1 x2 hb ho hat
      have H2 := Lib.hid (H.out.keep B2.out (Nat.le_refl _))
      have H2' := Lib.hid (H'.out.keep B2.out (Nat.le_refl _))
      obtain ⟨lt', x0, x1, x2⟩ := X.out.keep B2.out
      have hz2 := B2.out.size
      go_wp2_with fail
      clear x0 x1 x2
      refine (marr_any n xs ys _ _ _ _ _ _ _ _ _ h8 hy8 hlm OK.out H2.out H2'.out LA.out).mono ?_
      rintro e w3 ⟨v3, rfl, ho, hb⟩
      obtain ⟨a3, k3, b3, d3, rfl⟩ := ho.form
      have B3 := Lib.hid (B2.out.trans (hb.mono B2.out.size))
      obtain ⟨lt2, z0, z1, z2, z3, z4, z5⟩ := (Z.out.keep B3.out).all
      have B4 := Lib.hid (HB.out.trans (B3.out.mono HB.out.size))
      have O3 := Lib.hid ho
      clear ho hb
      go_wp2
      exact bodyPost_ret (v := .tuple #[.agg #[.int .i64 (arV xs (memTo m.toNat xs.length)).length, .slice a3 (arV xs (memTo m.toNat xs.length)).length k3, .slice b3 (mvV ys (memTo m.toNat xs.length)).length d3], .int .i64 0]) (by simp [results, Try.results62, go_sem, z0, z1, z2]) rfl ⟨RM.good C.out (by rw [L.out.1]) L.out.1 L.out.2 (O3.out.out3 (by omega)) (by omega), ((B4.out.setCell (by show _ ≤ _; simp) _).setCell (by show _ ≤ _; simp) _).setCell (by show _ ≤ _; simp) _⟩

theorem specPartOfModel_v (n : Int) (xs ys : List Int) (m : Int) (v : Value) (lo hi : Nat) (w : World) (hl : xs.length ≤ 1048576) (hm : ys.length ≤ 1048576) (h : InM w lo hi v n xs ys) :
    Calls Try.prog 58 #[v, .int .i64 m] w fun e w' => ∃ v', e = .returned (.tuple #[v', .int .i64 (pmC n xs ys m)]) ∧ OwnM w' w.heap.size v' (pmL n xs ys m).length (pmL n xs ys m) (pmV n xs ys m) ∧ Below w.heap.size w w' := by
  obtain ⟨a, cap, b, d, rfl, hat, hat', -⟩ := h.at
  exact (specPartOfModel_any n m xs ys a cap b d w hl hm hat hat').mono fun e w' ⟨⟨v, e1, o⟩, b⟩ => ⟨v, e1, o, b⟩
theorem implPartOfModel_v (n : Int) (xs ys : List Int) (m : Int) (v : Value) (lo hi : Nat) (w : World) (hl : xs.length ≤ 1048576) (hm : ys.length ≤ 1048576) (h : InM w lo hi v n xs ys) :
    Calls Try.prog 62 #[v, .int .i64 m] w fun e w' => ∃ v', e = .returned (.tuple #[v', .int .i64 (pmC n xs ys m)]) ∧ OwnM w' w.heap.size v' (pmL n xs ys m).length (pmL n xs ys m) (pmV n xs ys m) ∧ Below w.heap.size w w' := by
  obtain ⟨a, cap, b, d, rfl, hat, hat', -⟩ := h.at
  exact (implPartOfModel_any n m xs ys a cap b d w hl hm hat hat').mono fun e w' ⟨⟨v, e1, o⟩, b⟩ => ⟨v, e1, o, b⟩

end Go.Proofs.Ytecjmibnoldpgab
