/- 3 texts in one: Dp, Ds, Tt. -/
import Derived.Test.YtfkahkhmnchnjaaDoorDpM
import Derived.Test.YtfkahkhmnchnjaaDoorJn09
import Derived.Test.YtfkahkhmnchnjaaDoorJn03
import Derived.Test.YtfkahkhmnchnjaaDoorJn10
import Derived.Test.YtfkahkhmnchnjaaDoorJn12
/- DependsOn of the model and of the program. Conditions: the package's table for the program, and those in the theorems. -/
namespace Go.Proofs.YtfkahkhmnchnjaaDoor
open Go.RowKit

noncomputable def dpV (xs : List Nd) : List Int := if ck xs = 0 then dpL (toFm xs) 6 else []
theorem dpV_bad {xs : List Nd} (h : ck xs ≠ 0) : dpV xs = [] := if_neg h
theorem dpV_good {xs : List Nd} (h : ck xs = 0) : dpV xs = dpL (toFm xs) 6 := if_pos h
theorem DependsOn_len (xs : List Nd) : (dpV xs).length ≤ 1048576 := by
  unfold dpV
  split
  · have := dpL_len (toFm xs) 6; omega
  · exact Nat.zero_le _
theorem dpL_yes {f : Fm} {n : Nat} (h : dpR f n 64 = true) : dpL f (n + 1) = dpL f n ++ [((n : Nat) : Int)] := by rw [dpL, if_pos h]
theorem dpL_no {f : Fm} {n : Nat} (h : dpR f n 64 = false) : dpL f (n + 1) = dpL f n := by rw [dpL, if_neg (by simp [h])]
theorem ownsRow_mono' {w : World} {B B' : Nat} {e : TypeId} {sz : Nat} {v : Value} {n : Nat} {xs : List Value} (h : w.ownsRow B e sz v n xs) (hB : B' ≤ B) : w.ownsRow B' e sz v n xs := by
  refine ⟨h.1, ?_⟩
  rcases h.2 with h2 | ⟨g, cap, cur, hv, hg, r⟩
  · exact .inl h2
  · exact .inr ⟨g, cap, cur, hv, Nat.le_trans hB hg, r⟩

set_option maxHeartbeats 1000000 in
theorem flipped_any (b : BitVec 64) (v : Nat) (hv : v < 6) (w : World) (hT : Tb w) :
    Calls Tryd.prog 26 #[.int .u64 (U b), .int .i64 v] w fun e w' => e = .returned (.int .u64 (U (flB b v))) ∧ ∃ q, w' = w.drewN q := by
  have c := hT v hv
  have E := Lib.hid (show bits .or .u64 (bits .and .u64 (U b) (U (vr v)) / 2 ^ (2 ^ v)) (IntKind.u64.wrap (bits .andNot .u64 (U b) (U (vr v)) * 2 ^ (2 ^ v))) = U (flB b v) by
    rw [U_and, U_andNot, U_shr, U_shl, U_or]; rfl)
  clear hT
  generalize U (flB b v) = r at E ⊢
  generalize U b = x at E ⊢
  generalize U (vr v) = z at E c
  have hv2 : v = 0 ∨ v = 1 ∨ v = 2 ∨ v = 3 ∨ v = 4 ∨ v = 5 := by omega
  clear hv
  rcases hv2 with rfl | rfl | rfl | rfl | rfl | rfl
  all_goals
    go_enter Tryd.func26, Tryd.ntmps26
    go_wp2
    go_quiet (fail)
    go_wp2
    go_ret
    exact ⟨ret_int E.out, _, rfl⟩

set_option maxHeartbeats 1000000 in
theorem implDependsOn_v (x0 : List Nd) (v : Value) (lo hi : Nat) (w : World) (hl : x0.length ≤ 1048576) (h : InN w lo hi v x0) (hT : Tb w) :
    Calls Tryd.prog 13 #[v] w fun e w' => ∃ v', e = .returned (.tuple #[v', .int .i64 (ck x0)]) ∧ Own w' w.heap.size v' (dpV x0) ∧ Below w.heap.size w w' := by
  obtain ⟨a, cap, rfl, hat, hca, hcb⟩ := h.at'
  have MM := modelsOf_any x0 a cap w hl hat hT
  have T := Lib.hid hT
  clear h hat hT
  by_cases hc : ck x0 = 0
  · have F1 := Lib.hid (toFm_of (ck_good hc).1).1
    rw [dpV_good hc]
    rw [hc, mwR_good hc] at MM
    rw [hc]
    have C := Lib.hid MM
    clear MM hc
    generalize toFm x0 = f at C F1 ⊢
    go_enter Tryd.func13, Tryd.ntmps13
    go_wp2_with fail
    refine C.out.mono ?_
    rintro e w0 ⟨rfl, hb0⟩
    have B0 := Lib.hid hb0
    have hb0s := hb0.size
    have Z0 := Lib.hid (ownI_none w0 w.heap.size)
    clear hb0 C
    obtain ⟨y, hy⟩ : ∃ y, y = U f.mw := ⟨_, rfl⟩
    rw [← hy]
    have Y := Lib.hid hy
    clear hy
    go_wp2
    go_loopw [6, 16] (fun v i wr => ∃ k : Nat, k ≤ 6 ∧ i = .int .i64 k ∧ Own wr w.heap.size v (dpL f k) ∧ Below w.heap.size w wr) (fun _ i _ => 6 - (intOf i).toNat)
    case atStart => exact ⟨0, Nat.zero_le _, rfl, Z0.out, B0.out⟩
    case round =>
      obtain ⟨k, hk, rfl, hown, hbel⟩ := hrel
      have HO := Lib.hid hown
      have B := Lib.hid hbel
      have hbs := hbel.size
      have hlen := dpL_len f k
      clear hown hbel
      by_cases hlt : k < 6
      · have FL := Lib.hid (flipped_any f.mw k hlt wr (T.out.keep B.out (Nat.le_refl _)))
        have EQ := dp_word f F1.out hlt
        obtain ⟨z, hz⟩ : ∃ z, z = U (flB f.mw k) := ⟨_, rfl⟩
        rw [← hz, ← Y.out] at EQ FL
        clear hz
        cases hd : dpR f k 64
        · have N := Lib.hid (dpL_no hd)
          rw [hd] at EQ
          have hzy : z = y := by simpa using EQ
          subst hzy
          clear EQ hd
          go_wp2_with fail
          refine FL.out.mono ?_
          rintro e w1 ⟨rfl, q, rfl⟩
          go_wp2
          go_roundw
          case rel => exact ⟨k + 1, hlt, by go_num, by rw [N.out]; exact HO.out.keep (below_drewN (Below.refl wr.heap.size wr) q) (Nat.le_refl _), below_drewN B.out q⟩
          case measure => simp [intOf]; omega
        · have N := Lib.hid (dpL_yes hd)
          rw [hd] at EQ
          have hzy : (z != y) = true := by simpa using EQ
          have hzy2 : (z == y) = false := by simpa using EQ
          clear EQ hd
          go_wp2_with fail
          refine FL.out.mono ?_
          rintro e w1 ⟨rfl, q, rfl⟩
          have HO2 := Lib.hid (HO.out.keep (below_drewN (Below.refl wr.heap.size wr) q) (Nat.le_refl _))
          have B2 := Lib.hid (below_drewN B.out q)
          have hbs2 := B2.out.size
          obtain ⟨wq, hwq⟩ : ∃ wq, wq = wr.drewN q := ⟨_, rfl⟩
          rw [← hwq] at HO2 B2 hbs2 ⊢
          clear hwq
          go_wp2_with (at_builtin; refine list_app1 rfl _ _ rfl w.heap.size _ _ _ rfl (HO2.out.alloc _) ⟨wq.heap.size, 0, none⟩ 1 _ rfl (World.cell?_alloc_at _ _ _ _ rfl) (by omega) (by simp; omega) ?_; intro v' w2 hown1 hgr1)
          have B3 := Lib.hid (below_app B2.out ((Below.refl _ _).alloc hbs2 _) hbs2 HO2.out hgr1)
          have O3 := Lib.hid (Own.snoc hown1)
          clear hown1 hgr1
          go_roundw
          case rel => exact ⟨k + 1, hlt, by go_num, by rw [N.out]; exact O3.out, B3.out⟩
          case measure => simp [intOf]; omega
      · obtain rfl : k = 6 := by omega
        go_wp2
        go_ret2
        exact ⟨_, rfl, HO.out, B.out⟩
  · rw [dpV_bad hc]
    rw [mwR_bad hc] at MM
    have C := Lib.hid MM
    have hne : (ck x0 == 0) = false := by simpa using hc
    generalize ck x0 = z at C hne ⊢
    clear MM hc
    go_enter Tryd.func13, Tryd.ntmps13
    go_wp2_with fail
    refine C.out.mono ?_
    rintro e w1 ⟨rfl, hb1⟩
    have B1 := Lib.hid hb1
    clear hb1
    go_wp2
    go_ret2
    exact ⟨_, rfl, ownI_none _ _, B1.out⟩

end Go.Proofs.YtfkahkhmnchnjaaDoor

/- DependsOn of the model. Conditions: those in the theorems. -/
namespace Go.Proofs.YtfkahkhmnchnjaaDoor
open Go.RowKit

theorem dpR_1 {f : Fm} {v r : Nat} (h : dpR f v r = true) : dpR f v (r + 1) = true := by rw [dpR, h]; rfl
theorem dpR_2 {f : Fm} {v r : Nat} (h : dpR f v r = false) (hb : r.testBit v = true) : dpR f v (r + 1) = false := by rw [dpR, h, hb]; rfl
theorem dpR_3 {f : Fm} {v r p : Nat} (h : dpR f v r = false) (hb : r.testBit v = false) (hp : p = 2 ^ v) : dpR f v (r + 1) = (f.ev r != f.ev (r + p)) := by rw [dpR, h, hb, hp]; rfl
theorem one_p {v : Nat} (hv : v < 6) : ∃ p : Nat, p = 2 ^ v ∧ one (v : Int) = (p : Int) ∧ p ≤ 32 := by
  refine ⟨2 ^ v, rfl, ?_, ?_⟩
  · rw [one_eq _ (by omega) (by omega), Int.toNat_natCast]; simp
  · have : (2 : Nat) ^ v ≤ 2 ^ 5 := Nat.pow_le_pow_right (by decide) (by omega)
    exact this

end Go.Proofs.YtfkahkhmnchnjaaDoor

/- Contracts of TruthTable of the model and of the program, at every list of nodes. Conditions: the package's table, and those in the theorems. -/
namespace Go.Proofs.YtfkahkhmnchnjaaDoor
open Go.RowKit

theorem ownsRow_monoT {w : World} {B B' : Nat} {e : TypeId} {sz : Nat} {v : Value} {n : Nat} {xs : List Value} (h : w.ownsRow B e sz v n xs) (hB : B' ≤ B) : w.ownsRow B' e sz v n xs := by
  refine ⟨h.1, ?_⟩
  rcases h.2 with h2 | ⟨g, cap, cur, hv, hg, r⟩
  · exact .inl h2
  · exact .inr ⟨g, cap, cur, hv, Nat.le_trans hB hg, r⟩
def b01 (b : Bool) : Int := if b then 1 else 0
def ttL (f : Fm) (n : Nat) : List Int := (tbl f n).map b01
theorem ttL_len (f : Fm) (n : Nat) : (ttL f n).length = n := by simp [ttL, tbl_len]
theorem ttL_succ (f : Fm) (n : Nat) : ttL f (n + 1) = ttL f n ++ [b01 (f.ev n)] := by simp [ttL, tbl_succ]
theorem ttL_at (f : Fm) {n j : Nat} (h : j < n) : nth (ttL f n) j = b01 (f.ev j) := by simp [ttL, tbl, nth, List.getD, h]
noncomputable def ttR (xs : List Nd) : List Int := if ck xs = 0 then ttL (toFm xs) 64 else []
theorem TruthTable_len (xs : List Nd) : (ttR xs).length ≤ 1048576 := by
  unfold ttR
  split
  · rw [ttL_len]; omega
  · exact Nat.zero_le _
theorem ttR_bad {xs : List Nd} (h : ck xs ≠ 0) : ttR xs = [] := if_neg h
theorem ttR_good {xs : List Nd} (h : ck xs = 0) : ttR xs = ttL (toFm xs) 64 := if_pos h

set_option maxHeartbeats 1000000 in
theorem specTruthTable_v (x0 : List Nd) (v : Value) (lo hi : Nat) (w : World) (hl : x0.length ≤ 1048576) (h : InN w lo hi v x0) :
    Calls Tryd.prog 7 #[v] w fun e w' => ∃ v', e = .returned (.tuple #[v', .int .i64 (ck x0)]) ∧ Own w' w.heap.size v' (ttR x0) ∧ Below w.heap.size w w' := by
  obtain ⟨a, cap, rfl, hat, hca, hcb⟩ := h.at'
  have CN := code1_any x0 a x0.length cap w.heap.size w hl hat 24 rfl
  have H := Lib.hid hat
  clear h hat
  by_cases hc : ck x0 = 0
  · rw [ttR_good hc]
    rw [hc] at CN ⊢
    obtain ⟨b, off, rfl, hf, f1, f4, h40⟩ := plain_at hc H.out hca hcb
    have C := Lib.hid CN
    have F := Lib.hid hf
    have F1 := Lib.hid f1
    have F4 := Lib.hid f4
    clear CN hf f1 f4 hc H
    generalize toFm x0 = f at F F1 F4 ⊢
    go_enter Tryd.func7, Tryd.ntmps7
    go_wp2_with fail
    refine C.out.mono ?_
    rintro e w1 ⟨rfl, hb1⟩
    have B1 := Lib.hid hb1
    have hs1 := hb1.size
    clear hb1 C
    have Z0 := Lib.hid (show Own (w1.alloc (.cells #[] 2)) w.heap.size (.slice (some ⟨w1.heap.size, 0, none⟩) 0 0) [] from World.ownsRow_made w1 #[] 0 hs1 (Nat.zero_le _) rfl)
    have BZ := Lib.hid (B1.out.alloc hs1 (.cells #[] 2))
    go_wp2_with fail
    refine (l04Table_any f F1.out F4.out b off _ cap _ hl (F.out.keep BZ.out (Nat.le_refl _))).mono ?_
    rintro e w2 ⟨v2, rfl, ho2, hb2⟩
    obtain ⟨a2, cap2, rfl⟩ := row_slice ho2
    have B2 := Lib.hid (BZ.out.trans (hb2.mono BZ.out.size))
    have A2 := Lib.hid (show w2.ownsRow w.heap.size 4 1 (.slice a2 64 cap2) 64 ((tbl f 64).map Value.bool) by
      have := ownsRow_monoT ho2 BZ.out.size
      simp only [tbl_len] at this ⊢
      exact this)
    simp only [tbl_len]
    have O2 := Lib.hid (Z0.out.keep hb2 (Nat.le_refl _))
    have hs2 := B2.out.size
    have hb2s := Lib.hid hb2.size
    clear hb2 ho2 Z0
    go_wp2
    go_loopw [5, 7] (fun v i wr => ∃ t : Nat, t ≤ 64 ∧ i = .int .i64 t ∧ Own wr w.heap.size v (ttL f t) ∧ Below w.heap.size w wr ∧ wr.ownsRow w.heap.size 4 1 (.slice a2 64 cap2) 64 ((tbl f 64).map Value.bool)) (fun _ i _ => 64 - (intOf i).toNat)
    case atStart => exact ⟨0, Nat.zero_le _, rfl, O2.out, B2.out, A2.out⟩
    case round =>
      obtain ⟨k, hk, rfl, hown, hbel, hat⟩ := hrel
      have HO := Lib.hid hown
      have B := Lib.hid hbel
      have A := Lib.hid hat
      have hbs := hbel.size
      have hlen := ttL_len f k
      clear hown hbel hat
      by_cases hlt : k < 64
      · have A3 := OwnB.cells A.out (tbl_len f 64).symm
        obtain ⟨b3, off3, rfl, hb3, hc3⟩ := A3.2.resolve_left (by omega)
        have hc4 := hc3 k hlt
        rw [tbl_at f hlt] at hc4
        have N := Lib.hid (ttL_succ f k)
        generalize f.ev k = y at hc4 N
        clear hc3 A3
        cases y
        all_goals
          go_wp2_with (at_builtin; refine list_app1 rfl _ _ rfl w.heap.size _ _ _ rfl (HO.out.alloc _) ⟨wr.heap.size, 0, none⟩ 1 _ rfl (World.cell?_alloc_at _ _ _ _ rfl) (by omega) (by simp; omega) ?_; intro v' w2 hown1 hgr1)
          have B2 := Lib.hid (below_app B.out ((Below.refl _ _).alloc hbs _) hbs HO.out hgr1)
          have O2 := Lib.hid (Own.snoc hown1)
          have A2 := Lib.hid (row_kept (World.ownsRow.alloc A.out _) hgr1 (row_other (HO.out.alloc _) (by decide)))
          clear hown1 hgr1
          go_roundw
          case rel => exact ⟨k + 1, hlt, by go_num, by rw [N.out]; exact O2.out, B2.out, A2.out⟩
          case measure => simp [intOf]; omega
      · obtain rfl : k = 64 := by omega
        go_wp2
        go_ret2
        exact ⟨_, rfl, HO.out, B.out⟩
  · rw [ttR_bad hc]
    have C := Lib.hid CN
    have hne : (ck x0 == 0) = false := by simpa using hc
    generalize ck x0 = z at C hne ⊢
    clear CN hc
    go_enter Tryd.func7, Tryd.ntmps7
    go_wp2_with fail
    refine C.out.mono ?_
    rintro e w1 ⟨rfl, hb1⟩
    have B1 := Lib.hid hb1
    clear hb1
    go_wp2
    go_ret2
    exact ⟨_, rfl, ownI_none _ _, B1.out⟩

end Go.Proofs.YtfkahkhmnchnjaaDoor
