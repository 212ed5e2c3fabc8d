/- Contracts of ClustersOf of the model and of the program, at every argument. Conditions: the table of math/bits for the program, and those in the theorems. -/
import Derived.Lib.BufferOwn
import Derived.Test.YthjagdkploladaaDoorCuP
namespace Go.Proofs.YthjagdkploladaaDoor
open Go.RowKit

theorem rowIs_below {w w' : World} {C b n : Nat} {t : TypeId} {f : Nat → Value} (h : w.rowIs b t n f) (hb : Below C w w') (hC : b < C) : w'.rowIs b t n f := by
  obtain ⟨c, h1, h2, h3⟩ := h
  exact ⟨c, (hb.block b hC).trans h1, h2, h3⟩
def cuC (n : Int) (xs : List Int) : Int := if frB n xs then 0 else 1
def cuR (n : Int) (xs : List Int) : List Int := if frB n xs then ckL xs else []
theorem cu_bad {n : Int} {xs : List Int} (h : frB n xs = false) : cuR n xs = [] ∧ cuC n xs = 1 := by unfold cuR cuC; rw [h]; exact ⟨rfl, rfl⟩
theorem cu_good {n : Int} {xs : List Int} (h : frB n xs = true) : cuR n xs = ckL xs ∧ cuC n xs = 0 := by unfold cuR cuC; rw [h]; exact ⟨rfl, rfl⟩
theorem ClustersOf_len (n : Int) (xs : List Int) : (cuR n xs).length ≤ 1048576 := by
  cases h : frB n xs
  · rw [(cu_bad h).1]; simp
  · obtain ⟨-, h8, -, hr⟩ := frB_ok h
    rw [(cu_good h).1, ckL_len (by omega) hr]; omega

set_option maxHeartbeats 400000 in
theorem specClustersOf_v (n : Int) (xs : List Int) (v : Value) (lo hi : Nat) (w : World) (hl : xs.length ≤ 1048576) (h : InF w lo hi v n xs) :
    Calls Tryd.prog 7 #[v] w fun e w' => ∃ v', e = .returned (.tuple #[v', .int .i64 (cuC n xs)]) ∧ Own w' w.heap.size v' (cuR n xs) ∧ Below w.heap.size w w' := by
  obtain ⟨a, cap, rfl, hat, -⟩ := h.at
  have HB := Lib.hid (boxF (w := w) n a xs.length cap)
  have X := Lib.hid (Bx.new w n a xs.length cap 26)
  have H := Lib.hid (hat.keep HB.out (Nat.le_refl _))
  clear h hat
  cases hb : frB n xs
  · obtain ⟨e1, e2⟩ := cu_bad hb
    rw [e1, e2]
    have F := Lib.hid hb
    clear hb e1 e2
    go_enter Tryd.func7, Tryd.ntmps7
    go_wp2_with fail
    refine (l05Is_any n xs _ _ _ _ hl H.out).mono ?_
    rw [F.out]
    rintro e w1 ⟨rfl, hb⟩
    have B1 := Lib.hid (HB.out.trans (hb.mono HB.out.size))
    clear hb
    go_wp2
    go_ret2
    exact ⟨_, rfl, World.ownsRow_nil _ _ _ _, B1.out⟩
  · obtain ⟨e1, e2⟩ := cu_good hb
    rw [e1, e2]
    obtain ⟨hn, h8, -, hr⟩ := frB_ok hb
    have F := Lib.hid hb
    have HR := Lib.hid hr
    have C := Lib.hid (fun (w : World) (a : Option Addr) (cap : Nat) (h : At w a xs.length xs) => l05Clusters_any xs a cap w h8 hr h)
    rw [← hn] at C
    clear hb e1 e2 hr hn
    go_enter Tryd.func7, Tryd.ntmps7
    go_wp2_with fail
    refine (l05Is_any n xs _ _ _ _ hl H.out).mono ?_
    rw [F.out]
    rintro e w1 ⟨rfl, hb⟩
    have B1 := Lib.hid (HB.out.trans (hb.mono HB.out.size))
    have H1 := Lib.hid (H.out.keep hb (Nat.le_refl _))
    obtain ⟨lt, x0, x1⟩ := X.out.keep hb
    clear hb
    go_wp2_with fail
    refine (C.out _ _ _ H1.out).mono ?_
    rintro e w2 ⟨v2, rfl, ho, hb⟩
    have B2 := Lib.hid (B1.out.trans (hb.mono B1.out.size))
    have O2 := Lib.hid (ho.mono B1.out.size)
    clear hb ho x0 x1
    go_wp2
    go_ret2
    exact ⟨_, rfl, O2.out, B2.out⟩

set_option maxHeartbeats 2000000 in
set_option maxRecDepth 100000 in
theorem implClustersOf_v (n : Int) (xs : List Int) (v : Value) (lo hi : Nat) (w : World) (hl : xs.length ≤ 1048576) (h : InF w lo hi v n xs) (hT : Db w) :
    Calls Tryd.prog 6 #[v] w fun e w' => ∃ v', e = .returned (.tuple #[v', .int .i64 (cuC n xs)]) ∧ Own w' w.heap.size v' (cuR n xs) ∧ Below w.heap.size w w' := by
  obtain ⟨a, cap, rfl, hat, -⟩ := h.at
  obtain ⟨W, hW⟩ : ∃ W, W = w.alloc (.cells #[.int .i64 n, .slice a xs.length cap] 26) := ⟨_, rfl⟩
  have HB := Lib.hid (show Below w.heap.size w W by rw [hW]; exact boxF (w := w) n a xs.length cap)
  have X := Lib.hid (show Bx W w.heap.size n a xs.length cap by rw [hW]; exact Bx.new w n a xs.length cap 26)
  have HW := Lib.hid hW
  clear hW
  have H := Lib.hid (hat.keep HB.out (Nat.le_refl _))
  have TT := Lib.hid (hT.keep HB.out (Nat.le_refl _))
  clear h hat hT
  cases hb : frB n xs
  · obtain ⟨e1, e2⟩ := cu_bad hb
    rw [e1, e2]
    have F := Lib.hid hb
    clear hb e1 e2
    go_enter Tryd.func6, Tryd.ntmps6
    go_wp2_with fail
    rw [← HW.out]
    refine (implIsFrame_any n xs _ _ _ _ hl H.out).mono ?_
    rw [F.out]
    rintro e w1 ⟨rfl, hb⟩
    have B1 := Lib.hid (HB.out.trans (hb.mono HB.out.size))
    clear hb
    go_wp2
    go_ret2
    exact ⟨_, rfl, World.ownsRow_nil _ _ _ _, B1.out⟩
  · obtain ⟨e1, e2⟩ := cu_good hb
    rw [e1, e2]
    obtain ⟨rfl, h8, -, hr⟩ := frB_ok hb
    have F := Lib.hid hb
    have HR := Lib.hid hr
    clear hb e1 e2 hr
    have hmk := fun (W : World) => run_make_row' (P := Tryd.prog) 24 2 (.int .i64 0) 8 Tryd.underlying24 info64 rfl .i64 .i64 xs.length (by omega) (by omega) W
    go_enter Tryd.func6, Tryd.ntmps6
    go_wp2_with fail
    rw [← HW.out]
    refine (implIsFrame_any _ xs _ _ _ _ hl H.out).mono ?_
    rw [F.out]
    rintro e w1 ⟨rfl, hb⟩
    have T1 := Lib.hid hb
    obtain ⟨lt, x0, x1⟩ := X.out.keep hb
    have R1 := Lib.hid (World.rowIs_made w1 (.int .i64 0) xs.length 2)
    have hb2 : Below w1.heap.size w1 (w1.alloc (.cells (madeCells #[.int .i64 0] xs.length) 2)) := (alloc_keep _ _).1
    have T2 := Lib.hid (T1.out.trans (hb2.mono T1.out.size))
    have hs2 := (alloc_keep w1 (.cells (madeCells #[.int .i64 0] xs.length) 2)).2
    have B1 := Lib.hid hb2
    clear hb hb2
    go_wp2_with fail
    clear hmk x0 x1
    refine (clusterMasks_any _ xs _ _ _ (by omega) (H.out.keep T2.out (Nat.le_refl _))).mono ?_
    rintro e w3 ⟨v3, rfl, ho, hb⟩
    obtain ⟨a3, c3, rfl, hat, -, -, -⟩ := ho.at
    rw [cuL_len] at hat ⊢
    have L3 := Lib.hid hat
    have T3 := Lib.hid (T2.out.trans (hb.mono T2.out.size))
    have R3 := Lib.hid (rowIs_below R1.out hb (by omega))
    have B3 := Lib.hid (B1.out.trans (hb.mono (by omega)))
    have O3 := Lib.hid (ho.inn)
    have hs1 := T1.out.size
    have hs3 := hb.size
    clear ho hb hat
    go_wp2
    go_loopw [5, 18] (fun c i wr => ∃ k : Nat, k ≤ xs.length ∧ i = .int .i64 k ∧ c = .int .i64 (ckS xs k).2 ∧ wr.rowIs w1.heap.size 2 xs.length (fun t => .int .i64 (cuS xs k t)) ∧ Hid (w3.grownBy wr (some w1.heap.size))) (fun _ i _ => xs.length - (intOf i).toNat)
    case atStart => exact ⟨0, Nat.zero_le _, rfl, rfl, R3.out.congr fun t _ => by rw [cuS_start], Lib.hid (World.grownBy.refl _ _)⟩
    case round =>
      obtain ⟨k, hk, rfl, rfl, hrow, G⟩ := hrel
      have ZW := Lib.hid (show Below W.heap.size W wr from T3.out.grown G.out (Nat.le_trans T3.out.size (Nat.le_refl _)) (fun j e => by cases e; exact hs1))
      have ZB := Lib.hid (HB.out.trans (ZW.out.mono HB.out.size))
      have TR := Lib.hid (TT.out.keep ZW.out (Nat.le_refl _))
      have OR := Lib.hid (O3.out.oth (b := some w1.heap.size) (lo' := w1.heap.size) (hi' := w1.heap.size + 1) (fun j e => by cases e; omega) G.out (.inr (by omega)))
      have h30 : xs.length ≤ 30 := by omega
      obtain ⟨i1, i2, i3, -, -⟩ := ck_inv h30 HR.out k hk
      have ROW := Lib.hid hrow
      by_cases hlt : k < xs.length
      · obtain ⟨a4, c4, e4, hat4, -⟩ := OR.out.1.at
        rw [cuL_len] at e4 hat4
        cases e4
        obtain ⟨b, off, rfl, -, hc⟩ := hat4.2.resolve_left (by omega)
        have hcell := hc k hlt
        obtain ⟨cm1, -⟩ := cu_T h30 HR.out hlt
        obtain ⟨l0, l1, l2, l3⟩ := leC_spec h30 HR.out hlt
        have LO := Lib.hid (ck_low h30 HR.out hlt)
        have NW := Lib.hid (ck_new h30 HR.out hlt)
        obtain ⟨q, hq⟩ : ∃ q, q = leC xs k := ⟨_, rfl⟩
        have hqc : q = Lib.ctz 64 (nth (cuL xs) k).toNat := hq
        have hmb := cm1.bd h30
        obtain ⟨m, hm⟩ := Int.eq_ofNat_of_zero_le cm1.1
        rw [hm, Int.toNat_natCast] at hqc l0
        rw [hm] at hcell hmb
        have LM := Lib.hid (leastMember_any m (by omega) l0 wr TR.out)
        rw [← hqc] at LM
        rw [← hq] at LO NW l1
        have hcq : wr.cell? ⟨w1.heap.size, q, none⟩ = some (.int .i64 (cuS xs k q)) := hrow.cell (by omega)
        have hcg : wr.cell? ⟨w1.heap.size, k, none⟩ = some (.int .i64 (cuS xs k k)) := hrow.cell hlt
        have hfg : wr.frozen? ⟨w1.heap.size, k, none⟩ = false := hrow.frozen k
        have GS := Lib.hid (fun z => Lib.grownBy_setB G.out k z)
        have HK := Lib.hid (show ∀ (z c : Int), ckS xs (k + 1) = ((ckS xs k).1 ++ [z], c) → ∀ t : Nat, (if t = k then z else cuS xs k t) = cuS xs (k + 1) t from fun z c h t => cuS_set h30 HR.out hlt h t)
        clear hc hat4 hq hqc hm l2 l3 cm1 hrow i1
        by_cases hl : q < k
        · have EL := Lib.hid (LO.out hl)
          have EC := Lib.hid (show cuS xs k q = nth (ckS xs k).1 q by unfold cuS; rw [if_pos hl])
          rw [EC.out] at hcq
          go_wp2_with (go_at_call 18; refine LM.out.mono ?_; rintro e w' ⟨rfl, rfl⟩)
          go_roundw
          case rel => exact ⟨k + 1, hlt, by go_num, by rw [EL.out], row_setI ROW.out (HK.out _ _ EL.out), Lib.hid (GS.out _)⟩
          case measure => simp [intOf]; omega
        · have EN := Lib.hid (NW.out hl)
          go_wp2_with (go_at_call 18; refine LM.out.mono ?_; rintro e w' ⟨rfl, rfl⟩)
          go_roundw
          case rel => exact ⟨k + 1, hlt, by go_num, by rw [EN.out], row_setI ROW.out (HK.out _ _ EN.out), Lib.hid (GS.out _)⟩
          case measure => simp [intOf]; omega
      · obtain rfl : k = xs.length := by omega
        have O5 := Lib.hid (own_of_row (B := w1.heap.size) (Nat.le_refl _) (by omega) (hrow.congr fun t ht => by rw [cuS_all ht]))
        have E5 := Lib.hid (tab_ck h30 HR.out)
        clear hrow
        go_wp2
        go_ret2
        refine ⟨_, rfl, ?_, ZB.out⟩
        rw [← E5.out]
        exact O5.out.mono (by have := HB.out.size; omega)

end Go.Proofs.YthjagdkploladaaDoor
