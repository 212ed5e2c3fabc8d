/- PointsHold: the program's entry. Conditions: those in the theorems. -/
import Derived.Laws.CopyOwn
import Derived.Test.YtbfnagmjnaacoaaHpW
namespace Go.Proofs.Ytbfnagmjnaacoaa
open Go.RowKit

def zer13 (N : Nat) (a : Option Addr) (c : Nat) (xs : List Int) (a' : Option Addr) (d : Nat) (ys : List Int) : List Value := [.int .i64 (N : Int), .slice a xs.length c, .slice a' ys.length d, .int .i64 0, .int .i64 0, .int .i64 0, .int .i64 0, .int .i64 0, .int .i64 0, .int .i64 0, .int .i64 0, .int .i64 0, .int .i64 0]
theorem zer_splice (N : Nat) (a : Option Addr) (c : Nat) (xs : List Int) (a' : Option Addr) (d : Nat) (ys : List Int) (ls : List Int) (h : ls.length = 10) : (splice (zer13 N a c xs a' d ys) 3 (ls.map (Value.int .i64))).toArray = pcs N a c xs a' d ys ls := by
  match ls, h with
  | [_, _, _, _, _, _, _, _, _, _], _ => rfl
theorem sz64p : (Try.prog.info? 2).map (·.size) = some 1 := by kernel_rfl
theorem ints_one (ls : List Int) : ∀ v ∈ ls.map (Value.int .i64), v.oneCell' = true := by
  intro v hv
  obtain ⟨z, -, rfl⟩ := List.mem_map.1 hv
  rfl
theorem at10_cells {w : World} {b o : Nat} {ls : List Int} (h : At w (some ⟨b, o, none⟩) 10 ls) (hl : ls.length = 10) (j : Nat) (v : Value) (hv : (ls.map (Value.int .i64))[j]? = some v) : w.cell? ((⟨b, o, none⟩ : Addr).add j) = some v := by
  have hj : j < 10 := by
    have := (List.getElem?_eq_some_iff.1 hv).1
    rw [List.length_map] at this
    omega
  obtain ⟨b', o', e, -, hc⟩ := h.2.resolve_left (by omega)
  simp only [Option.some.injEq, Addr.mk.injEq] at e
  obtain ⟨rfl, rfl, -⟩ := e
  have e1 : (⟨b, o, none⟩ : Addr).add j = ⟨b, o + j, none⟩ := by unfold Addr.add; split <;> simp_all
  rw [e1, hc j hj]
  rw [List.getElem?_map] at hv
  have e2 : ls[j]? = some (nth ls j) := by
    rw [List.getElem?_eq_getElem (by omega)]
    simp [nth, List.getD_eq_getElem?_getD, List.getElem?_eq_getElem (show j < ls.length by omega)]
  rw [e2] at hv
  exact hv

set_option maxHeartbeats 4000000 in
set_option maxRecDepth 100000 in
theorem implPointsHold_v (n : Int) (xs ys : List Int) (ps : List Pd) (ls : List Int) (v : Value) (lo hi : Nat) (v' : Value) (lo' hi' : Nat) (v2 : Value) (lo2 hi2 : Nat) (w : World) (hl : xs.length ≤ 1048576) (hm : ys.length ≤ 1048576) (hz : ps.length ≤ 1048576) (hll : ls.length ≤ 1048576) (h : InM w lo hi v n xs ys) (h' : InP w lo' hi' v' ps) (h2 : OwnIn w lo2 hi2 v2 ls) :
    Calls Try.prog 19 #[v, v', v2] w fun e w' => e = .returned (.tuple #[.bool (phV n xs ys ps ls), .int .i64 (phC n xs ys ps ls)]) ∧ Below w.heap.size w w' := by
  obtain ⟨a, cap, b, d, rfl, hat, hat', -⟩ := h.at
  obtain ⟨c, cp, rfl, hn, hc1, hc2⟩ := h'.at'
  obtain ⟨al, cl, rfl, hatl⟩ := own_lst h2
  obtain ⟨W, hW, HB, hWs, X⟩ := box3 w (.int .i64 n) (.slice a xs.length cap) (.slice b ys.length d) 40
  have H := Lib.hid (hat.keep HB.out (Nat.le_refl _))
  have H' := Lib.hid (hat'.keep HB.out (Nat.le_refl _))
  have HN := Lib.hid (hn.keep HB.out (Nat.le_refl _))
  have HL := Lib.hid (hatl.keep HB.out (Nat.le_refl _))
  have HW := Lib.hid hW
  clear h h' h2 hW hat hat' hn hatl hWs
  cases h1 : isM n xs ys
  · have F := Lib.hid h1
    have E := Lib.hid (ph_no (ls := ls) (show (isM n xs ys && isP ps ps.length) = false by rw [h1]; rfl))
    clear h1
    go_enter Try.func19, Try.ntmps19
    go_wp2_with fail
    rw [← HW.out]
    obtain ⟨x0, x1, x2⟩ := X.out W (Below.refl _ _)
    go_wp2_with fail
    refine (implIsModel_any n xs ys _ _ _ _ _ _ _ hl hm H.out H'.out).mono ?_
    rw [F.out]
    rintro e w1 ⟨rfl, hb⟩
    have B1 := Lib.hid (HB.out.trans (hb.mono HB.out.size))
    clear hb
    go_wp2
    go_ret2
    exact ⟨E.out, B1.out⟩
  · have F := Lib.hid h1
    cases h2 : isP ps ps.length
    · have F2 := Lib.hid h2
      have E := Lib.hid (ph_no (ls := ls) (show (isM n xs ys && isP ps ps.length) = false by rw [h2, Bool.and_false]))
      clear h1 h2
      go_enter Try.func19, Try.ntmps19
      go_wp2_with fail
      rw [← HW.out]
      obtain ⟨x0, x1, x2⟩ := X.out W (Below.refl _ _)
      go_wp2_with fail
      refine (implIsModel_any n xs ys _ _ _ _ _ _ _ hl hm H.out H'.out).mono ?_
      rw [F.out]
      rintro e w1 ⟨rfl, hb⟩
      have B1 := Lib.hid (HB.out.trans (hb.mono HB.out.size))
      have A1 := Lib.hid (HN.out.keep hb (Nat.le_refl _))
      clear hb
      go_wp2_with fail
      refine (implIsP_any _ _ _ _ _ hz A1.out).mono ?_
      rw [F2.out]
      rintro e w2 ⟨rfl, hb2⟩
      have B2 := Lib.hid (B1.out.trans (hb2.mono B1.out.size))
      clear hb2
      go_wp2
      go_ret2
      exact ⟨E.out, B2.out⟩
    · have F2 := Lib.hid h2
      have hMP := Lib.hid (show (isM n xs ys && isP ps ps.length) = true by rw [h1, h2]; rfl)
      obtain ⟨e1, e2, e3, -, e5, -⟩ := isM_ok h1
      by_cases h10 : ls.length = 10
      · cases hmb : mapB n ls ls.length
        · have E := Lib.hid (ph_out (ls := ls) hMP.out (show (decide (ls.length = 10) && mapB n ls ls.length) = false by rw [hmb, Bool.and_false]))
          have FB := Lib.hid hmb
          have AB := Lib.hid (fun (W' : World) (hW' : Below W.heap.size W W') => areBelow_any ls n al cl W' hll (HL.out.keep hW' (Nat.le_refl _)))
          rw [hmb, h10] at AB
          clear h1 h2 e1 e2 e3 e5 hmb
          go_enter Try.func19, Try.ntmps19
          rw [h10]
          go_wp2_with fail
          rw [← HW.out]
          obtain ⟨x0, x1, x2⟩ := X.out W (Below.refl _ _)
          go_wp2_with fail
          refine (implIsModel_any n xs ys _ _ _ _ _ _ _ hl hm H.out H'.out).mono ?_
          rw [F.out]
          rintro e w1 ⟨rfl, hb⟩
          have A1 := Lib.hid (HN.out.keep hb (Nat.le_refl _))
          have T1 := Lib.hid hb
          clear hb x0 x1 x2
          go_wp2_with fail
          refine (implIsP_any _ _ _ _ _ hz A1.out).mono ?_
          rw [F2.out]
          rintro e w2 ⟨rfl, hb2⟩
          have T2 := Lib.hid (T1.out.trans (hb2.mono T1.out.size))
          clear hb2
          obtain ⟨x0, x1, x2⟩ := X.out _ T2.out
          go_wp2_with fail
          refine (AB.out _ T2.out).mono ?_
          rintro e w3 ⟨rfl, hb3⟩
          have B3 := Lib.hid (HB.out.trans ((T2.out.trans (hb3.mono T2.out.size)).mono HB.out.size))
          clear hb3 x0 x1 x2
          go_wp2
          go_ret2
          exact ⟨E.out, B3.out⟩
        · obtain ⟨f1, f2, f3⟩ := toPt_of h2
          obtain ⟨bp, op, rfl, hT⟩ := HN.out.pformula h2 hc1 hc2
          have HT := Lib.hid hT.1
          have XL := Lib.hid e5
          have AB := Lib.hid (fun (W' : World) (hW' : Below W.heap.size W W') => areBelow_any ls n al cl W' hll (HL.out.keep hW' (Nat.le_refl _)))
          rw [hmb, h10] at AB
          have E := Lib.hid (ph_ok (ls := ls) hMP.out (show (decide (ls.length = 10) && mapB n ls ls.length) = true by rw [hmb, decide_eq_true h10]; rfl))
          obtain ⟨N, rfl⟩ : ∃ N : Nat, n = N := ⟨xs.length, e2⟩
          have hN : N ≤ 8 := by omega
          have HXN := Lib.hid (show xs.length = N by omega)
          have HWZ := Lib.hid (wz_of h10 hmb)
          have HNE := Lib.hid (pos_of h10 hmb)
          obtain ⟨ba, oa, hal⟩ : ∃ ba oa, al = some ⟨ba, oa, none⟩ := by
            obtain ⟨ba, oa, h, -⟩ := HL.out.2.resolve_left (by omega)
            exact ⟨ba, oa, h⟩
          subst hal
          rw [h10] at HL
          have H10 := Lib.hid h10
          obtain ⟨ff, hff⟩ : ∃ ff, ff = toPt ps := ⟨_, rfl⟩
          rw [← hff] at f1 f3 HT E
          rw [Int.toNat_natCast] at E
          clear h1 h2 e1 e2 e3 e5 hmb f2 hT hff
          go_enter Try.func19, Try.ntmps19
          rw [h10]
          go_wp2_with fail
          rw [← HW.out]
          obtain ⟨x0, x1, x2⟩ := X.out W (Below.refl _ _)
          go_wp2_with fail
          refine (implIsModel_any N xs ys _ _ _ _ _ _ _ hl hm H.out H'.out).mono ?_
          rw [F.out]
          rintro e w1 ⟨rfl, hb⟩
          have A1 := Lib.hid (HN.out.keep hb (Nat.le_refl _))
          have T1 := Lib.hid hb
          clear hb x0 x1 x2
          go_wp2_with fail
          refine (implIsP_any _ _ _ _ _ hz A1.out).mono ?_
          rw [F2.out]
          rintro e w2 ⟨rfl, hb2⟩
          have T2 := Lib.hid (T1.out.trans (hb2.mono T1.out.size))
          clear hb2
          obtain ⟨x0, x1, x2⟩ := X.out _ T2.out
          go_wp2_with fail
          refine (AB.out _ T2.out).mono ?_
          rintro e w3 ⟨rfl, hb3⟩
          have T3 := Lib.hid (T2.out.trans (hb3.mono T2.out.size))
          clear hb3 x0 x1 x2
          obtain ⟨x0, x1, x2⟩ := X.out _ T3.out
          obtain ⟨V, hV⟩ : ∃ V, V = w3.alloc (.cells #[.int .i64 (N : Int), .slice a xs.length cap, .slice b ys.length d, .int .i64 0, .int .i64 0, .int .i64 0, .int .i64 0, .int .i64 0, .int .i64 0, .int .i64 0, .int .i64 0, .int .i64 0, .int .i64 0] 87) := ⟨_, rfl⟩
          have BV := Lib.hid (show Below W.heap.size W (w3.alloc (.cells #[.int .i64 (N : Int), .slice a xs.length cap, .slice b ys.length d, .int .i64 0, .int .i64 0, .int .i64 0, .int .i64 0, .int .i64 0, .int .i64 0, .int .i64 0, .int .i64 0, .int .i64 0, .int .i64 0] 87)) from T3.out.alloc T3.out.size _)
          have HG := Lib.hid (show (w3.alloc (.cells #[.int .i64 (N : Int), .slice a xs.length cap, .slice b ys.length d, .int .i64 0, .int .i64 0, .int .i64 0, .int .i64 0, .int .i64 0, .int .i64 0, .int .i64 0, .int .i64 0, .int .i64 0, .int .i64 0] 87)).heap[w3.heap.size]? = some (.cells (zer13 N a cap xs b d ys).toArray 87 (0, 0)) from heap_alloc_new' _ _)
          obtain ⟨cs, hcs⟩ : ∃ cs, cs = ls.map (Value.int .i64) := ⟨_, rfl⟩
          have CW := Lib.hid (show ∀ j v, cs[j]? = some v → (w3.alloc (.cells #[.int .i64 (N : Int), .slice a xs.length cap, .slice b ys.length d, .int .i64 0, .int .i64 0, .int .i64 0, .int .i64 0, .int .i64 0, .int .i64 0, .int .i64 0, .int .i64 0, .int .i64 0, .int .i64 0] 87)).cell? ((⟨ba, oa, none⟩ : Addr).add j) = some v from by
            intro j v hjv
            rw [hcs] at hjv
            exact at10_cells (HL.out.keep BV.out (Nat.le_refl _)) H10.out j v hjv)
          have HC10 := Lib.hid (show cs.length = 10 by rw [hcs, List.length_map]; exact H10.out)
          have HC1 := Lib.hid (show ∀ v ∈ cs, v.oneCell' = true by rw [hcs]; exact ints_one ls)
          have HCS := Lib.hid hcs
          have HS := Lib.hid T3.out.size
          clear hcs hV
          go_wp2_with (refine wpList_copy_splice rfl _ _ _ _ rfl 2 Try.underlying28 sz64p (some ⟨w3.heap.size, 3, none⟩) (some ⟨ba, oa, none⟩) 10 10 10 cl rfl rfl w3.heap.size 3 (zer13 N a cap xs b d ys) 87 HG.out cs (by rw [HC10.out]; rfl) (fun _ => ⟨rfl, _, rfl, CW.out⟩) (by rw [HC10.out]; exact Nat.le_refl 13) HC1.out W.heap.size W BV.out HS.out ?_)
          intro w4 hg4 hb4
          have T4 := Lib.hid hb4
          have G4 := Lib.hid (show w4.heap[w3.heap.size]? = some (.cells (pcs N a cap xs b d ys ls) 87 (0, 0)) by rw [← zer_splice N a cap xs b d ys ls H10.out, ← HCS.out]; exact hg4.out)
          have VO := Lib.hid (valueOf_any ff f1 (by omega) N a cap xs b d ys ls bp op _ cp w4 hz hl hm ⟨hN, HXN.out, H.out.keep T4.out (Nat.le_refl _), H'.out.keep T4.out (Nat.le_refl _), HWZ.out⟩ (vok_six HNE.out (by rw [XL.out]; omega) ff f1) (HT.out.keep T4.out (Nat.le_refl _)))
          unfold plc at VO
          clear hg4 hb4 x0 x1 x2
          obtain ⟨m0, m1, m2, m3, m4, m5, m6, m7, m8, m9, m10, m11, m12⟩ := pcs_cells G4.out
          go_wp2_with fail
          refine VO.out.mono ?_
          rintro e w5 ⟨rfl, hb5⟩
          have B5 := Lib.hid (HB.out.trans ((T4.out.trans (hb5.mono T4.out.size)).mono HB.out.size))
          clear hb5 m0 m1 m2 m3 m4 m5 m6 m7 m8 m9 m10 m11 m12
          go_wp2
          go_ret2
          exact ⟨E.out, B5.out⟩
      · have E := Lib.hid (ph_out (ls := ls) hMP.out (show (decide (ls.length = 10) && mapB n ls ls.length) = false by rw [decide_eq_false h10]; rfl))
        have h10' : ¬ (ls.length : Int) = 10 := by omega
        clear h1 h2 e1 e2 e3 e5
        go_enter Try.func19, Try.ntmps19
        go_wp2_with fail
        rw [← HW.out]
        obtain ⟨x0, x1, x2⟩ := X.out W (Below.refl _ _)
        go_wp2_with fail
        refine (implIsModel_any n xs ys _ _ _ _ _ _ _ hl hm H.out H'.out).mono ?_
        rw [F.out]
        rintro e w1 ⟨rfl, hb⟩
        have B1 := Lib.hid (HB.out.trans (hb.mono HB.out.size))
        have A1 := Lib.hid (HN.out.keep hb (Nat.le_refl _))
        clear hb
        go_wp2_with fail
        refine (implIsP_any _ _ _ _ _ hz A1.out).mono ?_
        rw [F2.out]
        rintro e w2 ⟨rfl, hb2⟩
        have B2 := Lib.hid (B1.out.trans (hb2.mono B1.out.size))
        clear hb2
        go_wp2
        go_ret2
        exact ⟨E.out, B2.out⟩

end Go.Proofs.Ytbfnagmjnaacoaa
