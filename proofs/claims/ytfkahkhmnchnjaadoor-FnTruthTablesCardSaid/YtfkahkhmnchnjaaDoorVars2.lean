/- The contract of VariablesOf of the program, at every list of nodes. Conditions: those in the theorem. -/
import Derived.Test.YtfkahkhmnchnjaaDoorVars
namespace Go.Proofs.YtfkahkhmnchnjaaDoor
open Go.RowKit Go.Sort Go.Lib

theorem compact_small (a : Option Addr) (n cap : Nat) (w : World) (hn : n < 2) :
    Calls Tryd.prog 40 #[.slice a n cap] w fun e w' => e = .returned (.slice a n cap) ∧ w = w' := by
  have hn' : (n : Int) < 2 := by omega
  go_enter Tryd.func40, Tryd.ntmps40
  go_wp2
  go_ret
  exact ⟨rfl, rfl⟩

set_option maxHeartbeats 2000000 in
theorem implVariablesOf_v (x0 : List Nd) (v : Value) (lo hi : Nat) (w : World) (hl : x0.length ≤ 1048576) (h : InN w lo hi v x0) :
    Calls Tryd.prog 23 #[v] w fun e w' => ∃ v', e = .returned (.tuple #[v', .int .i64 (vaC x0)]) ∧ Own w' w.heap.size v' (vaR x0) ∧ Below w.heap.size w w' := by
  obtain ⟨a, cap, rfl, hat⟩ := h.at
  have H := Lib.hid hat
  clear h hat
  cases hb : isB x0 x0.length
  · obtain ⟨e1, e2⟩ := va_bad hb
    rw [e1, e2]
    have HB := Lib.hid hb
    clear hb e1 e2
    go_enter Tryd.func23, Tryd.ntmps23
    go_wp2_with (go_at_call 27; refine (implIsF_any _ _ _ _ _ hl H.out).mono ?_; rw [HB.out]; rintro e w' ⟨rfl, hb⟩)
    go_ret2
    exact ⟨_, rfl, ownI_nil _ _, hb⟩
  · obtain ⟨e1, e2⟩ := va_good hb
    rw [e1, e2]
    obtain ⟨ht, h40⟩ := is_tree hb
    have HB := Lib.hid hb
    have HT := Lib.hid ht
    have VC := Lib.hid (vars_compact ht)
    clear hb e1 e2 ht
    obtain ⟨len, hlen⟩ : ∃ len, len = x0.length := ⟨_, rfl⟩
    rw [← hlen] at H HB HT VC hl h40 ⊢
    clear hlen
    go_enter Tryd.func23, Tryd.ntmps23
    go_wp2_with fail
    refine (implIsF_any _ _ _ _ _ hl H.out).mono ?_
    rw [HB.out]
    rintro e w0 ⟨rfl, hb0⟩
    have B0 := Lib.hid hb0
    clear hb0
    go_wp2
    go_loopw [4, 12] (fun v i wr => ∃ k : Nat, k ≤ len ∧ i = .int .i64 k ∧ wr.ownsRow w.heap.size 2 1 v (vrTo x0 k).length ((vrTo x0 k).map (Value.int .i64)) ∧ Below w.heap.size w wr) (fun _ i _ => len - (intOf i).toNat)
    case atStart => exact ⟨0, Nat.zero_le _, rfl, World.ownsRow_nil _ _ _ _, B0.out⟩
    case round =>
      obtain ⟨k, hk, rfl, hown, hbel⟩ := hrel
      have O := Lib.hid hown
      have BL := Lib.hid hbel
      have hvl := vrTo_len x0 k
      by_cases hlt : k < len
      · obtain ⟨b, off, rfl, hb, hc⟩ := H.out.2.resolve_left (by omega)
        have hc1 : wr.cell? ⟨b, off + k * 2, none⟩ = some (.int .i64 (kd x0 k)) := (hbel.cell (p := ⟨b, off + k * 2, none⟩) hb).trans (hc k hlt).1
        have hc2 : wr.cell? ⟨b, off + k * 2 + 1, none⟩ = some (.int .i64 (sy x0 k)) := (hbel.cell (p := ⟨b, off + k * 2 + 1, none⟩) hb).trans (hc k hlt).2
        have BA := Lib.hid (hbel.alloc hbel.size (.cells #[.int .i64 (kd x0 k), .int .i64 (sy x0 k)] 68))
        have hs1 := BA.out.size
        have BA2 := Lib.hid (BA.out.alloc hs1 (.cells #[.int .i64 (sy x0 k)] 2))
        have OA := Lib.hid ((hown.alloc (.cells #[.int .i64 (kd x0 k), .int .i64 (sy x0 k)] 68)).alloc (.cells #[.int .i64 (sy x0 k)] 2))
        have OA1 := Lib.hid (hown.alloc (.cells #[.int .i64 (kd x0 k), .int .i64 (sy x0 k)] 68))
        clear hc hown hbel hs1
        cases hz : (kd x0 k == 0)
        · have HS : Hid (vrTo x0 (k + 1) = vrTo x0 k) := by show vrTo x0 (k + 1) = _; rw [vrTo, if_neg (by simpa using hz)]
          go_wp2
          go_roundw
          case rel => exact ⟨k + 1, hlt, by go_num, by rw [HS.out]; exact OA1.out, BA.out⟩
          case measure => simp [intOf]; omega
        · have HS : Hid (vrTo x0 (k + 1) = vrTo x0 k ++ [sy x0 k]) := by show vrTo x0 (k + 1) = _; rw [vrTo, if_pos (by simpa using hz)]
          go_wp2_with (at_builtin; refine list_app1 rfl _ _ rfl w.heap.size _ _ _ rfl OA.out ⟨wr.heap.size + 1, 0, none⟩ 1 _ rfl (World.cell?_alloc_at _ _ _ _ (by simp)) (by omega) BA2.out.size ?_; intro v' w1 hown1 hgr1)
          have BB := Lib.hid (BA2.out.grown hgr1 BA2.out.size (fun k hk => (OA.out.lt k hk).1))
          have OB := Lib.hid hown1
          clear hown1 hgr1
          go_wp2
          go_roundw
          case rel => exact ⟨k + 1, hlt, by go_num, by rw [HS.out, List.map_append, List.length_append]; exact OB.out, BB.out⟩
          case measure => simp [intOf]; omega
      · obtain rfl : k = len := by omega
        clear hown hbel
        obtain ⟨n, hn⟩ : ∃ n, n = (vrTo x0 k).length := ⟨_, rfl⟩
        rw [← hn] at O VC hvl
        have HN := Lib.hid hn
        clear hn
        by_cases hn0 : n = 0
        · subst hn0
          have hnil : vrTo x0 k = [] := List.eq_nil_of_length_eq_zero HN.out.symm
          have HR : Hid (memTo (mkTo x0 k) 30 = []) := by
            show memTo (mkTo x0 k) 30 = []
            rw [← VC.out]; rfl
          have hv : ∃ a cap, u4 = .slice a 0 cap := by
            rcases O.out.2 with ⟨hv, -⟩ | ⟨g, c, cur, hv, -⟩
            · exact ⟨none, 0, hv⟩
            · exact ⟨_, c, hv⟩
          obtain ⟨av, cv, rfl⟩ := hv
          have hcall := AnyM.slices_Sort_int_none sortI av cv wr
          change Calls Tryd.prog 39 _ _ _ at hcall
          have SC := Lib.hid hcall
          clear hcall hnil
          go_wp2_with fail
          refine SC.out.mono ?_
          rintro e w' ⟨rfl, rfl⟩
          go_wp2_with fail
          refine (compact_small av 0 cv _ (by omega)).mono ?_
          rintro e w' ⟨rfl, rfl⟩
          go_wp2
          go_ret2
          refine ⟨_, rfl, ?_, BL.out⟩
          rw [HR.out]
          have := O.out
          rw [show vrTo x0 k = [] from List.eq_nil_of_length_eq_zero HN.out.symm] at this
          exact this
        · obtain ⟨g, c, hv, hg⟩ : ∃ g c, u4 = .slice (some ⟨g, 0, none⟩) n c ∧ g < wr.heap.size ∧ n ≤ c := by
            rcases O.out.2 with ⟨-, h2⟩ | ⟨g, c, cur, hv, hgB, hh, hnc, -⟩
            · omega
            · exact ⟨g, c, hv, (Array.getElem?_eq_some_iff.1 hh).1, hnc⟩
          subst hv
          obtain ⟨hg1, hnc⟩ := hg
          have hcall := AnyM.slices_Sort_int sortI g 0 c (vrTo x0 k) wr (holds_of_own (Value.int .i64) HN.out.symm O.out) hg1 (by rw [← HN.out]; omega)
          rw [← HN.out] at hcall
          change Calls Tryd.prog 39 _ _ _ at hcall
          have SC := Lib.hid hcall
          clear hcall
          obtain ⟨s, hs⟩ : ∃ s, s = (vrTo x0 k).mergeSort fun x y => decide (x ≤ y) := ⟨_, rfl⟩
          have hsl : s.length = n := by rw [hs, HN.out]; exact List.length_mergeSort _
          rw [← hs] at VC
          have HS := Lib.hid hs
          have HSL := Lib.hid hsl
          clear hs hsl
          go_wp2_with fail
          refine SC.out.mono ?_
          rw [← HS.out]
          rintro e w1 ⟨rfl, q, os, hw1⟩
          have hp := own_put (Value.int .i64) O.out s HSL.out q os
          rw [← hw1] at hp
          have O1 := Lib.hid hp.1
          have B1 := Lib.hid (BL.out.grown hp.2 BL.out.size (fun k hk => by cases hk; exact (O.out.lt _ rfl).1))
          clear hp hw1
          have hcall2 := AnyE.slices_Compact compactI (Value.int .i64) (fun _ => rfl) (EqlAt.intD _ _ _) (NeqAt.intD _ _ _) 0 (fun w => Tryd.zeroValue2 w) g 0 c s.toArray w1 (holds_of_own (Value.int .i64) HSL.out O1.out) (by simp [HSL.out]; omega) (by simp [HSL.out]; omega)
          rw [show s.toArray.size = n from HSL.out] at hcall2
          change Calls Tryd.prog 40 _ _ _ at hcall2
          rw [VC.out] at hcall2
          have CC := Lib.hid hcall2
          clear hcall2
          obtain ⟨m, hm⟩ : ∃ m, m = (memTo (mkTo x0 k) 30).length := ⟨_, rfl⟩
          rw [← hm] at CC
          have HM := Lib.hid hm
          clear hm
          have hmn : m ≤ n := by
            have h1 : (compactUpTo s.toArray n).length ≤ n := by
              unfold compactUpTo
              rw [List.length_map]
              exact Nat.le_trans (List.length_filter_le _ _) (by simp)
            rw [VC.out] at h1
            rw [HM.out]; exact h1
          go_wp2_with fail
          refine CC.out.mono ?_
          rintro e w2 ⟨rfl, q2, hw2⟩
          have hp2 := own_put (Value.int .i64) O1.out (memTo (mkTo x0 k) 30 ++ List.replicate (n - m) 0) (by simp [← HM.out]; omega) q2 #[]
          rw [grow_empty, ← hw2] at hp2
          have B2 := Lib.hid (B1.out.grown hp2.2 B1.out.size (fun k hk => by cases hk; exact (O1.out.lt _ rfl).1))
          have O2 := Lib.hid (own_cut hp2.1 m hmn)
          clear hp2 hw2
          go_wp2
          go_ret2
          refine ⟨_, rfl, ?_, B2.out⟩
          unfold Own
          rw [← HM.out]
          have h3 := O2.out
          rw [List.map_append, List.take_left' (by simp [← HM.out])] at h3
          exact h3

end Go.Proofs.YtfkahkhmnchnjaaDoor
