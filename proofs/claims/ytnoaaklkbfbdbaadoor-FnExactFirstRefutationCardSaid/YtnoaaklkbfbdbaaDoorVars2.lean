/- The contract of variablesIn and of VariablesOf of the program. Conditions: those in the theorems. -/
import Derived.Test.YtnoaaklkbfbdbaaDoorVars
import Derived.Test.YtnoaaklkbfbdbaaDoorAreF
import Derived.Test.YtnoaaklkbfbdbaaDoorJn12
import Derived.Test.YtnoaaklkbfbdbaaDoorDeep
namespace Go.Proofs.YtnoaaklkbfbdbaaDoor
open Go.RowKit Go.Sort Go.Lib

theorem compact_small (a : Option Addr) (n cap : Nat) (w : World) (hn : n < 2) :
    Calls Tryd.prog 60 #[.slice a n cap] w fun e w' => e = .returned (.slice a n cap) ∧ w = w' := by
  have hn' : (n : Int) < 2 := by omega
  go_enter Tryd.func60, Tryd.ntmps60
  go_wp2
  go_ret
  exact ⟨rfl, rfl⟩

set_option maxHeartbeats 2000000 in
theorem variablesIn_any2 (xss : List (List Nd)) (a : Option Addr) (l cap : Nat) (w : World) (hl : l ≤ 2097152) (hs : szTo xss l ≤ 4194304) (hp : ∀ j, j < l → 0 < (nthL xss j).length) (h0 : 0 < l) (hT : treeTo (catTo xss l) (catTo xss l).length = true) (h : AtNN w a l xss) :
    Calls Tryd.prog 42 #[.slice a l cap] w fun e w' => ∃ v, e = .returned v ∧ Own w' w.heap.size v (memTo (mkTo (catTo xss l) (catTo xss l).length) 30) ∧ Below w.heap.size w w' := by
  have CT := Lib.hid (concat_any2 xss a l cap w hl (by omega) hp h0 h)
  have HS := Lib.hid (catTo_len xss l)
  have hsz : (catTo xss l).length ≤ 4194304 := by rw [catTo_len]; exact hs
  clear h hs hp h0
  generalize catTo xss l = zs at CT HS hsz hT ⊢
  have VC := Lib.hid (vars_compact hT)
  obtain ⟨len, hlen⟩ : ∃ len, len = zs.length := ⟨_, rfl⟩
  have HL := Lib.hid hlen
  rw [← hlen] at VC hsz ⊢
  clear hT hlen HS
  go_enter Tryd.func42, Tryd.ntmps42
  go_wp2_with fail
  refine CT.out.mono ?_
  rintro e wz ⟨vz, rfl, hoz, hbz⟩
  obtain ⟨az, cz, rfl, hatz, -⟩ := hoz.at
  have H1 := Lib.hid (show AtN wz az len zs by rw [HL.out]; exact hatz)
  have BZ := Lib.hid hbz
  rw [← HL.out]
  clear hoz hbz hatz CT
  go_wp2
  go_loopw [3, 9] (fun v i wr => ∃ k : Nat, k ≤ len ∧ i = .int .i64 k ∧ wr.ownsRow wz.heap.size 2 1 v (vrTo zs k).length ((vrTo zs k).map (Value.int .i64)) ∧ Below wz.heap.size wz wr) (fun _ i _ => len - (intOf i).toNat)
  case atStart => exact ⟨0, Nat.zero_le _, rfl, World.ownsRow_nil _ _ _ _, Below.refl _ _⟩
  case round =>
    obtain ⟨k, hk, rfl, hown, hbel⟩ := hrel
    have O := Lib.hid hown
    have BL := Lib.hid hbel
    have hvl := vrTo_len zs k
    by_cases hlt : k < len
    · obtain ⟨b, off, rfl, hb, hc⟩ := H1.out.2.resolve_left (by omega)
      have hc1 : wr.cell? ⟨b, off + k * 2, none⟩ = some (.int .i64 (kd zs k)) := (hbel.cell (p := ⟨b, off + k * 2, none⟩) hb).trans (hc k hlt).1
      have hc2 : wr.cell? ⟨b, off + k * 2 + 1, none⟩ = some (.int .i64 (sy zs k)) := (hbel.cell (p := ⟨b, off + k * 2 + 1, none⟩) hb).trans (hc k hlt).2
      have BA := Lib.hid (hbel.alloc hbel.size (.cells #[.int .i64 (kd zs k), .int .i64 (sy zs k)] 51))
      have hs1 := BA.out.size
      have BA2 := Lib.hid (BA.out.alloc hs1 (.cells #[.int .i64 (sy zs k)] 2))
      have OA := Lib.hid ((hown.alloc (.cells #[.int .i64 (kd zs k), .int .i64 (sy zs k)] 51)).alloc (.cells #[.int .i64 (sy zs k)] 2))
      have OA1 := Lib.hid (hown.alloc (.cells #[.int .i64 (kd zs k), .int .i64 (sy zs k)] 51))
      clear hc hown hbel hs1
      cases hz : (kd zs k == 0)
      · have HS : Hid (vrTo zs (k + 1) = vrTo zs k) := by show vrTo zs (k + 1) = _; rw [vrTo, if_neg (by simpa using hz)]
        go_wp2
        go_roundw
        case rel => exact ⟨k + 1, hlt, by go_num, by rw [HS.out]; exact OA1.out, BA.out⟩
        case measure => simp [intOf]; omega
      · have HS : Hid (vrTo zs (k + 1) = vrTo zs k ++ [sy zs k]) := by show vrTo zs (k + 1) = _; rw [vrTo, if_pos (by simpa using hz)]
        go_wp2_with (at_builtin; refine list_app1 rfl _ _ rfl wz.heap.size _ _ _ rfl OA.out ⟨wr.heap.size + 1, 0, none⟩ 1 _ rfl (World.cell?_alloc_at _ _ _ _ (by simp)) (by omega) BA2.out.size ?_; intro v' w1 hown1 hgr1)
        have BB := Lib.hid (BA2.out.grown hgr1 BA2.out.size (fun k hk => (OA.out.lt k hk).1))
        have OB := Lib.hid hown1
        clear hown1 hgr1
        go_wp2
        go_roundw
        case rel => exact ⟨k + 1, hlt, by go_num, by rw [HS.out, List.map_append, List.length_append]; exact OB.out, BB.out⟩
        case measure => simp [intOf]; omega
    · obtain rfl : k = len := by omega
      clear hown hbel
      obtain ⟨n, hn⟩ : ∃ n, n = (vrTo zs k).length := ⟨_, rfl⟩
      rw [← hn] at O VC hvl
      have HN := Lib.hid hn
      clear hn
      by_cases hn0 : n = 0
      · subst hn0
        have hnil : vrTo zs k = [] := List.eq_nil_of_length_eq_zero HN.out.symm
        have HR : Hid (memTo (mkTo zs k) 30 = []) := by
          show memTo (mkTo zs k) 30 = []
          rw [← VC.out]; rfl
        have hv : ∃ a cap, u3 = .slice a 0 cap := by
          rcases O.out.2 with ⟨hv, -⟩ | ⟨g, c, cur, hv, -⟩
          · exact ⟨none, 0, hv⟩
          · exact ⟨_, c, hv⟩
        obtain ⟨av, cv, rfl⟩ := hv
        have hcall := AnyM.slices_Sort_int_none sortI av cv wr
        change Calls Tryd.prog 59 _ _ _ at hcall
        have SC := Lib.hid hcall
        clear hcall hnil
        go_wp2_with fail
        refine SC.out.mono ?_
        rintro e w' ⟨rfl, rfl⟩
        go_wp2_with fail
        refine (compact_small av 0 cv _ (by omega)).mono ?_
        rintro e w' ⟨rfl, rfl⟩
        go_wp2
        go_ret
        refine ⟨_, rfl, Own.mono (B := wz.heap.size) ?_ BZ.out.size, BZ.out.trans (BL.out.mono BZ.out.size)⟩
        rw [HR.out]
        have := O.out
        rw [show vrTo zs k = [] from List.eq_nil_of_length_eq_zero HN.out.symm] at this
        exact this
      · obtain ⟨g, c, hv, hg⟩ : ∃ g c, u3 = .slice (some ⟨g, 0, none⟩) n c ∧ g < wr.heap.size ∧ n ≤ c := by
          rcases O.out.2 with ⟨-, h2⟩ | ⟨g, c, cur, hv, hgB, hh, hnc, -⟩
          · omega
          · exact ⟨g, c, hv, (Array.getElem?_eq_some_iff.1 hh).1, hnc⟩
        subst hv
        obtain ⟨hg1, hnc⟩ := hg
        have hcall := AnyM.slices_Sort_int sortI g 0 c (vrTo zs k) wr (holds_of_own (Value.int .i64) HN.out.symm O.out) hg1 (by rw [← HN.out]; omega)
        rw [← HN.out] at hcall
        change Calls Tryd.prog 59 _ _ _ at hcall
        have SC := Lib.hid hcall
        clear hcall
        obtain ⟨s, hs⟩ : ∃ s, s = (vrTo zs k).mergeSort fun x y => decide (x ≤ y) := ⟨_, rfl⟩
        have hsl : s.length = n := by rw [hs, HN.out]; exact List.length_mergeSort _
        rw [← hs] at VC
        have HS := Lib.hid hs
        have HSL := Lib.hid hsl
        clear hs hsl
        go_wp2_with fail
        refine SC.out.mono ?_
        rw [← HS.out]
        rintro e w1 ⟨rfl, q, os, hw1⟩
        have hp := own_put (Value.int .i64) O.out s HSL.out q os
        rw [← hw1] at hp
        have O1 := Lib.hid hp.1
        have B1 := Lib.hid (BL.out.grown hp.2 BL.out.size (fun k hk => by cases hk; exact (O.out.lt _ rfl).1))
        clear hp hw1
        have hcall2 := AnyE.slices_Compact compactI (Value.int .i64) (fun _ => rfl) (EqlAt.intD _ _ _) (NeqAt.intD _ _ _) 0 (fun w => Tryd.zeroValue2 w) g 0 c s.toArray w1 (holds_of_own (Value.int .i64) HSL.out O1.out) (by simp [HSL.out]; omega) (by simp [HSL.out]; omega)
        rw [show s.toArray.size = n from HSL.out] at hcall2
        change Calls Tryd.prog 60 _ _ _ at hcall2
        rw [VC.out] at hcall2
        have CC := Lib.hid hcall2
        clear hcall2
        obtain ⟨m, hm⟩ : ∃ m, m = (memTo (mkTo zs k) 30).length := ⟨_, rfl⟩
        rw [← hm] at CC
        have HM := Lib.hid hm
        clear hm
        have hmn : m ≤ n := by
          have h1 : (compactUpTo s.toArray n).length ≤ n := by
            unfold compactUpTo
            rw [List.length_map]
            exact Nat.le_trans (List.length_filter_le _ _) (by simp)
          rw [VC.out] at h1
          rw [HM.out]; exact h1
        go_wp2_with fail
        refine CC.out.mono ?_
        rintro e w2 ⟨rfl, q2, hw2⟩
        have hp2 := own_put (Value.int .i64) O1.out (memTo (mkTo zs k) 30 ++ List.replicate (n - m) 0) (by simp [← HM.out]; omega) q2 #[]
        rw [grow_empty, ← hw2] at hp2
        have B2 := Lib.hid (B1.out.grown hp2.2 B1.out.size (fun k hk => by cases hk; exact (O1.out.lt _ rfl).1))
        have O2 := Lib.hid (own_cut hp2.1 m hmn)
        clear hp2 hw2
        go_wp2
        go_ret
        refine ⟨_, rfl, Own.mono (B := wz.heap.size) ?_ BZ.out.size, BZ.out.trans (B2.out.mono BZ.out.size)⟩
        unfold Own
        rw [← HM.out]
        have h3 := O2.out
        rw [List.map_append, List.take_left' (by simp [← HM.out])] at h3
        exact h3

theorem variablesIn_any (xss : List (List Nd)) (a : Option Addr) (l cap : Nat) (w : World) (hl : l ≤ 1048576) (hs : szTo xss l ≤ 4194304) (hp : ∀ j, j < l → 0 < (nthL xss j).length) (h0 : 0 < l) (hT : treeTo (catTo xss l) (catTo xss l).length = true) (h : AtNN w a l xss) :
    Calls Tryd.prog 42 #[.slice a l cap] w fun e w' => ∃ v, e = .returned v ∧ Own w' w.heap.size v (memTo (mkTo (catTo xss l) (catTo xss l).length) 30) ∧ Below w.heap.size w w' := variablesIn_any2 xss a l cap w (by omega) hs hp h0 hT h


theorem cat1 (xs : List Nd) : catTo [xs] 1 = xs := by have := catTo_cons xs [] 0; rw [this]; simp [catTo]

end Go.Proofs.YtnoaaklkbfbdbaaDoor
