/- What the model answers for the first model that refutes a formula, and for validity. Conditions: those in the theorems. -/
import Derived.Test.YtnoaaklkbfbdbaaDoorJn17
namespace Go.Proofs.YtnoaaklkbfbdbaaDoor
open Go.RowKit

theorem l06Code1 (n0 : Int) (xs : List Int) (zs : List Nd) (a0 : Option Addr) (c0 : Nat) (a1 : Option Addr) (c1 : Nat) (W : World) (hl0 : xs.length ≤ 1048576) (hl1 : zs.length ≤ 1048576) (H0 : At W a0 xs.length xs) (H1 : AtN W a1 zs.length zs) (C : Nat) (hC : C = W.heap.size) :
    Calls Tryd.prog 21 #[.agg #[.int .i64 n0, .slice a0 xs.length c0], .slice (some ⟨C, 0, none⟩) 1 1] (W.alloc (.cells #[.slice a1 zs.length c1] 32)) fun e w' => e = .returned (.int .i64 (csC n0 xs (isB zs zs.length) (vrL zs).length)) ∧ Below (W.alloc (.cells #[.slice a1 zs.length c1] 32)).heap.size (W.alloc (.cells #[.slice a1 zs.length c1] 32)) w' := by
  have q := l06Code_any n0 xs [zs] a0 c0 (some ⟨C, 0, none⟩) 1 1 (W.alloc (.cells #[.slice a1 zs.length c1] 32)) hl0 (by omega) (nthL_le1 hl1) (H0.keep (alloc_keep _ _).1 (Nat.le_refl _)) (lay1 H1 32 hC)
  rw [okAll_1, mkL_1] at q
  exact q
theorem zF_nat {xs : List Int} {zs : List Nd} (h8 : xs.length ≤ 8) (hr : Rel xs.length (nth xs)) {k : Nat} (h : ¬ zF xs zs k = 0) : ∃ q : Nat, zF xs zs k = (q : Int) ∧ q ≠ 0 ∧ q < 1073741824 := by
  have i := zF_mk (zs := zs) h8 hr k
  obtain ⟨q, hq⟩ := Int.eq_ofNat_of_zero_le i.1
  have g := (i.bd (Nat.le_trans h8 (by decide))).2
  rw [hq] at g
  exact ⟨q, hq, fun e => h (by rw [hq, e]; rfl), Int.ofNat_lt.1 (show ((q : Nat) : Int) < ((1073741824 : Nat) : Int) from g)⟩

set_option maxHeartbeats 4000000 in
set_option maxRecDepth 100000 in
theorem specFirstRefutation_v (n0 : Int) (xs : List Int) (zs : List Nd) (v0 : Value) (lo0 hi0 : Nat) (v1 : Value) (lo1 hi1 : Nat) (w : World) (hl0 : xs.length ≤ 1048576) (hl1 : zs.length ≤ 1048576) (h0 : InF w lo0 hi0 v0 n0 xs) (h1 : InN w lo1 hi1 v1 zs) :
    Calls Tryd.prog 7 #[v0, v1] w fun e w' => ∃ v, e = .returned (.tuple #[v, .int .i64 (fiW n0 xs zs), .int .i64 (fiC n0 xs zs)]) ∧ Own w' w.heap.size v (fiL n0 xs zs) ∧ Below w.heap.size w w' := by
  obtain ⟨a0, c0, rfl, hat0, -⟩ := h0.at
  obtain ⟨a1, c1, rfl, hn, hc1, hc2⟩ := h1.at'
  obtain ⟨W, hW, HB, X, HS⟩ : ∃ W : World, W = w.alloc (.cells #[.int .i64 n0, .slice a0 xs.length c0] 30) ∧ Hid (Below w.heap.size w W) ∧ Hid (Bx W w.heap.size n0 a0 xs.length c0) ∧ Hid (W.heap.size = w.heap.size + 1) := ⟨_, rfl, Lib.hid (alloc_keep _ _).1, Lib.hid (Bx.new _ _ _ _ _ _), Lib.hid (by simp)⟩
  have H0 := Lib.hid (hat0.keep HB.out (Nat.le_refl _))
  have H1 := Lib.hid (hn.keep HB.out (Nat.le_refl _))
  have HW := Lib.hid hW
  obtain ⟨lt0, x0, x1⟩ := X.out
  have CSX := Lib.hid (fun (C : Nat) (hC : C = W.heap.size) => l06Code1 n0 xs zs a0 c0 a1 c1 W hl0 hl1 H0.out H1.out C hC)
  clear h0 h1 hat0 hn hW
  by_cases hz : rwC n0 xs zs = 0
  · have Z := Lib.hid (show csC n0 xs (isB zs zs.length) (vrL zs).length = 0 from hz)
    have HZ := Lib.hid hz
    obtain ⟨hf, hb', h16⟩ := csC_ok Z.out
    have ISB := Lib.hid hb'
    obtain ⟨b1, o1, ea1, hf1⟩ := (show ∃ b off, a1 = some ⟨b, off, none⟩ ∧ AtF W b off zs.length c1 (toFm zs) from AtN.fm' H1.out hc1 hc2 ISB.out)
    subst ea1
    obtain ⟨hn0, h8, -, hr⟩ := frB_ok hf
    subst hn0
    have h16' : xs.length * (vrL zs).length ≤ 16 := by exact_mod_cast h16
    have FI := Lib.hid (fun w' (hw : Below W.heap.size W w') => l06First_any xs zs a0 c0 b1 o1 c1 w' h8 h16' hr ISB.out hl1 (H0.out.keep hw (Nat.le_refl _)) (H1.out.keep hw (Nat.le_refl _)) (hf1.keep hw (Nat.le_refl _)))
    have REL := Lib.hid hr
    have H8 := Lib.hid (show xs.length ≤ 8 from h8)
    have n0 : 0 ≤ (xs.length : Int) := by omega
    have n30 : (xs.length : Int) ≤ 30 := by omega
    clear hf hb' hz h16 h16' hr h8 hf1
    go_enter Tryd.func7, Tryd.ntmps7
    go_wp2_with fail
    rw [← HW.out]
    refine (CSX.out _ HS.out.symm).mono ?_
    rw [Z.out]
    rintro e w2 ⟨rfl, hb⟩
    have T2 := Lib.hid ((alloc_keep W _).1.trans (hb.mono (alloc_keep W _).1.size))
    clear hb x0 x1 lt0
    obtain ⟨lt0, x0, x1⟩ := X.out.keep T2.out
    go_wp2_with fail
    refine (FI.out _ T2.out).mono ?_
    rintro e w3 ⟨hb, ⟨k, v, hk, ha, hk0, rfl, ho⟩ | ⟨ha, rfl⟩⟩
    · have T3 := Lib.hid (T2.out.trans (hb.mono T2.out.size))
      obtain ⟨q, hq, hq0, hq30⟩ := zF_nat H8.out REL.out hk0
      have FH := Lib.hid (fi_hit HZ.out hk ha hk0)
      obtain ⟨av, cv, rfl, -⟩ := ho.at
      have OV := Lib.hid (ho.mono (show w.heap.size ≤ w2.heap.size from Nat.le_trans HB.out.size T2.out.size))
      have QQ := Lib.hid hq
      obtain ⟨t, ht⟩ : ∃ t, t = (toFm zs).tr xs (vlL xs.length (vrL zs) k) := ⟨_, rfl⟩
      have TQ := Lib.hid (show bits .andNot .i64 (full xs.length) t = (q : Int) by rw [ht]; exact hq)
      rw [← ht]
      obtain ⟨ch1, ch2⟩ := ctz_head hq0 hq30
      have CH := Lib.hid (And.intro ch1 ch2)
      have LL := Lib.hid (fun w' => l01List_any q hq30 w')
      clear hb ha hk hk0 hq ho ht x0 x1 lt0 ch1 ch2
      obtain ⟨lt0, x0, x1⟩ := X.out.keep T3.out
      go_wp2
      go_region_with (first | (go_at_call 24; refine (l01Full_any _ _ n0 n30).mono ?_; rintro e w' ⟨rfl, rfl⟩) | (go_at_call 23; rw [TQ.out]; refine (LL.out _).mono ?_; rintro e w4 ⟨v4, rfl, ho, hb⟩; have T4 := Lib.hid (show Below w3.heap.size w3 w4 by first | exact below_of_drew hb | exact hb); obtain ⟨a4, k4, rfl, hat4, -⟩ := ho.at; have hp := CH.out.2; obtain ⟨g, o, rfl, hg, hc⟩ := hat4.2.resolve_left (by omega); have g4 := hc 0 hp; rw [CH.out.1] at g4; have g5 : w4.cell? ⟨g, o, none⟩ = some (.int .i64 ((Lib.ctz 64 q : Nat) : Int)) := (by simpa using g4); clear hc hat4 ho hb; obtain ⟨lz, z0, z1⟩ := X.out.keep (T3.out.trans (T4.out.mono T3.out.size))))
      all_goals
        go_wp2
        go_ret3
        exact ⟨.slice av (vlL xs.length (vrL zs) k).length cv, by rw [FH.out.2.1, FH.out.2.2.1, QQ.out, Int.toNat_natCast, CH.out.1]; rfl, by rw [FH.out.1]; exact OV.out.keep T4.out (Nat.le_refl _), HB.out.trans ((T3.out.trans (T4.out.mono T3.out.size)).mono HB.out.size)⟩
    · have T3 := Lib.hid (T2.out.trans (hb.mono T2.out.size))
      have FH := Lib.hid (fi_none HZ.out ha)
      clear hb ha x0 x1 lt0
      obtain ⟨lt0, x0, x1⟩ := X.out.keep T3.out
      go_wp2
      go_ret3
      exact ⟨.slice none 0 0, by rw [FH.out.2.1, FH.out.2.2.1]; rfl, by rw [FH.out.1]; exact World.ownsRow_nil _ _ _ _, HB.out.trans (T3.out.mono HB.out.size)⟩
  · obtain ⟨z, hzz⟩ : ∃ z, z = csC n0 xs (isB zs zs.length) (vrL zs).length := ⟨_, rfl⟩
    have hz1 : (z == 0) = false := by rw [hzz]; simpa [rwC] using hz
    have hz2 : (z != 0) = true := by rw [hzz]; simpa [rwC] using hz
    have FB := Lib.hid (fi_bad hz)
    have RZ := Lib.hid (show rwC n0 xs zs = z from hzz.symm)
    have ZZ := Lib.hid hzz
    clear hz hzz
    go_enter Tryd.func7, Tryd.ntmps7
    go_wp2_with fail
    rw [← HW.out]
    refine (CSX.out _ HS.out.symm).mono ?_
    rw [← ZZ.out]
    rintro e w2 ⟨rfl, hb⟩
    have T2 := Lib.hid (HB.out.trans (((alloc_keep W _).1.trans (hb.mono (alloc_keep W _).1.size)).mono HB.out.size))
    clear hb x0 x1 lt0
    go_wp2
    go_ret3
    exact ⟨.slice none 0 0, by rw [FB.out.2.1, FB.out.2.2.1, RZ.out]; rfl, by rw [FB.out.1]; exact World.ownsRow_nil _ _ _ _, T2.out⟩

end Go.Proofs.YtnoaaklkbfbdbaaDoor
