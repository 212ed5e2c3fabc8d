/- Contracts of the program's functions over maps between frames: the map's check, morphisms. Conditions: those in the theorems. -/
import Derived.Test.YtomldealpmohhaaMrS
import Derived.Test.YtomldealpmohhaaIx1
namespace Go.Proofs.Ytomldealpmohhaa
open Go.RowKit

theorem areF2_made (n0 n1 : Int) (xs ys : List Int) (a0 : Option Addr) (l0 c0 : Nat) (a1 : Option Addr) (l1 c1 : Nat) (W : World) (hl0 : l0 ≤ 1048576) (hl1 : l1 ≤ 1048576) (h0 : At W a0 l0 xs) (h1 : At W a1 l1 ys) {k : Nat} (hk : W.heap.size = k) :
    Calls Try.prog 117 #[.slice (some ⟨k, 0, none⟩) 2 2] (W.alloc (.cells #[.int .i64 n0, .slice a0 l0 c0, .int .i64 n1, .slice a1 l1 c1] 32)) fun e w' => e = .returned (.bool (frB n0 xs && frB n1 ys)) ∧ Below W.heap.size W w' := by
  subst hk
  obtain ⟨V, hV, bV, hVs, d0, d1, d2, d3⟩ := cells4 W n0 n1 a0 a1 l0 c0 l1 c1
  rw [← hV]
  exact (areFrames2_any n0 n1 xs ys a0 a1 l0 c0 l1 c1 _ V hl0 hl1 (h0.keep bV (Nat.le_refl _)) (h1.keep bV (Nat.le_refl _)) hVs d0 d1 d2 d3).mono fun e w' ⟨e1, hb⟩ => ⟨e1, bV.trans (hb.mono bV.size)⟩

theorem ism1_any (x n1 : Int) (R : Nat) (w : World) (h : w.cell? ⟨R, 0, none⟩ = some (.int .i64 n1)) :
    Calls Try.prog 131 #[.int .i64 x, .pointer (some ⟨R, 0, none⟩)] w fun e w' => e = .returned (.bool (!(wlB n1 x))) ∧ w = w' := by
  go_enter Try.func131, Try.ntmps131
  go_wp2_with (go_at_call 53; refine (isBelow_any _ _ _).mono ?_; rintro e w' ⟨rfl, rfl⟩)
  go_ret
  exact ⟨rfl, rfl⟩

theorem mapB_al (n : Int) (ls : List Int) (k : Nat) : alB (fun j => wlB n (nth ls j)) k = mapB n ls k := by
  induction k with
  | zero => rfl
  | succ k ih => rw [alB, mapB, ih]
theorem mksTo_al (n : Int) (ls : List Int) (k : Nat) : alB (fun j => mskB n (nth ls j)) k = mksTo n ls k := by
  induction k with
  | zero => rfl
  | succ k ih => rw [alB, mksTo, ih]

set_option maxHeartbeats 1000000 in
theorem areBelow_any (ls : List Int) (n : Int) (al : Option Addr) (cl : Nat) (w : World) (hll : ls.length ≤ 1048576) (hL : At w al ls.length ls) :
    Calls Try.prog 118 #[.slice al ls.length cl, .int .i64 n] w fun e w' => e = .returned (.bool (mapB n ls ls.length)) ∧ Below w.heap.size w w' := by
  obtain ⟨W, hW⟩ : ∃ W, W = w.alloc (.cells #[.int .i64 n] 2) := ⟨_, rfl⟩
  have hWb : Below w.heap.size w W := by rw [hW]; exact (Below.refl _ _).alloc (Nat.le_refl _) _
  have hWc : W.cell? ⟨w.heap.size, 0, none⟩ = some (.int .i64 n) := by rw [hW]; exact World.cell?_alloc_new _ _ _ 0
  have hWs : w.heap.size < W.heap.size := by rw [hW]; simp
  have HL := Lib.hid (hL.keep hWb (Nat.le_refl _))
  have HC := Lib.hid (fun W' (hb : Below W.heap.size W W') => (hb.cell (p := ⟨w.heap.size, 0, none⟩) hWs).trans hWc)
  have CT := Lib.hid (ctI1_any (fun j => wlB n (nth ls j)) ls w.heap.size al cl W hll HL.out (fun k hk W' hW' => ism1_any _ n _ W' (HC.out W' hW')))
  have MB := Lib.hid (mapB_al n ls ls.length)
  have HB := Lib.hid hWb
  have HW := Lib.hid hW
  clear hL hW hWb hWc hWs
  go_enter Try.func118, Try.ntmps118
  go_wp2_with fail
  rw [← HW.out]
  refine CT.out.mono ?_
  rw [MB.out]
  rintro e w2 ⟨rfl, rfl⟩
  go_wp2
  go_ret
  exact ⟨ret_bool (by simp), HB.out⟩

set_option maxHeartbeats 1000000 in
theorem isMap_any (n0 n1 : Int) (xs ps ls : List Int) (a0 : Option Addr) (c0 : Nat) (a1 : Option Addr) (c1 : Nat) (al : Option Addr) (cl : Nat) (w : World) (hl0 : xs.length ≤ 1048576) (hl1 : ps.length ≤ 1048576) (hll : ls.length ≤ 1048576) (h0 : At w a0 xs.length xs) (h1 : At w a1 ps.length ps) (hL : At w al ls.length ls) :
    Calls Try.prog 78 #[.agg #[.int .i64 n0, .slice a0 xs.length c0], .agg #[.int .i64 n1, .slice a1 ps.length c1], .slice al ls.length cl] w fun e w' => e = .returned (.bool (imK n0 xs n1 ps ls)) ∧ Below w.heap.size w w' := by
  obtain ⟨W, hW, HB, X0, X1, hWs⟩ := boxTf w n0 a0 xs.length c0 n1 a1 ps.length c1
  have AF := Lib.hid (fun k hk => areF2_made n0 n1 xs ps a0 xs.length c0 a1 ps.length c1 W hl0 hl1 (h0.keep HB.out (Nat.le_refl _)) (h1.keep HB.out (Nat.le_refl _)) (k := k) hk)
  have HL := Lib.hid (hL.keep HB.out (Nat.le_refl _))
  have HW := Lib.hid hW
  have HWs := Lib.hid hWs
  clear h0 h1 hL hW hWs
  obtain ⟨lt0, x0, x0'⟩ := X0.out
  obtain ⟨lt1, y0, y0'⟩ := X1.out
  cases hf : (frB n0 xs && frB n1 ps)
  · have F := Lib.hid hf
    have C := Lib.hid (show imK n0 xs n1 ps ls = false by rw [imK, hf]; rfl)
    clear hf
    go_enter Try.func78, Try.ntmps78
    go_wp2_with fail
    rw [← HW.out]
    refine (AF.out _ HWs.out).mono ?_
    rw [F.out]
    rintro e w1 ⟨rfl, hb⟩
    have B1 := Lib.hid (HB.out.trans (hb.mono HB.out.size))
    clear hb x0 x0' y0 y0'
    go_wp2
    go_ret
    exact ⟨ret_bool C.out.symm, B1.out⟩
  · have F := Lib.hid hf
    by_cases hq : (ls.length : Int) = n0
    · have C := Lib.hid (show imK n0 xs n1 ps ls = mapB n1 ls ls.length by rw [imK, hf, mpB, decide_eq_true hq]; rfl)
      have q1 : ((ls.length : Int) == n0) = true := by simpa using hq
      have q2 : ((ls.length : Int) != n0) = false := by simpa using hq
      clear hf hq
      go_enter Try.func78, Try.ntmps78
      go_wp2_with fail
      rw [← HW.out]
      refine (AF.out _ HWs.out).mono ?_
      rw [F.out]
      rintro e w1 ⟨rfl, hb⟩
      have T1 := Lib.hid hb
      have B1 := Lib.hid (HB.out.trans (hb.mono HB.out.size))
      clear hb x0 x0' y0 y0'
      obtain ⟨lt0, x0, x0'⟩ := X0.out.keep T1.out
      obtain ⟨lt1, y0, y0'⟩ := X1.out.keep T1.out
      go_wp2_with fail
      clear x0 x0' y0 y0' q1 q2
      refine (areBelow_any ls n1 _ _ _ hll (HL.out.keep T1.out (Nat.le_refl _))).mono ?_
      rintro e w2 ⟨rfl, hb2⟩
      have B2 := Lib.hid (B1.out.trans (hb2.mono B1.out.size))
      clear hb2
      go_wp2
      go_ret
      exact ⟨ret_bool C.out.symm, B2.out⟩
    · have C := Lib.hid (show imK n0 xs n1 ps ls = false by rw [imK, hf, mpB, decide_eq_false hq]; rfl)
      have q1 : ((ls.length : Int) == n0) = false := by simpa using hq
      have q2 : ((ls.length : Int) != n0) = true := by simpa using hq
      clear hf hq
      go_enter Try.func78, Try.ntmps78
      go_wp2_with fail
      rw [← HW.out]
      refine (AF.out _ HWs.out).mono ?_
      rw [F.out]
      rintro e w1 ⟨rfl, hb⟩
      have T1 := Lib.hid hb
      have B1 := Lib.hid (HB.out.trans (hb.mono HB.out.size))
      clear hb x0 x0' y0 y0'
      obtain ⟨lt0, x0, x0'⟩ := X0.out.keep T1.out
      go_wp2
      go_ret
      exact ⟨ret_bool C.out.symm, B1.out⟩

set_option maxHeartbeats 1000000 in
theorem isMorphism_any (n0 n1 : Int) (xs ps ls : List Int) (a0 : Option Addr) (c0 : Nat) (a1 : Option Addr) (c1 : Nat) (al : Option Addr) (cl : Nat) (w : World) (hx : ls.length = xs.length) (hx8 : xs.length ≤ 30) (hlb : ∀ i, i < ls.length → ∃ q : Nat, q < ps.length ∧ nth ls i = q) (hb30 : ∀ i, 0 ≤ nth ls i ∧ nth ls i ≤ 30) (h0 : At w a0 xs.length xs) (h1 : At w a1 ps.length ps) (hL : At w al ls.length ls) :
    Calls Try.prog 79 #[.agg #[.int .i64 n0, .slice a0 xs.length c0], .agg #[.int .i64 n1, .slice a1 ps.length c1], .slice al ls.length cl] w fun e w' => e = .returned (.bool (mrB xs ps ls ls.length)) ∧ Below w.heap.size w w' := by
  obtain ⟨W, hW, HB, X0, X1, hWs⟩ := boxTf w n0 a0 xs.length c0 n1 a1 ps.length c1
  have H0 := Lib.hid (h0.keep HB.out (Nat.le_refl _))
  have H1 := Lib.hid (h1.keep HB.out (Nat.le_refl _))
  have HL := Lib.hid (hL.keep HB.out (Nat.le_refl _))
  have HW := Lib.hid hW
  have LB := Lib.hid hlb
  have HX := Lib.hid hx
  have h8 : ls.length ≤ 30 := by omega
  have IM := Lib.hid (fun q w (hat : At w al ls.length ls) => classesOf_any ls q al cl w (by omega) hb30 hat)
  clear hx8
  clear h0 h1 hL hW hWs hlb hb30 hx
  obtain ⟨lt0, x0, x0'⟩ := X0.out
  obtain ⟨lt1, y0, y0'⟩ := X1.out
  go_enter Try.func79, Try.ntmps79
  go_wp2
  rw [← HW.out]
  clear x0 x0' y0 y0'
  go_loopw [12] (fun i wr => ∃ k : Nat, k ≤ ls.length ∧ i = .int .i64 k ∧ mrB xs ps ls k = true ∧ Hid (Below W.heap.size W wr)) (fun i _ => ls.length - (intOf i).toNat)
  case atStart => exact ⟨0, Nat.zero_le _, rfl, rfl, Lib.hid (Below.refl _ _)⟩
  case round =>
    obtain ⟨k, hk, rfl, hm, B⟩ := hrel
    have HM := Lib.hid hm
    clear hm
    by_cases hlt : k < ls.length
    · have AL := Lib.hid (HL.out.keep B.out (Nat.le_refl _))
      obtain ⟨b, off, rfl, hb, hc⟩ := AL.out.2.resolve_left (by omega)
      obtain ⟨b0, o0, rfl, hb0, hc0⟩ := (H0.out.keep B.out (Nat.le_refl _)).2.resolve_left (by have := HX.out; omega)
      obtain ⟨q, hq, hqe⟩ := LB.out k hlt
      obtain ⟨b1, o1, rfl, hb1, hc1⟩ := (H1.out.keep B.out (Nat.le_refl _)).2.resolve_left (by omega)
      have g := hc k hlt
      rw [hqe] at g
      have g0 := hc0 k (by have := HX.out; omega)
      have g1 := hc1 q hq
      have hlt0 : (k : Int) < (xs.length : Int) := by have := HX.out; omega
      have hlt1 : (q : Int) < (ps.length : Int) := by omega
      obtain ⟨lt1, y0, y0'⟩ := X1.out.keep B.out
      have MB := Lib.hid (show ∀ z, (coTo ls (nth xs k) ls.length == nth ps q) = z → mrB xs ps ls (k + 1) = z from fun z e => by rw [mrB, HM.out, hqe, Int.toNat_natCast, e]; rfl)
      have AQ := Lib.hid (fun q => AL.out.keep (below_drewN (Below.refl wr.heap.size wr) q) (Nat.le_refl _))
      clear hc hc0 hc1 hqe
      cases hz : (coTo ls (nth xs k) ls.length == nth ps q)
      all_goals
        have hz2 : (coTo ls (nth xs k) ls.length != nth ps q) = !(coTo ls (nth xs k) ls.length == nth ps q) := rfl
        rw [hz] at hz2
        have HZ := Lib.hid (MB.out _ hz)
        clear hz
        go_wp2
        go_quiet ((go_at_call 113; exact q_same (IM.out _ _ (AQ.out _)) rfl))
        go_wp2
        first
        | (go_ret
           exact ⟨ret_bool (mrB_false (k := k + 1) hlt HZ.out).symm, below_drewN (HB.out.trans (B.out.mono HB.out.size)) _⟩)
        | (go_roundw
           case rel => exact ⟨k + 1, hlt, by go_num, HZ.out, Lib.hid (below_drewN B.out _)⟩
           case measure => simp [intOf]; omega)
    · obtain rfl : k = ls.length := by omega
      have hxx : ¬ ((ls.length : Int) < (xs.length : Int)) := by have := HX.out; omega
      go_wp2
      go_ret
      exact ⟨ret_bool HM.out.symm, HB.out.trans (B.out.mono HB.out.size)⟩

end Go.Proofs.Ytomldealpmohhaa
