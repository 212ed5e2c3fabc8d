/- 2 texts in one: FiV, FiL. -/
import Derived.Test.YtnoaaklkbfbdbaaDoorFiT
import Derived.Test.YtnoaaklkbfbdbaaDoorFiQ
/- What the model and the program answer for validity on a frame. Conditions: the table of math/bits for the program, and those in the theorems. -/
namespace Go.Proofs.YtnoaaklkbfbdbaaDoor
open Go.RowKit

set_option maxHeartbeats 1000000 in
theorem l06Valid_any (xs : List Int) (zs : List Nd) (a0 : Option Addr) (c0 b1 o1 c1 : Nat) (w : World) (hz0 : rwC xs.length xs zs = 0) (h8 : xs.length ≤ 8) (h16 : xs.length * (vrL zs).length ≤ 16) (hr : Rel xs.length (nth xs)) (hb : isB zs zs.length = true) (hl1 : zs.length ≤ 1048576) (hx : At w a0 xs.length xs) (hz : AtN w (some ⟨b1, o1, none⟩) zs.length zs) (hf : AtF w b1 o1 zs.length c1 (toFm zs)) :
    Calls Tryd.prog 32 #[.agg #[.int .i64 xs.length, .slice a0 xs.length c0], .slice (some ⟨b1, o1, none⟩) zs.length c1] w fun e w' => e = .returned (.bool (voV xs.length xs zs)) ∧ Below w.heap.size w w' := by
  obtain ⟨W, hW, HB, X⟩ : ∃ W : World, W = w.alloc (.cells #[.int .i64 xs.length, .slice a0 xs.length c0] 30) ∧ Hid (Below w.heap.size w W) ∧ Hid (Bx W w.heap.size xs.length a0 xs.length c0) := ⟨_, rfl, Lib.hid (alloc_keep _ _).1, Lib.hid (Bx.new _ _ _ _ _ _)⟩
  have FI := Lib.hid (l06First_any xs zs a0 c0 b1 o1 c1 W h8 h16 hr hb hl1 (hx.keep HB.out (Nat.le_refl _)) (hz.keep HB.out (Nat.le_refl _)) (hf.keep HB.out (Nat.le_refl _)))
  have HW := Lib.hid hW
  have HZ := Lib.hid hz0
  obtain ⟨lt0, x0, x1⟩ := X.out
  clear h8 h16 hr hb hx hz hf hW hz0
  go_enter Tryd.func32, Tryd.ntmps32
  go_wp2_with fail
  rw [← HW.out]
  refine FI.out.mono ?_
  rintro e w3 ⟨hb, ⟨k, v, hk, ha, hk0, rfl, -⟩ | ⟨ha, rfl⟩⟩
  · have T3 := Lib.hid (HB.out.trans (hb.mono HB.out.size))
    have FH := Lib.hid (fi_hit HZ.out hk ha hk0)
    clear hb ha hk hk0 x0 x1 lt0
    go_wp2
    go_ret
    exact ⟨ret_bool FH.out.2.2.2.symm, T3.out⟩
  · have T3 := Lib.hid (HB.out.trans (hb.mono HB.out.size))
    have FH := Lib.hid (fi_none HZ.out ha)
    clear hb ha x0 x1 lt0
    go_wp2
    go_ret
    exact ⟨ret_bool FH.out.2.2.2.symm, T3.out⟩

set_option maxHeartbeats 1000000 in
theorem specIsValidOn_v (n0 : Int) (xs : List Int) (zs : List Nd) (v0 : Value) (lo0 hi0 : Nat) (v1 : Value) (lo1 hi1 : Nat) (w : World) (hl0 : xs.length ≤ 1048576) (hl1 : zs.length ≤ 1048576) (h0 : InF w lo0 hi0 v0 n0 xs) (h1 : InN w lo1 hi1 v1 zs) :
    Calls Tryd.prog 18 #[v0, v1] w fun e w' => e = .returned (.tuple #[.bool (voV n0 xs zs), .int .i64 (rwC n0 xs zs)]) ∧ Below w.heap.size w w' := by
  obtain ⟨a0, c0, rfl, hat0, -⟩ := h0.at
  obtain ⟨a1, c1, rfl, hn, hc1, hc2⟩ := h1.at'
  obtain ⟨W, hW, HB, X, HS⟩ : ∃ W : World, W = w.alloc (.cells #[.int .i64 n0, .slice a0 xs.length c0] 30) ∧ Hid (Below w.heap.size w W) ∧ Hid (Bx W w.heap.size n0 a0 xs.length c0) ∧ Hid (W.heap.size = w.heap.size + 1) := ⟨_, rfl, Lib.hid (alloc_keep _ _).1, Lib.hid (Bx.new _ _ _ _ _ _), Lib.hid (by simp)⟩
  have H0 := Lib.hid (hat0.keep HB.out (Nat.le_refl _))
  have H1 := Lib.hid (hn.keep HB.out (Nat.le_refl _))
  have HW := Lib.hid hW
  obtain ⟨lt0, x0, x1⟩ := X.out
  have CSX := Lib.hid (fun (C : Nat) (hC : C = W.heap.size) => l06Code1 n0 xs zs a0 c0 a1 c1 W hl0 hl1 H0.out H1.out C hC)
  clear h0 h1 hat0 hn hW
  by_cases hz : rwC n0 xs zs = 0
  · have Z := Lib.hid (show csC n0 xs (isB zs zs.length) (vrL zs).length = 0 from hz)
    have HZ := Lib.hid hz
    obtain ⟨hf, hb', h16⟩ := csC_ok Z.out
    have ISB := Lib.hid hb'
    obtain ⟨b1, o1, ea1, hf1⟩ := (show ∃ b off, a1 = some ⟨b, off, none⟩ ∧ AtF W b off zs.length c1 (toFm zs) from AtN.fm' H1.out hc1 hc2 ISB.out)
    subst ea1
    obtain ⟨hn0, h8, -, hr⟩ := frB_ok hf
    subst hn0
    have h16' : xs.length * (vrL zs).length ≤ 16 := by exact_mod_cast h16
    have FI := Lib.hid (fun w' (hw : Below W.heap.size W w') => l06Valid_any xs zs a0 c0 b1 o1 c1 w' hz h8 h16' hr ISB.out hl1 (H0.out.keep hw (Nat.le_refl _)) (H1.out.keep hw (Nat.le_refl _)) (hf1.keep hw (Nat.le_refl _)))
    obtain ⟨r, hr2⟩ : ∃ r, r = voV xs.length xs zs := ⟨_, rfl⟩
    have RR := Lib.hid (show Ending.returned (.tuple #[.bool r, .int .i64 0]) = .returned (.tuple #[.bool (voV xs.length xs zs), .int .i64 (rwC xs.length xs zs)]) by rw [hr2, hz])
    rw [← hr2] at FI
    clear hf hb' hz h16 h16' hr h8 hf1 hr2
    go_enter Tryd.func18, Tryd.ntmps18
    go_wp2_with fail
    rw [← HW.out]
    refine (CSX.out _ HS.out.symm).mono ?_
    rw [Z.out]
    rintro e w2 ⟨rfl, hb⟩
    have T2 := Lib.hid ((alloc_keep W _).1.trans (hb.mono (alloc_keep W _).1.size))
    clear hb x0 x1 lt0
    obtain ⟨lt0, x0, x1⟩ := X.out.keep T2.out
    go_wp2_with fail
    refine (FI.out _ T2.out).mono ?_
    rintro e w3 ⟨rfl, hb⟩
    have T3 := Lib.hid (HB.out.trans ((T2.out.trans (hb.mono T2.out.size)).mono HB.out.size))
    clear hb x0 x1 lt0
    go_wp2
    go_ret2
    exact ⟨RR.out, T3.out⟩
  · obtain ⟨z, hzz⟩ : ∃ z, z = csC n0 xs (isB zs zs.length) (vrL zs).length := ⟨_, rfl⟩
    have hz1 : (z == 0) = false := by rw [hzz]; simpa [rwC] using hz
    have hz2 : (z != 0) = true := by rw [hzz]; simpa [rwC] using hz
    have RR := Lib.hid (show Ending.returned (.tuple #[.bool false, .int .i64 z]) = .returned (.tuple #[.bool (voV n0 xs zs), .int .i64 (rwC n0 xs zs)]) by rw [(fi_bad hz).2.2.2, hzz]; rfl)
    have ZZ := Lib.hid hzz
    clear hz hzz
    go_enter Tryd.func18, Tryd.ntmps18
    go_wp2_with fail
    rw [← HW.out]
    refine (CSX.out _ HS.out.symm).mono ?_
    rw [← ZZ.out]
    rintro e w2 ⟨rfl, hb⟩
    have T2 := Lib.hid (HB.out.trans (((alloc_keep W _).1.trans (hb.mono (alloc_keep W _).1.size)).mono HB.out.size))
    clear hb x0 x1 lt0
    go_wp2
    go_ret2
    exact ⟨RR.out, T2.out⟩

set_option maxHeartbeats 1000000 in
theorem implIsValidOn_v (n0 : Int) (xs : List Int) (zs : List Nd) (v0 : Value) (lo0 hi0 : Nat) (v1 : Value) (lo1 hi1 : Nat) (w : World) (hl0 : xs.length ≤ 1048576) (hl1 : zs.length ≤ 1048576) (h0 : InF w lo0 hi0 v0 n0 xs) (h1 : InN w lo1 hi1 v1 zs) (hT : Db w) :
    Calls Tryd.prog 19 #[v0, v1] w fun e w' => e = .returned (.tuple #[.bool (voV n0 xs zs), .int .i64 (rwC n0 xs zs)]) ∧ Below w.heap.size w w' := by
  obtain ⟨a0, c0, e0, hat0, -⟩ := h0.at
  obtain ⟨a1, c1, e1, hn, hc1, hc2⟩ := h1.at'
  subst e0 e1
  obtain ⟨W, hW, HB, X⟩ : ∃ W : World, W = w.alloc (.cells #[.int .i64 n0, .slice a0 xs.length c0] 30) ∧ Hid (Below w.heap.size w W) ∧ Hid (Bx W w.heap.size n0 a0 xs.length c0) := ⟨_, rfl, Lib.hid (alloc_keep _ _).1, Lib.hid (Bx.new _ _ _ _ _ _)⟩
  have FR := Lib.hid (implFirstRefutation_v n0 xs zs _ lo0 hi0 _ lo1 hi1 W hl0 hl1 (h0.below HB.out h0.hi) (h1.below HB.out h1.2.1) (hT.keep HB.out (Nat.le_refl _)))
  have HW := Lib.hid hW
  obtain ⟨lt0, x0, x1⟩ := X.out
  obtain ⟨c, hc⟩ : ∃ c, c = fiC n0 xs zs := ⟨_, rfl⟩
  obtain ⟨u, hu⟩ : ∃ u, u = fiW n0 xs zs := ⟨_, rfl⟩
  have VO := Lib.hid (voC n0 xs zs)
  rw [← hc] at VO FR
  rw [← hu] at FR
  clear h0 h1 hat0 hn hW hc hu hT
  by_cases h4 : c = 4
  · subst h4
    go_enter Tryd.func19, Tryd.ntmps19
    go_wp2_with fail
    rw [← HW.out]
    refine FR.out.mono ?_
    rintro e w3 ⟨v, rfl, -, hb⟩
    have T3 := Lib.hid (HB.out.trans (hb.mono HB.out.size))
    clear hb x0 x1 lt0
    go_wp2
    go_ret2
    exact ⟨VO.out, T3.out⟩
  · have h41 : (c == 4) = false := by simpa using h4
    have VO2 := Lib.hid (show Ending.returned (.tuple #[.bool false, .int .i64 c]) = .returned (.tuple #[.bool (voV n0 xs zs), .int .i64 (rwC n0 xs zs)]) by have := VO.out; rw [if_neg h4] at this; exact this)
    clear VO
    go_enter Tryd.func19, Tryd.ntmps19
    go_wp2_with fail
    rw [← HW.out]
    refine FR.out.mono ?_
    rintro e w3 ⟨v, rfl, -, hb⟩
    have T3 := Lib.hid (HB.out.trans (hb.mono HB.out.size))
    clear hb x0 x1 lt0
    go_wp2
    go_ret2
    exact ⟨VO2.out, T3.out⟩

end Go.Proofs.YtnoaaklkbfbdbaaDoor

/- What the walk of FirstRefutation's law wants: the length of the result; a formula's list kept beside another block's change. Conditions: those in the theorems. -/
namespace Go.Proofs.YtnoaaklkbfbdbaaDoor
open Go.RowKit

theorem FirstRefutation_len (n : Int) (xs : List Int) (zs : List Nd) : (fiL n xs zs).length ≤ 1048576 := by
  unfold fiL
  split
  · rw [vlL_len]; omega
  · exact Nat.zero_le _
theorem InN.blk {w : World} {lo hi : Nat} {v : Value} {xs : List Nd} (h : InN w lo hi v xs) : ∀ k, v.ownBlock = some k → lo ≤ k ∧ k < hi := h.2.2
theorem InN.hi {w : World} {lo hi : Nat} {v : Value} {xs : List Nd} (h : InN w lo hi v xs) : hi ≤ w.heap.size := h.2.1
theorem InN.oth {w w' : World} {lo hi lo' hi' : Nat} {v : Value} {b : Option Nat} {xs : List Nd} (h : InN w lo hi v xs) (hu : ∀ k, b = some k → lo' ≤ k ∧ k < hi') (hg : w.grownBy w' b) (hd : hi ≤ lo' ∨ hi' ≤ lo) : InN w' lo hi v xs := by
  refine ⟨World.ownsRow.kept h.1 hg ?_, Nat.le_trans h.2.1 hg.size, h.2.2⟩
  cases hv : v.ownBlock with
  | none => exact .inl rfl
  | some k =>
    right
    intro e
    have h1 := h.2.2 k hv
    have h2 := hu k e.symm
    omega

end Go.Proofs.YtnoaaklkbfbdbaaDoor
