/- 4 texts in one: TrP, TrV, SiA, SiB. -/
import Derived.Test.YtecjmibnoldpgabJn14
import Derived.Test.YtecjmibnoldpgabJn13
import Derived.Test.YtecjmibnoldpgabJn16
import Derived.Test.YtecjmibnoldpgabJn09
import Derived.Test.YtecjmibnoldpgabJn15
import Derived.Test.YtecjmibnoldpgabJn11
/- What the program answers for the truth set of a formula in a model. Conditions: those in the theorems. -/
namespace Go.Proofs.Ytecjmibnoldpgab
open Go.RowKit

end Go.Proofs.Ytecjmibnoldpgab

/- Contracts of TruthSet, IsTrueAt and IsTrueIn of the model and of the program, at every argument. Conditions: those in the theorems. -/
namespace Go.Proofs.Ytecjmibnoldpgab
open Go.RowKit

def mdC (b1 b2 : Bool) : Int := if b1 && b2 then 0 else 1

set_option maxHeartbeats 1000000 in
theorem checkModel_any (n : Int) (xs ys : List Int) (a : Option Addr) (len cap : Nat) (b : Option Addr) (m d : Nat) (zss : List (List Nd)) (c : Option Addr) (l cl : Nat) (w : World) (hl : len ≤ 1048576) (hm : m ≤ 1048576) (hz : l ≤ 2097152) (hi : ∀ j, j < l → (nthL zss j).length ≤ 1048576) (h : At w a len xs) (h' : At w b m ys) (h'' : AtNN w c l zss) :
    Calls Try.prog 89 #[.agg #[.int .i64 n, .slice a len cap, .slice b m d], .slice c l cl] w fun e w' => e = .returned (.int .i64 (mdC (isM n xs ys) (okAll zss l))) ∧ Below w.heap.size w w' := by
  obtain ⟨W, hW, hb0, hx, hWs⟩ := boxM (w := w) n a len cap b m d 32
  have HB := Lib.hid hb0
  have H := Lib.hid (h.keep hb0 (Nat.le_refl _))
  have H' := Lib.hid (h'.keep hb0 (Nat.le_refl _))
  have H2 := Lib.hid (h''.keep hb0 (Nat.le_refl _))
  have HI := Lib.hid hi
  have HW := Lib.hid hW
  clear h h' h'' hb0 hx hW hi
  cases h1 : isM n xs ys
  · have F := Lib.hid h1
    clear h1
    go_enter Try.func89, Try.ntmps89
    go_wp2_with fail
    rw [← HW.out]
    refine (implIsModel_any n xs ys _ _ _ _ _ _ _ hl hm H.out H'.out).mono ?_
    rw [F.out]
    rintro e w1 ⟨rfl, hb⟩
    have B1 := Lib.hid (HB.out.trans (hb.mono HB.out.size))
    clear hb
    go_wp2
    go_ret
    exact ⟨rfl, B1.out⟩
  · have F := Lib.hid h1
    cases h2 : okAll zss l
    all_goals
      have F2 := Lib.hid h2
      clear h2
      go_enter Try.func89, Try.ntmps89
      go_wp2_with fail
      rw [← HW.out]
      refine (implIsModel_any n xs ys _ _ _ _ _ _ _ hl hm H.out H'.out).mono ?_
      rw [F.out]
      rintro e w1 ⟨rfl, hb⟩
      have B1 := Lib.hid (HB.out.trans (hb.mono HB.out.size))
      have A1 := Lib.hid (H2.out.keep hb (Nat.le_refl _))
      clear hb
      go_wp2_with fail
      refine (areF_any zss _ _ _ _ hz HI.out A1.out).mono ?_
      rw [F2.out]
      rintro e w2 ⟨rfl, hb⟩
      have B2 := Lib.hid (B1.out.trans (hb.mono B1.out.size))
      clear hb
      go_wp2
      go_ret
      exact ⟨rfl, B2.out⟩

/-! TruthSet -/
noncomputable def tsV (n : Int) (xs ys : List Int) (zs : List Nd) : Int := if mdC (isM n xs ys) (isB zs zs.length) = 0 then (toFm zs).tr xs ys else 0
theorem ts_ok {n : Int} {xs ys : List Int} {zs : List Nd} (h1 : isM n xs ys = true) (h2 : isB zs zs.length = true) : Ending.returned (.tuple #[.int .i64 ((toFm zs).tr xs ys), .int .i64 0]) = .returned (.tuple #[.int .i64 (tsV n xs ys zs), .int .i64 (mdC (isM n xs ys) (isB zs zs.length))]) := by rw [tsV, h1, h2]; rfl
theorem ts_no {n : Int} {xs ys : List Int} {zs : List Nd} {b1 b2 : Bool} (h : isM n xs ys = b1) (h' : isB zs zs.length = b2) (hb : (b1 && b2) = false) : Ending.returned (.tuple #[.int .i64 0, .int .i64 1]) = .returned (.tuple #[.int .i64 (tsV n xs ys zs), .int .i64 (mdC (isM n xs ys) (isB zs zs.length))]) := by rw [tsV, h, h', mdC, hb]; rfl
theorem Mo.of {w : World} {n : Int} {xs ys : List Int} {a a' : Option Addr} (h : isM n xs ys = true) (h1 : At w a xs.length xs) (h2 : At w a' ys.length ys) : Mo w n a a' xs ys := by
  obtain ⟨-, e1, e2, e3, e4, e5⟩ := isM_ok h
  exact ⟨e1, e2, ⟨e3, e5⟩, e4, h1, h2⟩

end Go.Proofs.Ytecjmibnoldpgab

/- Contracts of the model's functions of chapter 7 over two models: what asks for the same variables, for the way back, for two models and a link. Conditions: those in the theorems. -/
namespace Go.Proofs.Ytecjmibnoldpgab
open Go.RowKit

theorem boxTw (w : World) (n0 : Int) (a0 : Option Addr) (l0 c0 : Nat) (b0 : Option Addr) (m0 d0 : Nat) (n1 : Int) (a1 : Option Addr) (l1 c1 : Nat) (b1 : Option Addr) (m1 d1 : Nat) : ∃ W : World, W = (w.alloc (.cells #[.int .i64 n0, .slice a0 l0 c0, .slice b0 m0 d0] 32)).alloc (.cells #[.int .i64 n1, .slice a1 l1 c1, .slice b1 m1 d1] 32) ∧
    Hid (Below w.heap.size w W) ∧ Hid (Bm W w.heap.size n0 a0 l0 c0 b0 m0 d0) ∧ Hid (Bm W (w.heap.size + 1) n1 a1 l1 c1 b1 m1 d1) ∧ W.heap.size = w.heap.size + 1 + 1 := by
  refine ⟨_, rfl, Lib.hid (((Below.refl w.heap.size w).alloc (Nat.le_refl _) _).alloc (by simp) _), Lib.hid ((Bm.new w n0 a0 l0 c0 b0 m0 d0 _).keep (alloc_keep _ _).1), ?_, by simp⟩
  have := Bm.new (w.alloc (.cells #[.int .i64 n0, .slice a0 l0 c0, .slice b0 m0 d0] 32)) n1 a1 l1 c1 b1 m1 d1 32
  exact Lib.hid (by simpa using this)

def atB (ys zs : List Int) (x y : Int) : Nat → Bool
  | 0 => true
  | v + 1 => atB ys zs x y v && (bitB (nth ys v) x == bitB (nth zs v) y)
theorem atB_false {ys zs : List Int} {x y : Int} {k l : Nat} (hk : k ≤ l) (h : atB ys zs x y k = false) : atB ys zs x y l = false := by
  induction l with
  | zero => simp at hk; subst hk; exact h
  | succ l ih =>
    by_cases e : k = l + 1
    · subst e; exact h
    · rw [atB, ih (by omega)]; rfl

set_option maxHeartbeats 2000000 in
theorem l07Atoms_any (n0 n1 : Int) (xs ys ps zs : List Int) (x y : Int) (a0 : Option Addr) (c0 : Nat) (b0 : Option Addr) (d0 : Nat) (a1 : Option Addr) (c1 : Nat) (b1 : Option Addr) (d1 : Nat) (w : World) (hx0 : 0 ≤ x) (hx1 : x ≤ 30) (hy0 : 0 ≤ y) (hy1 : y ≤ 30) (h0 : Mo w n0 a0 b0 xs ys) (h1 : Mo w n1 a1 b1 ps zs) :
    Calls Try.prog 97 #[.agg #[.int .i64 n0, .slice a0 xs.length c0, .slice b0 ys.length d0], .agg #[.int .i64 n1, .slice a1 ps.length c1, .slice b1 zs.length d1], .int .i64 x, .int .i64 y] w fun e w' => e = .returned (.bool (atB ys zs x y ys.length)) ∧ Below w.heap.size w w' := by
  obtain ⟨W, hW, HB, X0, X1, hWs⟩ := boxTw w n0 a0 xs.length c0 b0 ys.length d0 n1 a1 ps.length c1 b1 zs.length d1
  have M0 := Lib.hid (h0.keep HB.out)
  have M1 := Lib.hid (h1.keep HB.out)
  have HW := Lib.hid hW
  clear h0 h1 hW hWs
  go_enter Try.func97, Try.ntmps97
  go_wp2
  rw [← HW.out]
  go_loopw [9] (fun i wr => ∃ k q : Nat, k ≤ ys.length ∧ i = .int .i64 k ∧ atB ys zs x y k = true ∧ wr = W.drewN q) (fun i _ => ys.length - (intOf i).toNat)
  case atStart => exact ⟨0, 0, Nat.zero_le _, rfl, rfl, rfl⟩
  case round =>
    obtain ⟨k, q, hk, rfl, hm, rfl⟩ := hrel
    have HM := Lib.hid hm
    clear hm
    obtain ⟨-, -, -, y6, -, hy⟩ := M0.out
    obtain ⟨-, -, -, z6, -, hz⟩ := M1.out
    have hyl : ys.length ≤ 6 := by omega
    have Y6 := Lib.hid y6
    have Z6 := Lib.hid z6
    clear y6 z6
    obtain ⟨lt0, x0, x1, x2⟩ := X0.out
    obtain ⟨lt1, y0, y1, y2⟩ := X1.out
    by_cases hlt : k < ys.length
    · obtain ⟨b, off, rfl, hb, hc⟩ := hy.2.resolve_left (by omega)
      have hcell := hc k hlt
      have hlt2 : k < zs.length := by have := Y6.out; have := Z6.out; omega
      obtain ⟨b', off', rfl, hb', hc'⟩ := hz.2.resolve_left (by omega)
      have hcell2 := hc' k hlt2
      clear hc hc'
      cases hA : bitB (nth ys k) x
      all_goals
        cases hB : bitB (nth zs k) y
        all_goals
          have HA := Lib.hid hA
          have HC := Lib.hid hB
          go_wp2
          go_quiet ((first | (go_at_call_of 66 x; exact q_same (l01Bit_any _ x _ hx0 hx1) rfl) | (go_at_call_of 66 y; exact q_same (l01Bit_any _ y _ hy0 hy1) rfl)))
          go_wp2
          first
          | (go_ret
             exact ⟨ret_bool (atB_false (k := k + 1) hlt (by rw [atB, HM.out, HA.out, HC.out]; rfl)).symm, below_drewN (below_drewN HB.out _) _⟩)
          | (go_roundw
             case rel => exact ⟨k + 1, _, hlt, by go_num, by rw [atB, HM.out, HA.out, HC.out]; rfl, rfl⟩
             case measure => simp [intOf]; omega)
    · obtain rfl : k = ys.length := by omega
      go_wp2
      go_ret
      exact ⟨ret_bool HM.out.symm, below_drewN HB.out _⟩

set_option maxHeartbeats 400000 in
theorem l07Back_any (ls : List Int) (s o : Int) (a : Option Addr) (len cap : Nat) (w : World) (hl : len ≤ 30) (h : At w a len ls) :
    Calls Try.prog 99 #[.slice a len cap, .int .i64 s, .int .i64 o] w fun e w' => e = .returned (.bool (bits .andNot .i64 o (imgTo ls s len) == 0)) ∧ w = w' := by
  have H := Lib.hid h
  clear h
  go_enter Try.func99, Try.ntmps99
  go_wp2
  go_loop [7, 8] (fun m i => ∃ k : Nat, k ≤ len ∧ i = .int .i64 k ∧ m = .int .i64 (imgTo ls s k)) (fun _ i => len - (intOf i).toNat)
  case atStart => exact ⟨0, Nat.zero_le _, rfl, rfl⟩
  case round =>
    obtain ⟨k, hk, rfl, rfl⟩ := hrel
    by_cases hlt : k < len
    · obtain ⟨b, off, rfl, hb, hc⟩ := H.out.2.resolve_left (by omega)
      have hcell := hc k hlt
      clear hc
      cases hbit : bitB s k
      all_goals
        have HB := Lib.hid hbit
        go_wp2_with (go_at_call 66; refine (l01Bit_any _ _ _ (by omega) (by omega)).mono ?_; rintro e w' ⟨rfl, rfl⟩)
        go_round
        case rel => exact ⟨k + 1, hlt, by go_num, by simp only [imgTo, HB.out]; rfl⟩
        case measure => simp [intOf]; omega
    · obtain rfl : k = len := by omega
      go_wp2
      go_ret
      exact ⟨rfl, rfl⟩

def m2C (n0 : Int) (xs0 ys0 : List Int) (n1 : Int) (xs1 ys1 : List Int) : Int := if isM n0 xs0 ys0 && isM n1 xs1 ys1 then 0 else 1

set_option maxHeartbeats 2000000 in
theorem l07Two_any (n0 n1 : Int) (xs0 ys0 xs1 ys1 : List Int) (a0 : Option Addr) (l0 c0 : Nat) (b0 : Option Addr) (m0 d0 : Nat) (a1 : Option Addr) (l1 c1 : Nat) (b1 : Option Addr) (m1 d1 : Nat) (w : World) (hl0 : l0 ≤ 1048576) (hm0 : m0 ≤ 1048576) (hl1 : l1 ≤ 1048576) (hm1 : m1 ≤ 1048576) (h0 : At w a0 l0 xs0) (h0' : At w b0 m0 ys0) (h1 : At w a1 l1 xs1) (h1' : At w b1 m1 ys1) :
    Calls Try.prog 40 #[.agg #[.int .i64 n0, .slice a0 l0 c0, .slice b0 m0 d0], .agg #[.int .i64 n1, .slice a1 l1 c1, .slice b1 m1 d1]] w fun e w' => e = .returned (.int .i64 (m2C n0 xs0 ys0 n1 xs1 ys1)) ∧ Below w.heap.size w w' := by
  obtain ⟨W, hW, HB, X0, X1, hWs⟩ := boxTw w n0 a0 l0 c0 b0 m0 d0 n1 a1 l1 c1 b1 m1 d1
  have H0 := Lib.hid (h0.keep HB.out (Nat.le_refl _))
  have H0' := Lib.hid (h0'.keep HB.out (Nat.le_refl _))
  have H1 := Lib.hid (h1.keep HB.out (Nat.le_refl _))
  have H1' := Lib.hid (h1'.keep HB.out (Nat.le_refl _))
  have HW := Lib.hid hW
  clear h0 h0' h1 h1' hW hWs
  cases hf0 : isM n0 xs0 ys0
  · have F0 := Lib.hid hf0
    have C := Lib.hid (show m2C n0 xs0 ys0 n1 xs1 ys1 = 1 by rw [m2C, hf0]; rfl)
    clear hf0
    go_enter Try.func40, Try.ntmps40
    go_wp2_with fail
    rw [← HW.out]
    refine (l06Is_any n0 xs0 ys0 _ _ _ _ _ _ _ hl0 hm0 H0.out H0'.out).mono ?_
    rw [F0.out]
    rintro e w1 ⟨rfl, hb⟩
    have B1 := Lib.hid (HB.out.trans (hb.mono HB.out.size))
    clear hb
    go_wp2
    go_ret
    exact ⟨ret_int C.out.symm, B1.out⟩
  · cases hf1 : isM n1 xs1 ys1
    all_goals
      have F0 := Lib.hid hf0
      have F1 := Lib.hid hf1
      obtain ⟨c, hcc⟩ : ∃ c, c = m2C n0 xs0 ys0 n1 xs1 ys1 := ⟨_, rfl⟩
      have C := Lib.hid hcc
      have D := Lib.hid (show c = if isM n0 xs0 ys0 && isM n1 xs1 ys1 then 0 else 1 from hcc)
      clear hf0 hf1 hcc
      go_enter Try.func40, Try.ntmps40
      go_wp2_with fail
      rw [← HW.out]
      refine (l06Is_any n0 xs0 ys0 _ _ _ _ _ _ _ hl0 hm0 H0.out H0'.out).mono ?_
      rw [F0.out]
      rintro e w1 ⟨rfl, hb⟩
      have T1 := Lib.hid hb
      obtain ⟨lt, x0, x1, x2⟩ := X1.out.keep hb
      have Q1 := Lib.hid (H1.out.keep hb (Nat.le_refl _))
      have Q1' := Lib.hid (H1'.out.keep hb (Nat.le_refl _))
      clear hb
      go_wp2_with fail
      clear x0 x1 x2
      refine (l06Is_any n1 xs1 ys1 _ _ _ _ _ _ _ hl1 hm1 Q1.out Q1'.out).mono ?_
      rw [F1.out]
      rintro e w2 ⟨rfl, hb⟩
      have T2 := Lib.hid (T1.out.trans (hb.mono T1.out.size))
      clear hb
      go_wp2
      go_ret
      exact ⟨ret_int (by rw [← C.out, D.out, F0.out, F1.out]; rfl), HB.out.trans (T2.out.mono HB.out.size)⟩

end Go.Proofs.Ytecjmibnoldpgab

/- The contract of the model's l07Below: what is linked under a link by what is true and what is seen. Conditions: those in the theorems. -/
namespace Go.Proofs.Ytecjmibnoldpgab
open Go.RowKit

theorem bit_not {b : Bool} (h : b = false) : (!b) = true := by rw [h]; rfl

end Go.Proofs.Ytecjmibnoldpgab
