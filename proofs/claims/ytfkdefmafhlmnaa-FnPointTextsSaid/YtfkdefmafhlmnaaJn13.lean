/- 2 texts in one: PoI, Tvl. -/
import Derived.Deep.RegionWith
import Derived.RegionTactic
import Derived.BigRegion
import Derived.ChangeAlike
import Derived.Test.YtfkdefmafhlmnaaJn04
import Derived.Test.YtfkdefmafhlmnaaPoM
import Derived.Test.YtfkdefmafhlmnaaJn12
/- Contract of the program's IsPointFormula: it answers as the model does, at every list of point nodes of at most 2^20 nodes. -/
namespace Go.Proofs.Ytfkdefmafhlmnaa
open Go.RowKit

theorem isPoint_any (x : Int) (w : World) : Calls Try.prog 98 #[.int .i64 x] w fun e w' => e = .returned (.bool (inB x 0 9)) ∧ w = w' := by
  have E : wlB 10 x = inB x 0 9 := by unfold wlB inB; rw [Bool.eq_iff_iff]; simp; omega
  go_enter Try.func98, Try.ntmps98
  go_wp2_with (go_at_call 55; refine (isBelow_any _ _ _).mono ?_; rintro e w' ⟨rfl, rfl⟩)
  go_ret
  exact ⟨rfl, rfl⟩

set_option maxHeartbeats 1000000 in
theorem pointParts_any (k f s : Int) (w : World) : Calls Try.prog 62 #[.agg #[.int .i64 k, .int .i64 f, .int .i64 s]] w fun e w' => e = .returned (.int .i64 (prP k)) ∧ Below w.heap.size w w' := by
  by_cases h : k = 4 ∨ k = 5 ∨ k = 6 ∨ k = 7 ∨ k = 8
  · rcases h with rfl | rfl | rfl | rfl | rfl
    all_goals
      go_enter Try.func62, Try.ntmps62
      go_wp2
      go_ret
      exact ⟨rfl, (Below.refl _ _).alloc (Nat.le_refl _) _⟩
  · have e4 : (k == 4) = false := by simp; omega
    have e5 : (k == 5) = false := by simp; omega
    have e6 : (k == 6) = false := by simp; omega
    have e7 : (k == 7) = false := by simp; omega
    have e8 : (k == 8) = false := by simp; omega
    have HP : Hid (prP k = 0) := by show prP k = 0; unfold prP; rw [if_neg (by omega), if_neg (by omega)]
    clear h
    go_enter Try.func62, Try.ntmps62
    go_wp2
    go_ret
    exact ⟨ret_int HP.out.symm, (Below.refl _ _).alloc (Nat.le_refl _) _⟩

set_option maxHeartbeats 2000000 in
theorem isPointNode_any (k f s : Int) (w : World) : Calls Try.prog 61 #[.agg #[.int .i64 k, .int .i64 f, .int .i64 s]] w fun e w' => e = .returned (.bool (okP k f s)) ∧ Below w.heap.size w w' := by
  obtain ⟨A, hA⟩ : ∃ A, A = inB f 0 9 := ⟨_, rfl⟩
  obtain ⟨B, hB⟩ : ∃ B, B = inB s 0 9 := ⟨_, rfl⟩
  obtain ⟨C, hC⟩ : ∃ C, C = inB f 0 5 := ⟨_, rfl⟩
  obtain ⟨D, hD⟩ : ∃ D, D = (f == 0) := ⟨_, rfl⟩
  obtain ⟨E, hE⟩ : ∃ E, E = (s == 0) := ⟨_, rfl⟩
  have KA := Lib.hid (fun W => (isPoint_any f W))
  have KB := Lib.hid (fun W => (isPoint_any s W))
  have KC := Lib.hid (fun W => (isBelow_any f 6 W))
  have hw : wlB 6 f = inB f 0 5 := by unfold wlB inB; rw [Bool.eq_iff_iff]; simp; omega
  rw [← hA] at KA
  rw [← hB] at KB
  rw [hw, ← hC] at KC
  have hv : okP k f s = (inB k 0 8 && (if k = 0 ∨ k = 1 then A && B else if k = 2 then C && B else if k = 7 ∨ k = 8 then A && E else D && E)) := by unfold okP nmP; rw [hA, hB, hC, hD, hE]
  have HE := hE.symm
  have HD := hD.symm
  clear hA hB hC hw hD hE
  by_cases h : k = 0 ∨ k = 1 ∨ k = 2 ∨ k = 7 ∨ k = 8 ∨ k = 3 ∨ k = 4 ∨ k = 5 ∨ k = 6
  · rcases h with h | h | h | h | h | h | h | h | h
    · subst h; have HV := Lib.hid (hv.trans (show _ = (A && B) from rfl)); clear hv; cases A
      all_goals
        go_enter Try.func61, Try.ntmps61
        go_wp2_with (first | (go_at_call_of 98 f; refine (KA.out _).mono ?_; rintro e w' ⟨rfl, rfl⟩) | (go_at_call_of 98 s; refine (KB.out _).mono ?_; rintro e w' ⟨rfl, rfl⟩) | (go_at_call 55; refine (KC.out _).mono ?_; rintro e w' ⟨rfl, rfl⟩))
        go_ret
        first
        | exact ⟨ret_bool (by rw [HV.out] <;> rfl), (Below.refl _ _).alloc (Nat.le_refl _) _⟩
        | exact ⟨ret_bool (by rw [HV.out, ← HE] <;> rfl), (Below.refl _ _).alloc (Nat.le_refl _) _⟩
    · subst h; have HV := Lib.hid (hv.trans (show _ = (A && B) from rfl)); clear hv; cases A
      all_goals
        go_enter Try.func61, Try.ntmps61
        go_wp2_with (first | (go_at_call_of 98 f; refine (KA.out _).mono ?_; rintro e w' ⟨rfl, rfl⟩) | (go_at_call_of 98 s; refine (KB.out _).mono ?_; rintro e w' ⟨rfl, rfl⟩) | (go_at_call 55; refine (KC.out _).mono ?_; rintro e w' ⟨rfl, rfl⟩))
        go_ret
        first
        | exact ⟨ret_bool (by rw [HV.out] <;> rfl), (Below.refl _ _).alloc (Nat.le_refl _) _⟩
        | exact ⟨ret_bool (by rw [HV.out, ← HE] <;> rfl), (Below.refl _ _).alloc (Nat.le_refl _) _⟩
    · subst h; have HV := Lib.hid (hv.trans (show _ = (C && B) from rfl)); clear hv; cases C
      all_goals
        go_enter Try.func61, Try.ntmps61
        go_wp2_with (first | (go_at_call_of 98 f; refine (KA.out _).mono ?_; rintro e w' ⟨rfl, rfl⟩) | (go_at_call_of 98 s; refine (KB.out _).mono ?_; rintro e w' ⟨rfl, rfl⟩) | (go_at_call 55; refine (KC.out _).mono ?_; rintro e w' ⟨rfl, rfl⟩))
        go_ret
        first
        | exact ⟨ret_bool (by rw [HV.out] <;> rfl), (Below.refl _ _).alloc (Nat.le_refl _) _⟩
        | exact ⟨ret_bool (by rw [HV.out, ← HE] <;> rfl), (Below.refl _ _).alloc (Nat.le_refl _) _⟩
    · subst h; have HV := Lib.hid (hv.trans (show _ = (A && E) from rfl)); clear hv; cases A
      all_goals
        go_enter Try.func61, Try.ntmps61
        go_wp2_with (first | (go_at_call_of 98 f; refine (KA.out _).mono ?_; rintro e w' ⟨rfl, rfl⟩) | (go_at_call_of 98 s; refine (KB.out _).mono ?_; rintro e w' ⟨rfl, rfl⟩) | (go_at_call 55; refine (KC.out _).mono ?_; rintro e w' ⟨rfl, rfl⟩))
        go_ret
        first
        | exact ⟨ret_bool (by rw [HV.out] <;> rfl), (Below.refl _ _).alloc (Nat.le_refl _) _⟩
        | exact ⟨ret_bool (by rw [HV.out, ← HE] <;> rfl), (Below.refl _ _).alloc (Nat.le_refl _) _⟩
    · subst h; have HV := Lib.hid (hv.trans (show _ = (A && E) from rfl)); clear hv; cases A
      all_goals
        go_enter Try.func61, Try.ntmps61
        go_wp2_with (first | (go_at_call_of 98 f; refine (KA.out _).mono ?_; rintro e w' ⟨rfl, rfl⟩) | (go_at_call_of 98 s; refine (KB.out _).mono ?_; rintro e w' ⟨rfl, rfl⟩) | (go_at_call 55; refine (KC.out _).mono ?_; rintro e w' ⟨rfl, rfl⟩))
        go_ret
        first
        | exact ⟨ret_bool (by rw [HV.out] <;> rfl), (Below.refl _ _).alloc (Nat.le_refl _) _⟩
        | exact ⟨ret_bool (by rw [HV.out, ← HE] <;> rfl), (Below.refl _ _).alloc (Nat.le_refl _) _⟩
    · subst h; have HV := Lib.hid (hv.trans (show _ = (D && E) from rfl)); clear hv; cases D
      all_goals
        go_enter Try.func61, Try.ntmps61
        go_wp2_with (first | (go_at_call_of 98 f; refine (KA.out _).mono ?_; rintro e w' ⟨rfl, rfl⟩) | (go_at_call_of 98 s; refine (KB.out _).mono ?_; rintro e w' ⟨rfl, rfl⟩) | (go_at_call 55; refine (KC.out _).mono ?_; rintro e w' ⟨rfl, rfl⟩))
        go_ret
        first
        | exact ⟨ret_bool (by rw [HV.out] <;> rfl), (Below.refl _ _).alloc (Nat.le_refl _) _⟩
        | exact ⟨ret_bool (by rw [HV.out, ← HE] <;> rfl), (Below.refl _ _).alloc (Nat.le_refl _) _⟩
    · subst h; have HV := Lib.hid (hv.trans (show _ = (D && E) from rfl)); clear hv; cases D
      all_goals
        go_enter Try.func61, Try.ntmps61
        go_wp2_with (first | (go_at_call_of 98 f; refine (KA.out _).mono ?_; rintro e w' ⟨rfl, rfl⟩) | (go_at_call_of 98 s; refine (KB.out _).mono ?_; rintro e w' ⟨rfl, rfl⟩) | (go_at_call 55; refine (KC.out _).mono ?_; rintro e w' ⟨rfl, rfl⟩))
        go_ret
        first
        | exact ⟨ret_bool (by rw [HV.out] <;> rfl), (Below.refl _ _).alloc (Nat.le_refl _) _⟩
        | exact ⟨ret_bool (by rw [HV.out, ← HE] <;> rfl), (Below.refl _ _).alloc (Nat.le_refl _) _⟩
    · subst h; have HV := Lib.hid (hv.trans (show _ = (D && E) from rfl)); clear hv; cases D
      all_goals
        go_enter Try.func61, Try.ntmps61
        go_wp2_with (first | (go_at_call_of 98 f; refine (KA.out _).mono ?_; rintro e w' ⟨rfl, rfl⟩) | (go_at_call_of 98 s; refine (KB.out _).mono ?_; rintro e w' ⟨rfl, rfl⟩) | (go_at_call 55; refine (KC.out _).mono ?_; rintro e w' ⟨rfl, rfl⟩))
        go_ret
        first
        | exact ⟨ret_bool (by rw [HV.out] <;> rfl), (Below.refl _ _).alloc (Nat.le_refl _) _⟩
        | exact ⟨ret_bool (by rw [HV.out, ← HE] <;> rfl), (Below.refl _ _).alloc (Nat.le_refl _) _⟩
    · subst h; have HV := Lib.hid (hv.trans (show _ = (D && E) from rfl)); clear hv; cases D
      all_goals
        go_enter Try.func61, Try.ntmps61
        go_wp2_with (first | (go_at_call_of 98 f; refine (KA.out _).mono ?_; rintro e w' ⟨rfl, rfl⟩) | (go_at_call_of 98 s; refine (KB.out _).mono ?_; rintro e w' ⟨rfl, rfl⟩) | (go_at_call 55; refine (KC.out _).mono ?_; rintro e w' ⟨rfl, rfl⟩))
        go_ret
        first
        | exact ⟨ret_bool (by rw [HV.out] <;> rfl), (Below.refl _ _).alloc (Nat.le_refl _) _⟩
        | exact ⟨ret_bool (by rw [HV.out, ← HE] <;> rfl), (Below.refl _ _).alloc (Nat.le_refl _) _⟩
  · have e0 : (k == 0) = false := by simp; omega
    have e1 : (k == 1) = false := by simp; omega
    have e2 : (k == 2) = false := by simp; omega
    have e3 : (k == 3) = false := by simp; omega
    have e4 : (k == 4) = false := by simp; omega
    have e5 : (k == 5) = false := by simp; omega
    have e6 : (k == 6) = false := by simp; omega
    have e7 : (k == 7) = false := by simp; omega
    have e8 : (k == 8) = false := by simp; omega
    have HV := Lib.hid (show okP k f s = false by rw [okP, show inB k 0 8 = false by simp [inB]; omega]; rfl)
    clear hv h
    go_enter Try.func61, Try.ntmps61
    go_wp2
    go_ret
    exact ⟨ret_bool HV.out.symm, (Below.refl _ _).alloc (Nat.le_refl _) _⟩

set_option maxHeartbeats 1000000 in
theorem isTreeP_any (xs : List Pd) (a : Option Addr) (len cap : Nat) (w : World) (hl : len ≤ 1048576) (h : AtP w a len xs) :
    Calls Try.prog 60 #[.slice a len cap, .func (.func 61) #[] #[], .func (.func 62) #[] #[]] w fun e w' => e = .returned (.bool (treeP xs len)) ∧ Below w.heap.size w w' := by
  have H := Lib.hid h
  clear h
  go_enter Try.func60, Try.ntmps60
  go_wp2
  go_loopw [7, 12] (fun m i wr => ∃ k p : Nat, k ≤ len ∧ p ≤ 1 + k ∧ i = .int .i64 k ∧ m = .int .i64 p ∧ msP xs k = p ∧ runP xs k = true ∧ Below w.heap.size w wr) (fun _ i _ => len - (intOf i).toNat)
  case atStart => exact ⟨0, 1, Nat.zero_le _, by omega, rfl, rfl, rfl, rfl, Below.refl _ _⟩
  case round =>
    obtain ⟨k, p, hk, hp, rfl, rfl, hms, hrun, hbel⟩ := hrel
    have HM := Lib.hid hms
    have HR := Lib.hid hrun
    clear hms hrun
    by_cases hlt : k < len
    · obtain ⟨b, off, rfl, hb, hc⟩ := H.out.2.resolve_left (by omega)
      have hc1 : wr.cell? ⟨b, off + k * 3, none⟩ = some (.int .i64 (kp xs k)) := (hbel.cell (p := ⟨b, off + k * 3, none⟩) hb).trans (hc k hlt).1
      have hc2 : wr.cell? ⟨b, off + k * 3 + 1, none⟩ = some (.int .i64 (fp xs k)) := (hbel.cell (p := ⟨b, off + k * 3 + 1, none⟩) hb).trans (hc k hlt).2.1
      have hc3 : wr.cell? ⟨b, off + k * 3 + 2, none⟩ = some (.int .i64 (tp xs k)) := (hbel.cell (p := ⟨b, off + k * 3 + 2, none⟩) hb).trans (hc k hlt).2.2
      clear hc
      have hb2 := prP_bd (kp xs k)
      obtain ⟨q, hq⟩ := Int.eq_ofNat_of_zero_le hb2.1
      have hq2 : q ≤ 2 := by omega
      have HQ := Lib.hid hq
      clear hb2 hq
      by_cases hz : p = 0
      · subst hz
        have HF := Lib.hid (treeP_stop hlt HR.out HM.out)
        go_wp2
        go_ret
        exact ⟨ret_bool HF.out.symm, hbel.alloc hbel.size _⟩
      · have hz' : ((p : Int) == 0) = false := by simp; omega
        cases hok : okP (kp xs k) (fp xs k) (tp xs k)
        · have HF := Lib.hid (treeP_bad hlt hok)
          go_wp2_with (go_at_call 61; refine (isPointNode_any _ _ _ _).mono ?_; rw [hok]; rintro e w1 ⟨rfl, hb1⟩)
          go_ret
          exact ⟨ret_bool HF.out.symm, (hbel.alloc hbel.size _).trans (hb1.mono (by have := hbel.size; simp; omega))⟩
        · have HS := Lib.hid (runP_step HR.out (by rw [HM.out]; omega) hok)
          have hms2 : msP xs (k + 1) = ((p - 1 + q : Nat) : Int) := by rw [msP, HM.out, HQ.out]; omega
          have HM2 := Lib.hid hms2
          clear hms2
          go_wp2_with fail
          refine (isPointNode_any _ _ _ _).mono ?_
          rw [hok]
          rintro e w1 ⟨rfl, hb1⟩
          have hsz := hb1.size
          have hg1 : w1.cell? ⟨wr.heap.size, 0, none⟩ = some (.int .i64 (kp xs k)) := (hb1.cell (p := ⟨wr.heap.size, 0, none⟩) (by simp)).trans (World.cell?_alloc_at _ _ _ _ rfl)
          have hg2 : w1.cell? ⟨wr.heap.size, 1, none⟩ = some (.int .i64 (fp xs k)) := (hb1.cell (p := ⟨wr.heap.size, 1, none⟩) (by simp)).trans (World.cell?_alloc_at _ _ _ _ rfl)
          have hg3 : w1.cell? ⟨wr.heap.size, 2, none⟩ = some (.int .i64 (tp xs k)) := (hb1.cell (p := ⟨wr.heap.size, 2, none⟩) (by simp)).trans (World.cell?_alloc_at _ _ _ _ rfl)
          have hbel1 := (hbel.alloc hbel.size (.cells #[.int .i64 (kp xs k), .int .i64 (fp xs k), .int .i64 (tp xs k)] 61)).trans (hb1.mono (by have := hbel.size; simp; omega))
          have HB1 := Lib.hid hbel1
          clear hbel1 hb1 hsz
          go_wp2_with fail
          refine (pointParts_any _ _ _ _).mono ?_
          rw [HQ.out]
          rintro e w2 ⟨rfl, hb2⟩
          have HB2 := Lib.hid (HB1.out.trans (hb2.mono HB1.out.size))
          clear hb2
          go_wp2
          go_roundw
          case rel => exact ⟨k + 1, p - 1 + q, hlt, by omega, by go_num, by congr 1; omega, HM2.out, HS.out, HB2.out⟩
          case measure => simp [intOf]; omega
    · obtain rfl : k = len := by omega
      have HE := Lib.hid (treeP_end HR.out)
      go_wp2
      go_ret
      exact ⟨ret_bool (by rw [HE.out, HM.out]), hbel⟩

set_option maxHeartbeats 1000000 in
theorem implIsP_any (xs : List Pd) (a : Option Addr) (len cap : Nat) (w : World) (hl : len ≤ 1048576) (h : AtP w a len xs) :
    Calls Try.prog 35 #[.slice a len cap] w fun e w' => e = .returned (.bool (isP xs len)) ∧ Below w.heap.size w w' := by
  have H := Lib.hid h
  clear h
  by_cases hbig : 120 < len
  · go_enter Try.func35, Try.ntmps35
    go_wp2
    go_ret
    exact ⟨ret_bool (isP_big hbig).symm, Below.refl _ _⟩
  · have hs : len ≤ 120 := by omega
    have S := Lib.hid (isP_small (xs := xs) hs)
    go_enter Try.func35, Try.ntmps35
    go_wp2_with (go_at_call 60; refine (isTreeP_any xs _ _ _ _ hl H.out).mono ?_; rintro e w' ⟨rfl, hb⟩)
    go_ret
    exact ⟨ret_bool S.out.symm, hb⟩

end Go.Proofs.Ytfkdefmafhlmnaa

/- Point formulas as the program's trees: values of an interface type, and what an assertion tells of them. Conditions: those in the theorems. -/
namespace Go.Proofs.Ytfkdefmafhlmnaa
open Go.RowKit

/-- A point formula as the program holds it. -/
def tv : Pt → Value
  | .le k f s => if k = 0 then .iface 125 (.agg #[.int .i64 f, .int .i64 s]) else if k = 1 then .iface 128 (.agg #[.int .i64 f, .int .i64 s]) else if k = 2 then .iface 130 (.agg #[.int .i64 f, .int .i64 s]) else .iface 148 (.agg #[])
  | .bi k a b => .iface 132 (.agg #[.int .i64 k, tv a, tv b])
  | .un k x a => .iface 135 (.agg #[.int .i64 k, .int .i64 x, tv a])
theorem tv_iface (f : Pt) : ∃ t u, tv f = .iface t u := by
  cases f with
  | le k f s => unfold tv; split
                · exact ⟨_, _, rfl⟩
                · split
                  · exact ⟨_, _, rfl⟩
                  · split <;> exact ⟨_, _, rfl⟩
  | bi k a b => exact ⟨_, _, rfl⟩
  | un k x a => exact ⟨_, _, rfl⟩

theorem asS_yes (W : World) (v : Value) : (Instr.typeAssert (.iface 125 v) 91 125 true).run Try.prog W = .ok (.tuple #[v, .bool true]) W := by kernel_rfl
theorem asE_yes (W : World) (v : Value) : (Instr.typeAssert (.iface 128 v) 91 128 true).run Try.prog W = .ok (.tuple #[v, .bool true]) W := by kernel_rfl
theorem asV_yes (W : World) (v : Value) : (Instr.typeAssert (.iface 130 v) 91 130 true).run Try.prog W = .ok (.tuple #[v, .bool true]) W := by kernel_rfl
theorem asF_yes (W : World) (v : Value) : (Instr.typeAssert (.iface 148 v) 91 148 true).run Try.prog W = .ok (.tuple #[v, .bool true]) W := by kernel_rfl
theorem asL_yes (W : World) (v : Value) : (Instr.typeAssert (.iface 132 v) 91 132 true).run Try.prog W = .ok (.tuple #[v, .bool true]) W := by kernel_rfl
theorem asQ_yes (W : World) (v : Value) : (Instr.typeAssert (.iface 135 v) 91 135 true).run Try.prog W = .ok (.tuple #[v, .bool true]) W := by kernel_rfl

theorem asS_no (W : World) (u : TypeId) (v : Value) (h : u ≠ 125) : (Instr.typeAssert (.iface u v) 91 125 true).run Try.prog W = .ok (.tuple #[.agg #[.int .i64 0, .int .i64 0], .bool false]) W := by
  have e : (Instr.typeAssert (.iface u v) 91 125 true).run Try.prog W = (if u = 125 then (pure (Value.tuple #[v, .bool true]) : Sem Value) else (do pure (Value.tuple #[← zeroValue 125, .bool false]))).run Try.prog W := by kernel_rfl
  have z : (do pure (Value.tuple #[← zeroValue 125, .bool false]) : Sem Value).run Try.prog W = .ok (.tuple #[.agg #[.int .i64 0, .int .i64 0], .bool false]) W := by kernel_rfl
  rw [e, if_neg h]
  exact z
theorem asE_no (W : World) (u : TypeId) (v : Value) (h : u ≠ 128) : (Instr.typeAssert (.iface u v) 91 128 true).run Try.prog W = .ok (.tuple #[.agg #[.int .i64 0, .int .i64 0], .bool false]) W := by
  have e : (Instr.typeAssert (.iface u v) 91 128 true).run Try.prog W = (if u = 128 then (pure (Value.tuple #[v, .bool true]) : Sem Value) else (do pure (Value.tuple #[← zeroValue 128, .bool false]))).run Try.prog W := by kernel_rfl
  have z : (do pure (Value.tuple #[← zeroValue 128, .bool false]) : Sem Value).run Try.prog W = .ok (.tuple #[.agg #[.int .i64 0, .int .i64 0], .bool false]) W := by kernel_rfl
  rw [e, if_neg h]
  exact z
theorem asV_no (W : World) (u : TypeId) (v : Value) (h : u ≠ 130) : (Instr.typeAssert (.iface u v) 91 130 true).run Try.prog W = .ok (.tuple #[.agg #[.int .i64 0, .int .i64 0], .bool false]) W := by
  have e : (Instr.typeAssert (.iface u v) 91 130 true).run Try.prog W = (if u = 130 then (pure (Value.tuple #[v, .bool true]) : Sem Value) else (do pure (Value.tuple #[← zeroValue 130, .bool false]))).run Try.prog W := by kernel_rfl
  have z : (do pure (Value.tuple #[← zeroValue 130, .bool false]) : Sem Value).run Try.prog W = .ok (.tuple #[.agg #[.int .i64 0, .int .i64 0], .bool false]) W := by kernel_rfl
  rw [e, if_neg h]
  exact z
theorem asF_no (W : World) (u : TypeId) (v : Value) (h : u ≠ 148) : (Instr.typeAssert (.iface u v) 91 148 true).run Try.prog W = .ok (.tuple #[.agg #[], .bool false]) W := by
  have e : (Instr.typeAssert (.iface u v) 91 148 true).run Try.prog W = (if u = 148 then (pure (Value.tuple #[v, .bool true]) : Sem Value) else (do pure (Value.tuple #[← zeroValue 148, .bool false]))).run Try.prog W := by kernel_rfl
  have z : (do pure (Value.tuple #[← zeroValue 148, .bool false]) : Sem Value).run Try.prog W = .ok (.tuple #[.agg #[], .bool false]) W := by kernel_rfl
  rw [e, if_neg h]
  exact z
theorem asL_no (W : World) (u : TypeId) (v : Value) (h : u ≠ 132) : (Instr.typeAssert (.iface u v) 91 132 true).run Try.prog W = .ok (.tuple #[.agg #[.int .i64 0, .nilIface, .nilIface], .bool false]) W := by
  have e : (Instr.typeAssert (.iface u v) 91 132 true).run Try.prog W = (if u = 132 then (pure (Value.tuple #[v, .bool true]) : Sem Value) else (do pure (Value.tuple #[← zeroValue 132, .bool false]))).run Try.prog W := by kernel_rfl
  have z : (do pure (Value.tuple #[← zeroValue 132, .bool false]) : Sem Value).run Try.prog W = .ok (.tuple #[.agg #[.int .i64 0, .nilIface, .nilIface], .bool false]) W := by kernel_rfl
  rw [e, if_neg h]
  exact z
theorem asQ_no (W : World) (u : TypeId) (v : Value) (h : u ≠ 135) : (Instr.typeAssert (.iface u v) 91 135 true).run Try.prog W = .ok (.tuple #[.agg #[.int .i64 0, .int .i64 0, .nilIface], .bool false]) W := by
  have e : (Instr.typeAssert (.iface u v) 91 135 true).run Try.prog W = (if u = 135 then (pure (Value.tuple #[v, .bool true]) : Sem Value) else (do pure (Value.tuple #[← zeroValue 135, .bool false]))).run Try.prog W := by kernel_rfl
  have z : (do pure (Value.tuple #[← zeroValue 135, .bool false]) : Sem Value).run Try.prog W = .ok (.tuple #[.agg #[.int .i64 0, .int .i64 0, .nilIface], .bool false]) W := by kernel_rfl
  rw [e, if_neg h]
  exact z

theorem AtP.at {w : World} {b off len : Nat} {xs : List Pd} (h : AtP w (some ⟨b, off, none⟩) len xs) {i : Nat} {x : Pd} {r : List Pd} (hd : xs.drop i = x :: r) : i < len ∧ b < w.heap.size ∧ w.cell? ⟨b, off + i * 3, none⟩ = some (.int .i64 x.1) ∧ w.cell? ⟨b, off + i * 3 + 1, none⟩ = some (.int .i64 x.2.1) ∧ w.cell? ⟨b, off + i * 3 + 2, none⟩ = some (.int .i64 x.2.2) := by
  have hl := h.1
  have hi := dropP_lt hd
  obtain ⟨b', off', ha, hb, hc⟩ := h.2.resolve_left (by omega)
  cases ha
  obtain ⟨c1, c2, c3⟩ := hc i (by omega)
  rw [kp_at hd] at c1
  rw [fp_at hd] at c2
  rw [tp_at hd] at c3
  exact ⟨by omega, hb, c1, c2, c3⟩

/-- The program's tree of the part at an index. -/
def TreeC (f : Pt) : Prop := ∀ (xs : List Pd) (b off len cap i : Nat) (r : List Pd) (w : World), len ≤ 1048576 → AtP w (some ⟨b, off, none⟩) len xs → xs.drop i = f.enc ++ r →
    Calls Try.prog 101 #[.slice (some ⟨b, off, none⟩) len cap, .int .i64 i] w fun e w' => e = .returned (.tuple #[tv f, .int .i64 (i + f.sz : Nat)]) ∧ Below w.heap.size w w'

set_option maxHeartbeats 2000000 in
theorem tree_le (k f s : Int) (hf : (Pt.le k f s).ok) : TreeC (.le k f s) := by
  intro xs b off len cap i r w hl h hd
  obtain ⟨hi, hb, c1, c2, c3⟩ := h.at (x := (k, f, s)) (r := r) hd
  simp only at c1 c2 c3
  have hk : k = 0 ∨ k = 1 ∨ k = 2 ∨ k = 3 := by rcases hf with ⟨h | h, -⟩ | ⟨h, -⟩ | ⟨h, -⟩ <;> omega
  clear h hd hf
  rcases hk with rfl | rfl | rfl | rfl
  all_goals
    go_enter Try.func101, Try.ntmps101
    go_wp2
    go_ret2
    exact ⟨rfl, (Below.refl _ _).alloc (Nat.le_refl _) _⟩

set_option maxHeartbeats 2000000 in
theorem tree_un (k x : Int) (a : Pt) (hf : (Pt.un k x a).ok) (ih : TreeC a) : TreeC (.un k x a) := by
  intro xs b off len cap i r w hl h hd
  obtain ⟨hi, hb, c1, c2, c3⟩ := h.at (x := (k, x, 0)) (r := a.enc ++ r) hd
  simp only at c1 c2 c3
  have hd1 : xs.drop (i + 1) = a.enc ++ r := dropP_next (x := (k, x, 0)) hd
  obtain ⟨W, hW⟩ : ∃ W, W = w.alloc (.cells #[.int .i64 k, .int .i64 x, .int .i64 0] 61) := ⟨_, rfl⟩
  have hWb : Below w.heap.size w W := by rw [hW]; exact (Below.refl _ _).alloc (Nat.le_refl _) _
  have x0 : W.cell? ⟨w.heap.size, 0, none⟩ = some (.int .i64 k) := by rw [hW]; exact World.cell?_alloc_new _ _ _ 0
  have x1 : W.cell? ⟨w.heap.size, 1, none⟩ = some (.int .i64 x) := by rw [hW]; exact World.cell?_alloc_new _ _ _ 1
  have x2 : W.cell? ⟨w.heap.size, 2, none⟩ = some (.int .i64 0) := by rw [hW]; exact World.cell?_alloc_new _ _ _ 2
  have hWs : w.heap.size < W.heap.size := by rw [hW]; simp
  have IH := Lib.hid (ih xs b off len cap (i + 1) r W hl (h.keep hWb (Nat.le_refl _)) hd1)
  have hk := hf.1
  have CB := Lib.hid (fun (w1 : World) (hb1 : Below W.heap.size W w1) => (show w1.cell? ⟨w.heap.size, 0, none⟩ = some (.int .i64 k) ∧ w1.cell? ⟨w.heap.size, 1, none⟩ = some (.int .i64 x) ∧ w1.cell? ⟨w.heap.size, 2, none⟩ = some (.int .i64 0) from ⟨(hb1.cell (p := ⟨w.heap.size, 0, none⟩) hWs).trans x0, (hb1.cell (p := ⟨w.heap.size, 1, none⟩) hWs).trans x1, (hb1.cell (p := ⟨w.heap.size, 2, none⟩) hWs).trans x2⟩))
  have HB := Lib.hid hWb
  have HW := Lib.hid hW
  obtain ⟨n, hn⟩ : ∃ n, n = i + 1 + a.sz := ⟨_, rfl⟩
  have HN := Lib.hid (show (i + (Pt.un k x a).sz : Nat) = n by rw [hn]; simp only [Pt.sz]; omega)
  rw [← hn] at IH
  have hn2 : n ≤ 1048576 := by
    have h1 := congrArg List.length hd1
    have h2 := h.1
    rw [List.length_drop, List.length_append, Pt.enc_len] at h1
    omega
  clear h hd hd1 hf hWb x0 x1 x2 hWs ih hW hn
  rw [show ((i + 1 : Nat) : Int) = (i : Int) + 1 by omega] at IH
  obtain ⟨t, u, hv⟩ := tv_iface a
  rw [hv] at IH
  have HV := Lib.hid (show tv (Pt.un k x a) = .iface 135 (.agg #[.int .i64 k, .int .i64 x, .iface t u]) by rw [← hv]; rfl)
  clear hv
  rcases hk with rfl | rfl
  all_goals
    go_enter Try.func101, Try.ntmps101
    go_wp2_with fail
    rw [← HW.out]
    refine IH.out.mono ?_
    rintro e w1 ⟨rfl, hb1⟩
    obtain ⟨y0, y1, y2⟩ := CB.out _ hb1
    have hs1 := hb1.size
    have B1 := Lib.hid (HB.out.trans (hb1.mono HB.out.size))
    clear hb1
    go_wp2_with fail
    refine (pointParts_any _ _ _ _).mono ?_
    rintro e w2 ⟨rfl, hb2⟩
    have hlt : w.heap.size < w1.heap.size := Nat.lt_of_lt_of_le (show w.heap.size < W.heap.size by rw [HW.out]; simp) hs1
    have z0 := (hb2.cell (p := ⟨w.heap.size, 0, none⟩) hlt).trans y0
    have z1 := (hb2.cell (p := ⟨w.heap.size, 1, none⟩) hlt).trans y1
    have B2 := Lib.hid (B1.out.trans (hb2.mono B1.out.size))
    clear hb2 y0 y1 y2 hlt hs1
    go_wp2
    go_ret2
    exact ⟨by rw [HN.out, HV.out] <;> rfl, B2.out⟩

set_option maxHeartbeats 2000000 in
theorem tree_bi (k : Int) (a d : Pt) (hf : (Pt.bi k a d).ok) (ih : TreeC a) (jh : TreeC d) : TreeC (.bi k a d) := by
  intro xs b off len cap i r w hl h hd
  obtain ⟨hi, hb, c1, c2, c3⟩ := h.at (x := (k, 0, 0)) (r := a.enc ++ (d.enc ++ r)) (by rw [hd]; simp [Pt.enc])
  simp only at c1 c2 c3
  have hd1 : xs.drop (i + 1) = a.enc ++ (d.enc ++ r) := dropP_next (x := (k, 0, 0)) (by rw [hd]; simp [Pt.enc])
  have hd2 : xs.drop (i + 1 + a.sz) = d.enc ++ r := by have := dropP_add hd1; rwa [Pt.enc_len] at this
  obtain ⟨W, hW⟩ : ∃ W, W = w.alloc (.cells #[.int .i64 k, .int .i64 0, .int .i64 0] 61) := ⟨_, rfl⟩
  have hWb : Below w.heap.size w W := by rw [hW]; exact (Below.refl _ _).alloc (Nat.le_refl _) _
  have x0 : W.cell? ⟨w.heap.size, 0, none⟩ = some (.int .i64 k) := by rw [hW]; exact World.cell?_alloc_new _ _ _ 0
  have x1 : W.cell? ⟨w.heap.size, 1, none⟩ = some (.int .i64 0) := by rw [hW]; exact World.cell?_alloc_new _ _ _ 1
  have x2 : W.cell? ⟨w.heap.size, 2, none⟩ = some (.int .i64 0) := by rw [hW]; exact World.cell?_alloc_new _ _ _ 2
  have hWs : w.heap.size < W.heap.size := by rw [hW]; simp
  have IH := Lib.hid (ih xs b off len cap (i + 1) _ W hl (h.keep hWb (Nat.le_refl _)) hd1)
  have JH := Lib.hid (fun (w1 : World) (hb1 : Below W.heap.size W w1) => jh xs b off len cap (i + 1 + a.sz) r w1 hl ((h.keep hWb (Nat.le_refl _)).keep hb1 (Nat.le_refl _)) hd2)
  have hk := hf.1
  have CB := Lib.hid (fun (w1 : World) (hb1 : Below W.heap.size W w1) => (show w1.cell? ⟨w.heap.size, 0, none⟩ = some (.int .i64 k) ∧ w1.cell? ⟨w.heap.size, 1, none⟩ = some (.int .i64 0) ∧ w1.cell? ⟨w.heap.size, 2, none⟩ = some (.int .i64 0) from ⟨(hb1.cell (p := ⟨w.heap.size, 0, none⟩) hWs).trans x0, (hb1.cell (p := ⟨w.heap.size, 1, none⟩) hWs).trans x1, (hb1.cell (p := ⟨w.heap.size, 2, none⟩) hWs).trans x2⟩))
  have HB := Lib.hid hWb
  have HW := Lib.hid hW
  obtain ⟨n, hn⟩ : ∃ n, n = i + 1 + a.sz := ⟨_, rfl⟩
  obtain ⟨m, hm⟩ : ∃ m, m = n + d.sz := ⟨_, rfl⟩
  have HN := Lib.hid (show (i + (Pt.bi k a d).sz : Nat) = m by rw [hm, hn]; simp only [Pt.sz]; omega)
  rw [← hn] at IH JH
  rw [← hm] at JH
  have hn2 : n ≤ 1048576 := by
    have h1 := congrArg List.length hd1
    have h2 := h.1
    rw [List.length_drop, List.length_append, List.length_append, Pt.enc_len, Pt.enc_len] at h1
    omega
  clear h hd hd1 hd2 hf hWb x0 x1 x2 hWs ih jh hW hn hm
  rw [show ((i + 1 : Nat) : Int) = (i : Int) + 1 by omega] at IH
  obtain ⟨t, u, hv⟩ := tv_iface a
  obtain ⟨t', u', hv'⟩ := tv_iface d
  rw [hv] at IH
  rw [hv'] at JH
  have HV := Lib.hid (show tv (Pt.bi k a d) = .iface 132 (.agg #[.int .i64 k, .iface t u, .iface t' u']) by rw [← hv, ← hv']; rfl)
  clear hv hv'
  rcases hk with rfl | rfl | rfl
  all_goals
    go_enter Try.func101, Try.ntmps101
    go_wp2_with fail
    rw [← HW.out]
    refine IH.out.mono ?_
    rintro e w1 ⟨rfl, hb1⟩
    have T1 := Lib.hid hb1
    obtain ⟨y0, y1, y2⟩ := CB.out _ hb1
    have hs1 := hb1.size
    have B1 := Lib.hid (HB.out.trans (hb1.mono HB.out.size))
    clear hb1
    go_wp2_with fail
    refine (pointParts_any _ _ _ _).mono ?_
    rintro e w2 ⟨rfl, hb2⟩
    have hlt : w.heap.size < w1.heap.size := Nat.lt_of_lt_of_le (show w.heap.size < W.heap.size by rw [HW.out]; simp) hs1
    have z0 := (hb2.cell (p := ⟨w.heap.size, 0, none⟩) hlt).trans y0
    have T2 := Lib.hid (T1.out.trans (hb2.mono T1.out.size))
    have B2 := Lib.hid (B1.out.trans (hb2.mono B1.out.size))
    clear hb2 y0 y1 y2 hlt hs1
    go_wp2_with fail
    refine (JH.out _ T2.out).mono ?_
    rintro e w3 ⟨rfl, hb3⟩
    have B3 := Lib.hid (B2.out.trans (hb3.mono B2.out.size))
    obtain ⟨q0, q1, q2⟩ := CB.out _ (T2.out.trans (hb3.mono T2.out.size))
    clear hb3 z0
    go_wp2
    go_ret2
    exact ⟨by rw [HN.out, HV.out] <;> rfl, B3.out⟩

theorem tree_all (f : Pt) (hf : f.ok) : TreeC f := by
  induction f with
  | le k x y => exact tree_le k x y hf
  | un k x a ih => exact tree_un k x a hf (ih hf.2.2)
  | bi k a b iha ihb => exact tree_bi k a b hf (iha hf.2.1) (ihb hf.2.2)

theorem treeOf_any (f : Pt) (hf : f.ok) (b off len cap : Nat) (w : World) (hl : len ≤ 1048576) (h : AtP w (some ⟨b, off, none⟩) len f.enc) :
    Calls Try.prog 64 #[.slice (some ⟨b, off, none⟩) len cap] w fun e w' => e = .returned (tv f) ∧ Below w.heap.size w w' := by
  have T := Lib.hid (tree_all f hf f.enc b off len cap 0 [] w hl h (by simp))
  clear h
  go_enter Try.func64, Try.ntmps64
  go_wp2_with fail
  refine T.out.mono ?_
  rintro e w1 ⟨rfl, hb1⟩
  go_wp2
  go_ret
  exact ⟨rfl, hb1⟩

end Go.Proofs.Ytfkdefmafhlmnaa
