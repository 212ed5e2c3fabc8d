/- The contract of the model's l05Depth. Conditions: those in the theorem. -/
import Derived.Test.YtkpbcpkapjnchaaCkM
import Derived.Test.YtkpbcpkapjnchaaFf
namespace Go.Proofs.Ytkpbcpkapjnchaa
open Go.RowKit

theorem ck_upB {xs : List Int} (hn : xs.length ≤ 30) (hr : Rel xs.length (nth xs)) {w v : Nat} (hw : w < xs.length) (hv : v < xs.length) : up xs w v = (!(nth (ckL xs) v == nth (ckL xs) w) && bitB (rchV xs (one w)) v) := by
  obtain ⟨c1, -⟩ := rc_T hn hr
  rw [ck_up hn hr hw hv, rchV_one hn hr hw, bitB_T ((c1 w).bd hn)]

set_option maxHeartbeats 4000000 in
set_option maxRecDepth 100000 in
theorem l05Depth_any (xs : List Int) (a c : Option Addr) (cap capc : Nat) (h8 : xs.length ≤ 8) (hr : Rel xs.length (nth xs)) : ∀ (r u : Nat), u < xs.length → rk xs u < r → ∀ (w : World), At w a xs.length xs → At w c xs.length (ckL xs) →
    Calls Try.prog 104 #[.agg #[.int .i64 xs.length, .slice a xs.length cap], .slice c xs.length capc, .int .i64 u] w fun e w' => e = .returned (.int .i64 (dp xs u)) ∧ Below w.heap.size w w' := by
  have h30 : xs.length ≤ 30 := by omega
  have HR := Lib.hid hr
  clear hr
  intro r
  induction r with
  | zero => intro u _ h; omega
  | succ r ih =>
    intro u hu hr w h hc
    have HB := Lib.hid (boxF (w := w) xs.length a xs.length cap)
    have X := Lib.hid (Bx.new w xs.length a xs.length cap 27)
    obtain ⟨W, hW⟩ : ∃ W, W = w.alloc (.cells #[.int .i64 xs.length, .slice a xs.length cap] 27) := ⟨_, rfl⟩
    rw [← hW] at HB X
    have hz : w.heap.size < W.heap.size := X.out.1
    have IH := Lib.hid ih
    have DE := Lib.hid (dp_eq h30 HR.out hu)
    have RK := Lib.hid hr
    have H := Lib.hid (h.keep HB.out (Nat.le_refl _))
    have HC := Lib.hid (hc.keep HB.out (Nat.le_refl _))
    have HO := Lib.hid (InN.one (n := xs.length) h30 hu)
    have HW := Lib.hid hW
    obtain ⟨lt, c0, c1⟩ := X.out
    rw [hW] at c0 c1
    have HA := Lib.hid (show At (w.alloc (.cells #[.int .i64 xs.length, .slice a xs.length cap] 27)) a xs.length xs by rw [← hW]; exact H.out)
    clear ih hr h hc hW
    go_enter Try.func104, Try.ntmps104
    go_wp2
    first | (go_region_held3 (fun w' => w'.cell? ⟨w.heap.size, 0, none⟩ = some (.int .i64 xs.length) ∧ w'.cell? ⟨w.heap.size, 1, none⟩ = some (.slice a xs.length cap)) (first | exact ⟨c0, c1⟩ | exact ⟨d0, d1⟩ | go_keep) (first | (go_at_call 55; refine (l01One_any _ _ (by omega) (by omega)).mono ?_; rintro e w' ⟨rfl, rfl⟩) | (go_at_call 51; refine (l05Reach_any _ _ xs _ _ _ _ h8 HR.out HO.out HA.out.drw).mono ?_; rintro e w2 ⟨rfl, hbb⟩; have b2 := Lib.hid (below_of_drew hbb); clear hbb; have B2 := Lib.hid (show Below W.heap.size W w2 by rw [HW.out]; exact b2.out); obtain ⟨lt1, d0, d1⟩ := X.out.keep B2.out))) | fail
    all_goals
      clear c0 c1 d0 d1
      go_wp2
      go_loopw [7, 9] (fun s i wr => ∃ k : Nat, k ≤ xs.length ∧ i = .int .i64 k ∧ s = .int .i64 (mxF (dp xs) (up xs u) k) ∧ Hid (Below W.heap.size W wr)) (fun _ i _ => xs.length - (intOf i).toNat)
      case atStart => exact ⟨0, Nat.zero_le _, rfl, rfl, B2⟩
      case round =>
        obtain ⟨k, hk, rfl, rfl, B⟩ := hrel
        have hmb := mx_bd h8 (up xs u) k
        obtain ⟨lt0, c0, c1⟩ := X.out.keep B.out
        by_cases hlt : k < xs.length
        · have A3 := Lib.hid (H.out.keep B.out (Nat.le_refl _))
          have C3 := Lib.hid (HC.out.keep B.out (Nat.le_refl _))
          obtain ⟨b, off, rfl, -, hcc⟩ := C3.out.2.resolve_left (by omega)
          have hcu := hcc u hu
          have hck := hcc k hlt
          have UP := Lib.hid (ck_upB h30 HR.out hu hlt)
          clear hcc
          cases he : (nth (ckL xs) k == nth (ckL xs) u)
          · have HNE : (nth (ckL xs) k != nth (ckL xs) u) = true := by rw [bne, he]; rfl
            cases hb : bitB (rchV xs (one u)) k
            · have U := Lib.hid (show up xs u k = false by rw [UP.out, he, hb]; rfl)
              have HBIT := Lib.hid hb
              clear hb
              go_wp2
              go_quiet ((go_at_call 69; exact q_same ((l01Bit_any _ _ _ (by omega) (by omega)).mono fun _ _ h => ⟨h.1.trans (ret_bool HBIT.out), h.2⟩) rfl))
              go_wp2
              go_roundw
              case rel => exact ⟨k + 1, hlt, by go_num, by simp [mxF, U.out], Lib.hid (below_drewN B.out _)⟩
              case measure => simp [intOf]; omega
            · have U := Lib.hid (show up xs u k = true by rw [UP.out, he, hb]; rfl)
              have HBIT := Lib.hid hb
              have KK := Lib.hid (IH.out k hlt (by have := rk_lt h30 HR.out hu hlt U.out; have := RK.out; omega))
              have hdb := dp_bd h8 k
              clear hb
              go_wp2
              go_quiet ((go_at_call 69; exact q_same ((l01Bit_any _ _ _ (by omega) (by omega)).mono fun _ _ h => ⟨h.1.trans (ret_bool HBIT.out), h.2⟩) rfl))
              rename Nat => nq1
              have A4 := Lib.hid (show At (wr.drewN nq1) a xs.length xs from A3.out)
              have C4 := Lib.hid (show At (wr.drewN nq1) _ xs.length (ckL xs) from C3.out)
              have B4 := Lib.hid (below_drewN B.out nq1)
              go_wp2_with (go_at_call 104; refine (KK.out _ A4.out C4.out).mono ?_; rintro e w5 ⟨rfl, hb5⟩)
              all_goals
                go_roundw
                case rel => exact ⟨k + 1, hlt, by go_num, by simp only [mxF, U.out, if_pos]; congr 1; omega, Lib.hid (B4.out.trans (hb5.mono B4.out.size))⟩
                case measure => simp [intOf]; omega
          · have HNE : (nth (ckL xs) k != nth (ckL xs) u) = false := by rw [bne, he]; rfl
            have U := Lib.hid (show up xs u k = false by rw [UP.out, he]; rfl)
            go_wp2
            go_quiet (fail)
            go_wp2
            go_roundw
            case rel => exact ⟨k + 1, hlt, by go_num, by simp [mxF, U.out], Lib.hid (below_drewN B.out _)⟩
            case measure => simp [intOf]; omega
        · obtain rfl : k = xs.length := by omega
          go_wp2
          go_ret
          exact ⟨ret_int DE.out.symm, HB.out.trans (B.out.mono HB.out.size)⟩

end Go.Proofs.Ytkpbcpkapjnchaa
