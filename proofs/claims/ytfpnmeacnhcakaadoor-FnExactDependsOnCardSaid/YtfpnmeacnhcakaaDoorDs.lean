/- DependsOn of the model. Conditions: those in the theorems. -/
import Derived.Test.YtfpnmeacnhcakaaDoorDp
namespace Go.Proofs.YtfpnmeacnhcakaaDoor
open Go.RowKit

theorem dpR_1 {f : Fm} {v r : Nat} (h : dpR f v r = true) : dpR f v (r + 1) = true := by rw [dpR, h]; rfl
theorem dpR_2 {f : Fm} {v r : Nat} (h : dpR f v r = false) (hb : r.testBit v = true) : dpR f v (r + 1) = false := by rw [dpR, h, hb]; rfl
theorem dpR_3 {f : Fm} {v r p : Nat} (h : dpR f v r = false) (hb : r.testBit v = false) (hp : p = 2 ^ v) : dpR f v (r + 1) = (f.ev r != f.ev (r + p)) := by rw [dpR, h, hb, hp]; rfl
theorem one_p {v : Nat} (hv : v < 6) : ∃ p : Nat, p = 2 ^ v ∧ one (v : Int) = (p : Int) ∧ p ≤ 32 := by
  refine ⟨2 ^ v, rfl, ?_, ?_⟩
  · rw [one_eq _ (by omega) (by omega), Int.toNat_natCast]; simp
  · have : (2 : Nat) ^ v ≤ 2 ^ 5 := Nat.pow_le_pow_right (by decide) (by omega)
    exact this

set_option maxHeartbeats 2000000 in
theorem specDependsOn_v (x0 : List Nd) (v : Value) (lo hi : Nat) (w : World) (hl : x0.length ≤ 1048576) (h : InN w lo hi v x0) :
    Calls Tryd.prog 20 #[v] w fun e w' => ∃ v', e = .returned (.tuple #[v', .int .i64 (ck x0)]) ∧ Own w' w.heap.size v' (dpV x0) ∧ Below w.heap.size w w' := by
  obtain ⟨a, cap, rfl, hat, hca, hcb⟩ := h.at'
  have CN := code1_any x0 a x0.length cap w.heap.size w hl hat 26 rfl
  have H := Lib.hid hat
  clear h hat
  by_cases hc : ck x0 = 0
  · rw [dpV_good hc]
    rw [hc] at CN ⊢
    obtain ⟨b, off, rfl, hf, f1, f4, h40⟩ := plain_at hc H.out hca hcb
    have C := Lib.hid CN
    have F := Lib.hid hf
    have F1 := Lib.hid f1
    have F4 := Lib.hid f4
    clear CN hf f1 f4 hc H
    generalize toFm x0 = f at F F1 F4 ⊢
    go_enter Tryd.func20, Tryd.ntmps20
    go_wp2_with fail
    refine C.out.mono ?_
    rintro e w1 ⟨rfl, hb1⟩
    have B1 := Lib.hid hb1
    have hs1 := hb1.size
    clear hb1 C
    have Z0 := Lib.hid (show Own (w1.alloc (.cells #[] 2)) w.heap.size (.slice (some ⟨w1.heap.size, 0, none⟩) 0 0) [] from World.ownsRow_made w1 #[] 0 hs1 (Nat.zero_le _) rfl)
    have BZ := Lib.hid (B1.out.alloc hs1 (.cells #[] 2))
    go_wp2_with fail
    refine (l04Table_any f F1.out F4.out b off _ cap _ hl (F.out.keep BZ.out (Nat.le_refl _))).mono ?_
    rintro e w2 ⟨v2, rfl, ho2, hb2⟩
    obtain ⟨a2, cap2, rfl⟩ := row_slice ho2
    have B2 := Lib.hid (BZ.out.trans (hb2.mono BZ.out.size))
    have A2 := Lib.hid (show w2.ownsRow w.heap.size 4 1 (.slice a2 64 cap2) 64 ((tbl f 64).map Value.bool) by
      have := ownsRow_mono' ho2 BZ.out.size
      simp only [tbl_len] at this ⊢
      exact this)
    simp only [tbl_len]
    have O2 := Lib.hid (Z0.out.keep hb2 (Nat.le_refl _))
    clear hb2 ho2 Z0 F F1 F4
    go_wp2
    go_loopw [5, 7] (fun v i wr => ∃ t : Nat, t ≤ 6 ∧ i = .int .i64 t ∧ Own wr w.heap.size v (dpL f t) ∧ Below w.heap.size w wr ∧ wr.ownsRow w.heap.size 4 1 (.slice a2 64 cap2) 64 ((tbl f 64).map Value.bool)) (fun _ i _ => 6 - (intOf i).toNat)
    case atStart => exact ⟨0, Nat.zero_le _, rfl, O2.out, B2.out, A2.out⟩
    case round =>
      obtain ⟨k, hk, rfl, hown, hbel, hat⟩ := hrel
      have HO := Lib.hid hown
      have B := Lib.hid hbel
      have A := Lib.hid hat
      have hbs := hbel.size
      have hlen := dpL_len f k
      clear hown hbel hat
      by_cases hlt : k < 6
      · have A3 := OwnB.cells A.out (tbl_len f 64).symm
        obtain ⟨b3, off3, rfl, hb3, hc3⟩ := A3.2.resolve_left (by omega)
        have C3 := Lib.hid hc3
        obtain ⟨p, hp, hone, hp32⟩ := one_p hlt
        have P := Lib.hid hp
        have ONE := Lib.hid hone
        obtain ⟨wo, hwo⟩ : ∃ wo : World, wo = wr := ⟨_, rfl⟩
        subst hwo
        clear A3 hc3 hp hone
        go_wp2
        go_loopw [8, 9] (fun d i wr => ∃ r q : Nat, r ≤ 64 ∧ i = .int .i64 r ∧ d = .bool (dpR f k r) ∧ wr = wo.drewN q) (fun _ i _ => 64 - (intOf i).toNat)
        case atStart => exact ⟨0, 0, Nat.zero_le _, rfl, rfl, rfl⟩
        case round =>
          obtain ⟨r, q, hr, rfl, rfl, rfl⟩ := hrel
          by_cases hrl : r < 64
          · cases hd : dpR f k r
            · cases hbt : r.testBit k
              · have N := Lib.hid (dpR_3 hd hbt P.out)
                have BT := Lib.hid (show bitB (r : Int) (k : Int) = false by rw [bit_row r k hrl]; exact hbt)
                have hrp : r + p < 64 := by rw [P.out]; exact (fl_no k hlt r hrl hbt).1
                have c1 := C3.out r hrl
                have c2 := C3.out (r + p) hrp
                rw [tbl_at f hrl] at c1
                rw [tbl_at f hrp] at c2
                have e1 : wo.cell? ⟨b3, off3 + r, none⟩ = some (.bool (f.ev r)) := c1
                have e2 : wo.cell? ⟨b3, off3 + (r + p), none⟩ = some (.bool (f.ev (r + p))) := c2
                have M := Lib.hid (show dpR f k (r + 1) = (f.ev r != f.ev (r + p)) from N.out)
                generalize f.ev r = x at e1 M
                generalize f.ev (r + p) = y at e2 M
                clear c1 c2 hd hbt N
                go_wp2
                go_quiet ((first | (go_at_call 37; exact q_same ((l01Bit_any _ _ _ (by omega) (by omega)).mono fun _ _ h => ⟨h.1.trans (ret_bool BT.out), h.2⟩) rfl) | (go_at_call 38; exact q_same ((l01One_any _ _ (by omega) (by omega)).mono fun _ _ h => ⟨h.1.trans (ret_int ONE.out), h.2⟩) rfl)))
                go_wp2
                go_roundw
                case rel => exact ⟨r + 1, _, hrl, by go_num, by rw [M.out]; first | rfl | (cases x <;> cases y <;> rfl), by first | rfl | rw [World.drewN_drewN]⟩
                case measure => simp [intOf]; omega
              · have N := Lib.hid (dpR_2 hd hbt)
                have BT := Lib.hid (show bitB (r : Int) (k : Int) = true by rw [bit_row r k hrl]; exact hbt)
                clear hd hbt
                go_wp2
                go_quiet ((go_at_call 37; exact q_same ((l01Bit_any _ _ _ (by omega) (by omega)).mono fun _ _ h => ⟨h.1.trans (ret_bool BT.out), h.2⟩) rfl))
                go_wp2
                go_roundw
                case rel => exact ⟨r + 1, _, hrl, by go_num, by rw [N.out], by first | rfl | rw [World.drewN_drewN]⟩
                case measure => simp [intOf]; omega
            · have N := Lib.hid (dpR_1 hd)
              clear hd
              go_wp2
              go_quiet (fail)
              go_wp2
              go_roundw
              case rel => exact ⟨r + 1, _, hrl, by go_num, by rw [N.out], by first | rfl | rw [World.drewN_drewN]⟩
              case measure => simp [intOf]; omega
          · obtain rfl : r = 64 := by omega
            have HO2 := Lib.hid (HO.out.keep (below_drewN (Below.refl wo.heap.size wo) q) (Nat.le_refl _))
            have B3 := Lib.hid (below_drewN B.out q)
            have A4 := Lib.hid (show (wo.drewN q).ownsRow w.heap.size 4 1 (.slice (some ⟨b3, off3, none⟩) 64 cap2) 64 ((tbl f 64).map Value.bool) from A.out)
            have hbs2 := B3.out.size
            obtain ⟨wq, hwq⟩ : ∃ wq, wq = wo.drewN q := ⟨_, rfl⟩
            rw [← hwq] at HO2 B3 A4 hbs2 ⊢
            clear hwq
            cases hd : dpR f k 64
            · have N := Lib.hid (dpL_no hd)
              clear hd
              go_wp2
              go_roundw
              case rel => exact ⟨k + 1, hlt, by go_num, by rw [N.out]; exact HO2.out, B3.out, A4.out⟩
              case measure => simp [intOf]; omega
            · have N := Lib.hid (dpL_yes hd)
              clear hd
              go_wp2_with (at_builtin; refine list_app1 rfl _ _ rfl w.heap.size _ _ _ rfl (HO2.out.alloc _) ⟨wq.heap.size, 0, none⟩ 1 _ rfl (World.cell?_alloc_at _ _ _ _ rfl) (by omega) (by simp; omega) ?_; intro v' w2 hown1 hgr1)
              have B4 := Lib.hid (below_app B3.out ((Below.refl _ _).alloc hbs2 _) hbs2 HO2.out hgr1)
              have O3 := Lib.hid (Own.snoc hown1)
              have A5 := Lib.hid (row_kept (World.ownsRow.alloc A4.out _) hgr1 (row_other (HO2.out.alloc _) (by decide)))
              clear hown1 hgr1
              go_roundw
              case rel => exact ⟨k + 1, hlt, by go_num, by rw [N.out]; exact O3.out, B4.out, A5.out⟩
              case measure => simp [intOf]; omega
      · obtain rfl : k = 6 := by omega
        go_wp2
        go_ret2
        exact ⟨_, rfl, HO.out, B.out⟩
  · rw [dpV_bad hc]
    have C := Lib.hid CN
    have hne : (ck x0 == 0) = false := by simpa using hc
    generalize ck x0 = z at C hne ⊢
    clear CN hc
    go_enter Tryd.func20, Tryd.ntmps20
    go_wp2_with fail
    refine C.out.mono ?_
    rintro e w1 ⟨rfl, hb1⟩
    have B1 := Lib.hid hb1
    clear hb1
    go_wp2
    go_ret2
    exact ⟨_, rfl, ownI_none _ _, B1.out⟩

end Go.Proofs.YtfpnmeacnhcakaaDoor
