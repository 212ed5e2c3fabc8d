/- ClassicalEntails of the program. Conditions: the package's table, and those in the theorems. -/
import Derived.Test.YtfpnmeacnhcakaaDoorEi
namespace Go.Proofs.YtfpnmeacnhcakaaDoor
open Go.RowKit

set_option maxHeartbeats 2000000 in
theorem implClassicalEntails_v (x0 : List (List Nd)) (x1 : List Nd) (v : Value) (lo hi : Nat) (u : Value) (lo' hi' : Nat) (w : World) (hl : x0.length ≤ 1048576 ∧ szTo x0 x0.length ≤ 1048576) (hl' : x1.length ≤ 1048576) (h : InNN w lo hi v x0) (h' : InN w lo' hi' u x1) (hT : Tb w) :
    Calls Tryd.prog 29 #[v, u] w fun e w' => e = .returned (.tuple #[.bool (enV x0 x1), .int .i64 (ckE x0 x1)]) ∧ Below w.heap.size w w' := by
  obtain ⟨a, cap, rfl, hc0, hat⟩ := h.atC
  obtain ⟨a', cap', rfl, hat', hca, hcb⟩ := h'.at'
  have hs := sz_all hl.2
  have hl0 := hl.1
  have HS := Lib.hid hs
  have H := Lib.hid hat
  have H' := Lib.hid hat'
  have T := Lib.hid hT
  have AL := Lib.hid (app_len hs hl')
  clear h h' hat hat' hs hl hT
  have CH : ∀ (a2 : Option Addr) (c2 : Nat) (W : World), AtNN W a2 (x0 ++ [x1]).length (x0 ++ [x1]) → Calls Tryd.prog 48 #[.slice a2 (x0.length + 1) c2] W fun e w' => e = .returned (.int .i64 (ckE x0 x1)) ∧ Below W.heap.size W w' := fun a2 c2 W h => by
    simp only [List.length_append, List.length_singleton] at h
    exact checkPlain_any (x0 ++ [x1]) a2 _ c2 W (by omega) AL.out h
  by_cases hz : ckE x0 x1 = 0
  · obtain ⟨g1, g2⟩ := ckE_good hz
    rw [enV_good hz, hz]
    rw [hz] at CH
    have C := Lib.hid CH
    have G1 := Lib.hid g1
    have G2 := Lib.hid g2
    have E := Lib.hid (en_word g1 (ck_ok g2))
    clear CH g1 g2 hz AL
    generalize hrr : enTo x0 (toFm x1) 64 = rr at E ⊢
    clear hrr
    go_enter Tryd.func29, Tryd.ntmps29
    go_wp2_with fail
    refine (slCloneNN_any x0 a x0.length cap w hl0 H.out).mono ?_
    rintro e w1 ⟨v1, us, rfl, hr1, hsh1, hb1⟩
    have R1 := Lib.hid hr1
    have S1 := Lib.hid hsh1
    have B1 := Lib.hid hb1
    clear hr1 hsh1 hb1
    go_wp2_with (at_builtin; refine list_appSh1 (wr := w) (w1 := w1) rfl _ _ rfl w.heap.size v1 rfl us x0 x0.length R1.out S1.out rfl (Nat.le_refl _) B1.out B1.out.size hl0 a' x1 cap' H'.out hca hcb _ rfl 1 rfl ?_)
    intro a2 c2 w2 hat2 hb2 hs2
    have A2 := Lib.hid hat2.nn
    have B2 := Lib.hid hb2
    have HS2 := Lib.hid hs2
    clear hat2 hb2 hs2 R1 S1 B1
    go_wp2_with fail
    refine (C.out a2 c2 w2 (by simpa using A2.out)).mono ?_
    rintro e w3 ⟨rfl, hb3⟩
    have B3 := Lib.hid (B2.out.trans (hb3.mono HS2.out))
    clear hb3 A2 B2 HS2 C
    go_wp2
    go_loopw [7, 25] (fun c i wr => ∃ k : Nat, k ≤ x0.length ∧ i = .int .i64 k ∧ c = .int .u64 (U (cmTo x0 k)) ∧ Below w.heap.size w wr) (fun _ i _ => x0.length - (intOf i).toNat)
    case atStart => exact ⟨0, Nat.zero_le _, rfl, congrArg _ U_all, B3.out⟩
    case round =>
      obtain ⟨k, hk, rfl, rfl, hbel⟩ := hrel
      have B := Lib.hid hbel
      have hbs := hbel.size
      clear hbel
      by_cases hlt : k < x0.length
      · obtain ⟨b1, off1, rfl⟩ : ∃ b1 off1, a = some ⟨b1, off1, none⟩ := by
          obtain ⟨-, us, -, h3⟩ := H.out
          obtain ⟨b1, off1, ha, -⟩ := h3.resolve_left (by omega)
          exact ⟨b1, off1, ha⟩
        obtain ⟨hb1, a2, c2, hc, hat2, hc1, hc2⟩ := (H.out.keep B.out (Nat.le_refl _)).at hlt
        have hck := G1.out k hlt
        have MM := modelsOf_any (nthL x0 k) a2 c2 wr (HS.out k hlt) hat2 (T.out.keep B.out (Nat.le_refl _))
        rw [mwR_good hck, hck] at MM
        have M := Lib.hid MM
        have N := Lib.hid (show bits .and .u64 (U (cmTo x0 k)) (U (toFm (nthL x0 k)).mw) = U (cmTo x0 (k + 1)) from U_and _ _)
        generalize U (toFm (nthL x0 k)).mw = y at M N
        generalize U (cmTo x0 k) = y2 at N ⊢
        generalize (nthL x0 k).length = n2 at hc M
        clear MM hck hat2 hc1 hc2
        go_wp2_with fail
        refine M.out.mono ?_
        rintro e w4 ⟨rfl, hb4⟩
        have B4 := Lib.hid (B.out.trans (hb4.mono hbs))
        clear hb4
        go_wp2
        go_roundw
        case rel => exact ⟨k + 1, hlt, by go_num, congrArg _ N.out, B4.out⟩
        case measure => simp [intOf]; omega
      · obtain rfl : k = x0.length := by omega
        have MM := modelsOf_any x1 a' cap' wr hl' (H'.out.keep B.out (Nat.le_refl _)) (T.out.keep B.out (Nat.le_refl _))
        rw [mwR_good G2.out, G2.out] at MM
        have M := Lib.hid MM
        rw [← U_andNot] at E
        generalize U (toFm x1).mw = y at M E
        generalize U (cmTo x0 x0.length) = y2 at E ⊢
        clear MM
        go_wp2_with fail
        refine M.out.mono ?_
        rintro e w4 ⟨rfl, hb4⟩
        have B4 := Lib.hid (B.out.trans (hb4.mono hbs))
        clear hb4
        go_wp2
        go_ret2
        exact ⟨ret_bi (by first | exact E.out | simpa using E.out) rfl, B4.out⟩
  · rw [enV_bad hz]
    have C := Lib.hid CH
    have hne : (ckE x0 x1 == 0) = false := by simpa using hz
    generalize ckE x0 x1 = z at C hne ⊢
    clear CH hz AL
    go_enter Tryd.func29, Tryd.ntmps29
    go_wp2_with fail
    refine (slCloneNN_any x0 a x0.length cap w hl0 H.out).mono ?_
    rintro e w1 ⟨v1, us, rfl, hr1, hsh1, hb1⟩
    have R1 := Lib.hid hr1
    have S1 := Lib.hid hsh1
    have B1 := Lib.hid hb1
    clear hr1 hsh1 hb1
    go_wp2_with (at_builtin; refine list_appSh1 (wr := w) (w1 := w1) rfl _ _ rfl w.heap.size v1 rfl us x0 x0.length R1.out S1.out rfl (Nat.le_refl _) B1.out B1.out.size hl0 a' x1 cap' H'.out hca hcb _ rfl 1 rfl ?_)
    intro a2 c2 w2 hat2 hb2 hs2
    have A2 := Lib.hid hat2.nn
    have B2 := Lib.hid hb2
    have HS2 := Lib.hid hs2
    clear hat2 hb2 hs2 R1 S1 B1
    go_wp2_with fail
    refine (C.out a2 c2 w2 (by simpa using A2.out)).mono ?_
    rintro e w3 ⟨rfl, hb3⟩
    have B3 := Lib.hid (B2.out.trans (hb3.mono HS2.out))
    clear hb3 A2 B2 HS2 C
    go_wp2
    go_ret2
    exact ⟨rfl, B3.out⟩

end Go.Proofs.YtfpnmeacnhcakaaDoor
