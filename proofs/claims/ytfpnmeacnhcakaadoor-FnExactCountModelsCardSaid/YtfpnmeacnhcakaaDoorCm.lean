/- CountModels of the model; slices.Max over a rising list. Conditions: those in the theorems. -/
import Derived.Test.YtfpnmeacnhcakaaDoorCmM
import Derived.Test.YtfpnmeacnhcakaaDoorFs
namespace Go.Proofs.YtfpnmeacnhcakaaDoor
open Go.RowKit

set_option maxHeartbeats 1000000 in
theorem slMax_any (zs : List Int) (hs : zs.Pairwise (· < ·)) (a : Option Addr) (len cap : Nat) (w : World) (hl : len ≤ 1048576) (h0 : 0 < len) (h : At w a len zs) :
    Calls Tryd.prog 45 #[.slice a len cap] w fun e w' => e = .returned (.int .i64 (nth zs (len - 1))) ∧ w = w' := by
  obtain ⟨hlen, hc0⟩ := h
  obtain ⟨b, off, rfl, hb, hc⟩ := hc0.resolve_left (by omega)
  have UP := Lib.hid (fun k (hk : k + 1 < len) => up_nth hs (k := k) (by omega))
  have HC := Lib.hid hc
  have c0 := hc 0 h0
  rw [Nat.add_zero] at c0
  clear hc hs hlen
  have hlt1 : ¬ ((len : Int) < 1) := by omega
  go_enter Tryd.func45, Tryd.ntmps45
  go_wp2
  clear c0
  go_loop [3, 4] (fun m i => ∃ j : Nat, j + 1 ≤ len ∧ i = .int .i64 ((j + 1 : Nat) : Int) ∧ m = .int .i64 (nth zs j)) (fun _ i => len - (intOf i).toNat)
  case atStart => exact ⟨0, h0, rfl, rfl⟩
  case round =>
    obtain ⟨j, hj, rfl, rfl⟩ := hrel
    by_cases hlt : j + 1 < len
    · have hcell := HC.out (j + 1) hlt
      have hup := UP.out j hlt
      obtain ⟨k, hk⟩ : ∃ k, k = j + 1 := ⟨_, rfl⟩
      rw [← hk] at hlt hcell hup ⊢
      have N := Lib.hid (show Value.int .i64 (nth zs k) = .int .i64 (nth zs k) from rfl)
      obtain ⟨y, hy⟩ : ∃ y, y = nth zs k := ⟨_, rfl⟩
      rw [← hy] at hcell hup
      have Y := Lib.hid hy
      generalize nth zs j = x at hup ⊢
      clear hy hj hk N
      have hxy : ¬ y < x := by omega
      have hxy2 : ¬ y ≤ x := by omega
      go_wp2
      go_round
      case rel => exact ⟨k, hlt, by go_num, by first | exact congrArg _ Y.out | (rw [← Y.out]; simp; omega)⟩
      case measure => simp [intOf]; omega
    · obtain rfl : j = len - 1 := by omega
      have hh : len - 1 + 1 = len := by omega
      rw [hh]
      go_wp2
      go_ret
      exact ⟨rfl, rfl⟩

set_option maxHeartbeats 2000000 in
theorem specCountModels_v (x0 : List Nd) (x1 : Int) (v : Value) (lo hi : Nat) (w : World) (hl : x0.length ≤ 1048576) (h : InN w lo hi v x0) :
    Calls Tryd.prog 24 #[v, .int .i64 x1] w fun e w' => e = .returned (.tuple #[.int .i64 (cmV x0 x1), .int .i64 (cmC x0 x1)]) ∧ Below w.heap.size w w' := by
  obtain ⟨a, cap, rfl, hat, hca, hcb⟩ := h.at'
  have CN := code1_any x0 a x0.length cap w.heap.size w hl hat 26 rfl
  have H := Lib.hid hat
  clear h hat
  by_cases hc : ck x0 = 0
  · rw [hc] at CN
    have C := Lib.hid CN
    cases hin : inB x1 0 6
    · obtain ⟨e1, e2⟩ := cm_rng hc hin
      rw [e1, e2]
      have I := Lib.hid hin
      clear CN hc hin e1 e2
      go_enter Tryd.func24, Tryd.ntmps24
      go_wp2_with fail
      refine C.out.mono ?_
      rintro e w1 ⟨rfl, hb1⟩
      have B1 := Lib.hid hb1
      clear hb1
      go_wp2_with fail
      refine (l01In_any _ _ _ _).mono ?_
      rw [I.out]
      rintro e w' ⟨rfl, rfl⟩
      go_wp2
      go_ret2
      exact ⟨rfl, B1.out⟩
    · have hn6 : 0 ≤ x1 ∧ x1 ≤ 6 := by simpa [inB] using hin
      obtain ⟨hn0, hn6⟩ := hn6
      obtain ⟨b, off, rfl, hf, f1, f4, h40⟩ := plain_at hc H.out hca hcb
      have ht := (is_tree (ck_good hc).1).1
      have HT := Lib.hid ht
      have I := Lib.hid hin
      have F := Lib.hid hf
      have F1 := Lib.hid f1
      have F4 := Lib.hid f4
      obtain ⟨zs, hzs⟩ : ∃ zs, zs = vaL x0 := ⟨_, rfl⟩
      have ZS := Lib.hid (show zs = memTo (mkTo x0 x0.length) 30 from hzs)
      have zl : zs.length ≤ 30 := by rw [hzs]; exact memTo_len _ 30
      cases hla : laB zs x1
      · obtain ⟨e1, e2⟩ := cm_good2 hc hin (by rw [← hzs]; exact hla)
        rw [e1, e2]
        obtain ⟨n, rfl⟩ : ∃ n : Nat, x1 = n := ⟨x1.toNat, by omega⟩
        rw [Int.toNat_natCast]
        have ONE := Lib.hid (show one (n : Int) = ((2 ^ n : Nat) : Int) by rw [one_eq _ (by omega) (by omega), Int.toNat_natCast]; simp)
        have hP : (2 : Nat) ^ n ≤ 2 ^ 6 := Nat.pow_le_pow_right (by decide) (by omega)
        generalize hPe : (2 : Nat) ^ n = P at ONE hP ⊢
        have hla2 : ∀ y, 0 < zs.length → y = nth zs (zs.length - 1) → ¬ (n : Int) ≤ y := fun y h0 hy => by
          unfold laB at hla
          rw [decide_eq_true h0, ← hy] at hla
          simpa using hla
        have LA := Lib.hid hla2
        have CNL := Lib.hid (cnF_le (toFm x0))
        generalize toFm x0 = f at F F1 F4 CNL ⊢
        clear CN hc hin e1 e2 hf f1 f4 ht hzs hla hla2 hPe hn0
        go_enter Tryd.func24, Tryd.ntmps24
        go_wp2_with fail
        refine C.out.mono ?_
        rintro e w1 ⟨rfl, hb1⟩
        have B1 := Lib.hid hb1
        clear hb1
        go_wp2_with fail
        refine (l01In_any _ _ _ _).mono ?_
        rw [I.out]
        rintro e w' ⟨rfl, rfl⟩
        go_wp2_with fail
        refine (l02Variables_any x0 _ _ _ w1 h40 HT.out (H.out.keep B1.out (Nat.le_refl _))).mono ?_
        rw [← ZS.out]
        rintro e w2 ⟨v2, rfl, ho2, hb2⟩
        obtain ⟨a2, cap2, rfl, hat2, -, -, -⟩ := ho2.at
        have A2 := Lib.hid hat2
        have B2 := Lib.hid (B1.out.trans (hb2.mono B1.out.size))
        clear hb2 ho2 hat2
        have key : ∀ (Q : Prop), (zs.length = 0 → Q) → (∀ b2 off2 y, a2 = some ⟨b2, off2, none⟩ → 0 < zs.length → w2.cell? ⟨b2, off2 + (zs.length - 1), none⟩ = some (.int .i64 y) → ¬ (n : Int) ≤ y → Q) → Q := fun Q q1 q2 => by
          by_cases h0 : zs.length = 0
          · exact q1 h0
          · obtain ⟨b2, off2, ha, -, hc⟩ := A2.out.2.resolve_left h0
            exact q2 b2 off2 _ ha (by omega) (hc (zs.length - 1) (by omega)) (by have := LA.out _ (by omega) rfl; omega)
        refine key _ ?_ ?_
        all_goals
          clear key
        · intro h0
          rw [h0]
          go_wp2
          go_loop [8, 9] (fun c i => ∃ r : Nat, r ≤ P ∧ i = .int .i64 r ∧ c = .int .i64 ((cnF f r : Nat) : Int)) (fun _ i => P - (intOf i).toNat)
          case atStart => exact ⟨0, Nat.zero_le _, rfl, rfl⟩
          case round =>
            obtain ⟨r, hr, rfl, rfl⟩ := hrel
            have hcl := CNL.out r
            by_cases hlt : r < P
            · have VV := Lib.hid (l04Value_any f F1.out F4.out r b off _ cap w2 (by omega) hl (F.out.keep B2.out (Nat.le_refl _)))
              have N := Lib.hid (show cnF f (r + 1) = cnF f r + if f.ev r then 1 else 0 from rfl)
              generalize f.ev r = y at VV N
              generalize cnF f r = cc at N hcl ⊢
              cases y
              all_goals
                go_wp2_with fail
                refine (l01One_any _ _ (by omega) (by omega)).mono ?_
                rw [ONE.out]
                rintro e w' ⟨rfl, rfl⟩
                go_wp2_with fail
                refine VV.out.mono ?_
                rintro e w' ⟨rfl, rfl⟩
                go_wp2
                go_round
                case rel => exact ⟨r + 1, hlt, by go_num, by rw [N.out]; first | rfl | simp⟩
                case measure => simp [intOf]; omega
            · obtain rfl : r = P := by omega
              go_wp2_with fail
              refine (l01One_any _ _ (by omega) (by omega)).mono ?_
              rw [ONE.out]
              rintro e w' ⟨rfl, rfl⟩
              go_wp2
              go_ret2
              exact ⟨rfl, B2.out⟩
        · rintro b2 off2 y rfl h0 hcell hny
          generalize zs.length = zn at h0 hcell zl ⊢
          obtain ⟨m, rfl⟩ : ∃ m, zn = m + 1 := ⟨zn - 1, by omega⟩
          simp only [Nat.add_sub_cancel] at hcell
          go_wp2
          go_loop [8, 9] (fun c i => ∃ r : Nat, r ≤ P ∧ i = .int .i64 r ∧ c = .int .i64 ((cnF f r : Nat) : Int)) (fun _ i => P - (intOf i).toNat)
          case atStart => exact ⟨0, Nat.zero_le _, rfl, rfl⟩
          case round =>
            obtain ⟨r, hr, rfl, rfl⟩ := hrel
            have hcl := CNL.out r
            clear hcell hny
            by_cases hlt : r < P
            · have VV := Lib.hid (l04Value_any f F1.out F4.out r b off _ cap w2 (by omega) hl (F.out.keep B2.out (Nat.le_refl _)))
              have N := Lib.hid (show cnF f (r + 1) = cnF f r + if f.ev r then 1 else 0 from rfl)
              generalize f.ev r = y at VV N
              generalize cnF f r = cc at N hcl ⊢
              cases y
              all_goals
                go_wp2_with fail
                refine (l01One_any _ _ (by omega) (by omega)).mono ?_
                rw [ONE.out]
                rintro e w' ⟨rfl, rfl⟩
                go_wp2_with fail
                refine VV.out.mono ?_
                rintro e w' ⟨rfl, rfl⟩
                go_wp2
                go_round
                case rel => exact ⟨r + 1, hlt, by go_num, by rw [N.out]; first | rfl | simp⟩
                case measure => simp [intOf]; omega
            · obtain rfl : r = P := by omega
              go_wp2_with fail
              refine (l01One_any _ _ (by omega) (by omega)).mono ?_
              rw [ONE.out]
              rintro e w' ⟨rfl, rfl⟩
              go_wp2
              go_ret2
              exact ⟨rfl, B2.out⟩
      · obtain ⟨e1, e2⟩ := cm_var hc hin (by rw [← hzs]; exact hla)
        rw [e1, e2]
        have hla2 : 0 < zs.length ∧ x1 ≤ nth zs (zs.length - 1) := by simpa [laB] using hla
        obtain ⟨hz0, hz1⟩ := hla2
        clear CN hc hin e1 e2 hf f1 f4 ht hzs hla
        go_enter Tryd.func24, Tryd.ntmps24
        go_wp2_with fail
        refine C.out.mono ?_
        rintro e w1 ⟨rfl, hb1⟩
        have B1 := Lib.hid hb1
        clear hb1
        go_wp2_with fail
        refine (l01In_any _ _ _ _).mono ?_
        rw [I.out]
        rintro e w' ⟨rfl, rfl⟩
        go_wp2_with fail
        refine (l02Variables_any x0 _ _ _ w1 h40 HT.out (H.out.keep B1.out (Nat.le_refl _))).mono ?_
        rw [← ZS.out]
        rintro e w2 ⟨v2, rfl, ho2, hb2⟩
        obtain ⟨a2, cap2, rfl, hat2, -, -, -⟩ := ho2.at
        have B2 := Lib.hid (B1.out.trans (hb2.mono B1.out.size))
        obtain ⟨b2, off2, rfl, -, hcc⟩ := hat2.2.resolve_left (by omega)
        have hcell := hcc (zs.length - 1) (by omega)
        generalize nth zs (zs.length - 1) = y at hcell hz1
        clear hb2 ho2 hat2 hcc ZS
        generalize zs.length = zn at hz0 hcell zl ⊢
        obtain ⟨m, rfl⟩ : ∃ m, zn = m + 1 := ⟨zn - 1, by omega⟩
        simp only [Nat.add_sub_cancel] at hcell
        go_wp2
        go_ret2
        exact ⟨rfl, B2.out⟩
  · obtain ⟨e1, e2⟩ := cm_ck (n := x1) hc
    rw [e1, e2]
    have C := Lib.hid CN
    have hne : (ck x0 == 0) = false := by simpa using hc
    generalize ck x0 = z at C hne ⊢
    clear CN hc e1 e2
    go_enter Tryd.func24, Tryd.ntmps24
    go_wp2_with fail
    refine C.out.mono ?_
    rintro e w1 ⟨rfl, hb1⟩
    have B1 := Lib.hid hb1
    clear hb1
    go_wp2
    go_ret2
    exact ⟨rfl, B1.out⟩

end Go.Proofs.YtfpnmeacnhcakaaDoor
