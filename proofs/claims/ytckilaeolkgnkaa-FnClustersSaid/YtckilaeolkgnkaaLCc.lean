/- The walk of the law FnClusters. Conditions: the table of math/bits, and those in the theorems. -/
import Derived.Deep.QuietTactic
import Derived.BigQuiet
import Derived.Test.YtckilaeolkgnkaaCcD
import Derived.Test.YtckilaeolkgnkaaCuV
import Derived.Test.YtckilaeolkgnkaaCcM
import Derived.Test.YtckilaeolkgnkaaDpF
import Derived.Test.YtckilaeolkgnkaaRts
namespace Go.Proofs.Ytckilaeolkgnkaa
open Go.RowKit

def rqTo (xs : List Int) : Nat → List Int
  | 0 => []
  | k + 1 => rqTo xs k ++ [nth (rcL xs) k]
theorem rqTo_tab (xs : List Int) (k : Nat) : rqTo xs k = tab k (nth (rcL xs)) := by
  induction k with
  | zero => rfl
  | succ k ih => rw [rqTo, ih]; unfold tab; rw [List.range_succ, List.map_append]; rfl
theorem rqTo_len (xs : List Int) (k : Nat) : (rqTo xs k).length = k := by rw [rqTo_tab, tab_len]
theorem beq_dec {x y : Int} {b : Bool} (h : b = decide (x = y)) : b = (x == y) := by rw [h]; rfl
theorem At_Own {w : World} {B : Nat} {v : Value} {xs : List Int} (h : Own w B v xs) : ∃ a cap, v = .slice a xs.length cap ∧ At w a xs.length xs := by
  obtain ⟨a, cap, e, hat, -, -, -⟩ := h.at
  exact ⟨a, cap, e, hat⟩

set_option maxHeartbeats 40000000 in
set_option maxRecDepth 100000 in
theorem lawClusters (a : Option Addr) (len cap : Nat) (zs : List Int) (w0 : World) (h : IsRow .u8 w0 a len cap zs) :
    Calls Try.prog 4 #[.slice a len cap] w0 fun e w' => e = .returned (.bool true) ∧ Below w0.heap.size w0 w' := by
  by_cases hbig : 4096 < len
  · clear h
    go_enter Try.func4, Try.ntmps4
    go_wp2_with (go_at_call 16; refine (bigF1 _ _ _ _ hbig).mono ?_; rintro e w' ⟨rfl, rfl⟩)
    go_ret
    exact ⟨rfl, Below.refl _ _⟩
  have hl4 : len ≤ 4096 := by omega
  have DC := Lib.hid (DrawClustersOf_any a len cap w0 (Code.of_row h hl4))
  clear h hbig
  go_enter Try.func4, Try.ntmps4
  go_wp2_with (go_at_call 16; refine (bigF0 _ _ _ _ hl4).mono ?_; rintro e w' ⟨rfl, rfl⟩)
  refine DC.out.mono ?_
  rintro e w1 ⟨⟨v, n, xs, rfl, ho, hx9⟩, hb⟩
  have FW := Lib.hid (ho.inF hb.size)
  obtain ⟨ax, cx, rfl, hat, hn0⟩ := At_of_OwnF ho
  clear ho hn0
  have z1 : w0.heap.size ≤ w1.heap.size := hb.size
  have B1 := Lib.hid hb
  clear hb
  have L1 := Lib.hid (show At w1 ax xs.length xs from hat)
  clear hat
  have hl : xs.length ≤ 1048576 := by omega
  go_wp2_with fail
  obtain ⟨W, hW, hb, hq⟩ : ∃ V, V = w1.alloc (.cells #[.int .i64 n, .slice ax xs.length cx] 28) ∧ Below w1.heap.size w1 V ∧ Bx V w1.heap.size n ax xs.length cx := ⟨_, rfl, (alloc_keep _ _).1, Bx.new _ _ _ _ _ _⟩
  rw [← hW]
  clear hW
  have X := Lib.hid hq
  have z2 : w1.heap.size ≤ W.heap.size := hb.size
  have B2 := Lib.hid (B1.out.trans (hb.mono z1))
  have L := Lib.hid (L1.out.keep hb (Nat.le_refl _))
  have FF := Lib.hid (FW.out.below hb FW.out.hi)
  clear hb hq L1 FW
  obtain ⟨rs, hrs⟩ : ∃ r, r = cuR n xs := ⟨_, rfl⟩
  obtain ⟨c, hc⟩ : ∃ r, r = cuC n xs := ⟨_, rfl⟩
  have hlr : rs.length ≤ 1048576 := by rw [hrs]; exact ClustersOf_len n xs
  have RS := Lib.hid hrs
  have CS := Lib.hid hc
  clear hrs hc
  refine (implClustersOf_v n xs _ _ _ _ hl FF.out).mono ?_
  rw [← RS.out, ← CS.out]
  rintro e w2 ⟨v2, rfl, ho, hb⟩
  obtain ⟨ac, cc, rfl, hat⟩ := At_Own ho
  have T2 := Lib.hid hb
  have C2 := Lib.hid hat
  clear ho hb hat
  obtain ⟨lt0, ca0, cb0⟩ := X.out.keep T2.out
  go_wp2_with fail
  clear lt0 ca0 cb0
  refine (specClustersOf_v n xs _ _ _ _ hl (FF.out.below T2.out FF.out.hi)).mono ?_
  rw [← RS.out, ← CS.out]
  rintro e w3 ⟨v3, rfl, ho, hb⟩
  obtain ⟨ar, cr, rfl, hat⟩ := At_Own ho
  have T3 := Lib.hid (T2.out.trans (hb.mono T2.out.size))
  have C3 := Lib.hid (C2.out.keep hb (Nat.le_refl _))
  have R3 := Lib.hid hat
  clear ho hb hat C2
  go_wp2_with fail
  refine (likeInts_b rs _ _ _ _ _ hlr C3.out R3.out).mono ?_
  rintro e w4 ⟨rfl, hb⟩
  have T4 := Lib.hid (T3.out.trans (hb.mono T3.out.size))
  have C4 := Lib.hid (C3.out.keep hb (Nat.le_refl _))
  clear hb C3 R3
  by_cases hc0 : c = 0
  case neg =>
    have hcn : (c != 0) = true := by simpa using hc0
    have BE := Lib.hid (B2.out.trans (T4.out.mono B2.out.size))
    go_wp2
    go_ret
    exact ⟨rfl, BE.out⟩
  subst hc0
  have hfr : frB n xs = true := by
    cases hf : frB n xs
    · have := CS.out; rw [(cu_bad hf).2] at this; cases this
    · rfl
  have hrs : rs = ckL xs := by rw [RS.out, (cu_good hfr).1]
  obtain ⟨hn, h8, hgw, hrt, hcl, hdu, hdm, hrl⟩ := clu_all hfr
  obtain rfl := hn
  have hr : Rel xs.length (nth xs) := (frB_ok hfr).2.2.2
  have hck : rs.length = xs.length := by rw [hrs, ckL_len (by omega) hr]
  have RC : rtC xs.length xs = 0 := by rw [rtC, hfr]; rfl
  have RV : rtV xs.length xs = rtTo xs xs.length := by rw [rtV, hfr]; rfl
  have OD : outL 0 (dpL xs) = dpL xs := by simp [outL]
  subst hrs
  have C5 := Lib.hid (show At w4 ac xs.length (ckL xs) by have := C4.out; rw [hck] at this; exact this)
  rw [hck]
  clear C4 hlr
  have GW := Lib.hid hgw
  have RT := Lib.hid hrt
  have CL := Lib.hid hcl
  have DU := Lib.hid hdu
  have DM := Lib.hid hdm
  clear hfr hgw hrt hcl hdu hdm hrl hr hck CS RS
  have HRC := Lib.hid RC
  have HRV := Lib.hid RV
  have HOD := Lib.hid OD
  clear RC RV OD
  obtain ⟨lt0, ca0, cb0⟩ := X.out.keep T4.out
  go_wp2_with fail
  clear lt0 ca0 cb0
  refine (implDepthsOfWorlds_any _ xs _ _ _ _ hl (L.out.keep T4.out (Nat.le_refl _))).mono ?_
  rw [HRC.out, HOD.out]
  rintro e w5 ⟨v5, rfl, ho, hb⟩
  obtain ⟨ad, cd, rfl, hat⟩ := At_Own ho
  rw [dpL_len] at hat ⊢
  have T5 := Lib.hid (T4.out.trans (hb.mono T4.out.size))
  have C6 := Lib.hid (C5.out.keep hb (Nat.le_refl _))
  have D5 := Lib.hid hat
  clear ho hb hat C5
  obtain ⟨lt0, ca0, cb0⟩ := X.out.keep T5.out
  go_wp2_with fail
  clear lt0 ca0 cb0
  refine (implRootsOf_any _ xs _ _ _ _ hl (L.out.keep T5.out (Nat.le_refl _))).mono ?_
  rw [HRC.out, HRV.out]
  rintro e w6 ⟨rfl, hb⟩
  have T6 := Lib.hid (T5.out.trans (hb.mono T5.out.size))
  have C7 := Lib.hid (C6.out.keep hb (Nat.le_refl _))
  have D6 := Lib.hid (D5.out.keep hb (Nat.le_refl _))
  clear hb C6 D5
  obtain ⟨r, hr⟩ : ∃ r, r = rtTo xs xs.length := ⟨_, rfl⟩
  rw [← hr]
  have HR := Lib.hid hr
  clear hr
  obtain ⟨lt0, ca0, cb0⟩ := X.out.keep T6.out
  go_wp2
  clear ca0 cb0
  go_loopw [12, 13] (fun v i wr => ∃ k : Nat, k ≤ xs.length ∧ i = .int .i64 k ∧ Hid (Own wr w6.heap.size v (rqTo xs k)) ∧ Hid (Below w6.heap.size w6 wr)) (fun _ i _ => xs.length - (intOf i).toNat)
  case atStart =>
    exact ⟨0, Nat.zero_le _, rfl, Lib.hid (by exact World.ownsRow_lit (size := 1) (e := 2) w6 #[] 0 (Nat.le_refl _) (by unfold maxLen; omega) rfl), Lib.hid ((Below.refl _ _).alloc (Nat.le_refl _) _)⟩
  case round =>
    obtain ⟨k, hk, rfl, HO, B⟩ := hrel
    have T7 := Lib.hid (T6.out.trans (B.out.mono T6.out.size))
    obtain ⟨lt1, x0, x0'⟩ := X.out.keep T7.out
    by_cases hlt : k < xs.length
    · have HA := Lib.hid (L.out.keep T7.out (Nat.le_refl _))
      obtain ⟨g1, g2⟩ := GW.out k hlt
      have G1 := Lib.hid g1
      have G2 := Lib.hid g2
      have hrk := RT.out k hlt
      rw [← HR.out] at hrk
      clear g1 g2
      go_wp2_with fail
      refine (implGeneratedWorlds_any _ (one k) xs _ _ _ _ hl HA.out).mono ?_
      rw [G1.out, G2.out]
      rintro e w7 ⟨rfl, hb⟩
      have B7 := Lib.hid (B.out.trans (hb.mono B.out.size))
      have O7 := Lib.hid (HO.out.keep hb (Nat.le_refl _))
      have hz7 := B7.out.size
      have hln := rqTo_len xs k
      have hl8 : (rqTo xs k).length ≤ 8 := by omega
      have h62 : k < 62 := by omega
      have h30 : xs.length ≤ 30 := by omega
      obtain ⟨p, hp⟩ : ∃ p, p = nth (rcL xs) k := ⟨_, rfl⟩
      have HP := Lib.hid hp
      rw [← hp] at hrk ⊢
      obtain ⟨f, hf⟩ : ∃ f, f = full xs.length := ⟨_, rfl⟩
      have F9 := Lib.hid (fun w => fullN_any xs.length h30 w)
      rw [← hf] at hrk F9
      obtain ⟨b, hbb⟩ : ∃ b, b = (p == f) := ⟨_, rfl⟩
      have hbit : bitB r k = b := by rw [hbb]; exact beq_dec hrk
      have HBB := Lib.hid hbb.symm
      have HBI := Lib.hid hbit
      clear hb x0 x0' hln hp hf hrk hbb hbit
      cases b
      all_goals
        have hpf := HBB.out
        go_wp2_with (first | (at_builtin; refine list_app1 rfl _ _ rfl w6.heap.size _ (rqTo xs k).length _ rfl (show World.ownsRow _ _ _ 1 _ (rqTo xs k).length _ from World.ownsRow.alloc O7.out _) ⟨w7.heap.size, 0, none⟩ 1 _ rfl (World.cell?_alloc_at _ _ _ _ rfl) (by omega) (by simp; omega) ?_; intro v' w1' hown1 hgr1; have hbel := Lib.hid (below_app B7.out ((Below.refl _ _).alloc hz7 _) hz7 O7.out hgr1); obtain ⟨mt, m0, m0'⟩ := X.out.keep (T6.out.trans (hbel.out.mono T6.out.size))) | (go_at_call 22; refine (F9.out _).mono ?_; rintro e w' ⟨rfl, rfl⟩) | (go_at_call 23; refine (bit9_is _ k _ _ h62 HBI.out).mono ?_; rintro e w' ⟨rfl, rfl⟩))
        clear hgr1
        go_roundw
        case rel => exact ⟨k + 1, hlt, by go_num, Lib.hid (own_app (by rw [rqTo, ← HP.out]) hown1), hbel⟩
        case measure => simp [intOf]; omega
    · obtain rfl : k = xs.length := by omega
      obtain ⟨aq, cq, rfl, hat⟩ := At_Own HO.out
      rw [rqTo_len] at hat
      have Q := Lib.hid hat
      rw [rqTo_len]
      have CE := Lib.hid (C7.out.keep B.out (Nat.le_refl _))
      have DE := Lib.hid (D6.out.keep B.out (Nat.le_refl _))
      have BE := Lib.hid (B2.out.trans (T7.out.mono B2.out.size))
      have h62 : xs.length < 62 := by omega
      clear hat
      go_wp2
      go_loopw [16] (fun i wo => ∃ k u : Nat, k ≤ xs.length ∧ i = .int .i64 k ∧ wo = wr.drewN u) (fun i _ => xs.length - (intOf i).toNat)
      case atStart => exact ⟨0, 0, Nat.zero_le _, rfl, rfl⟩
      case round =>
        obtain ⟨k, u, hk, rfl, rfl⟩ := hrel
        by_cases hlt : k < xs.length
        · go_wp2
          go_loopw [17] (fun i wo => ∃ j u : Nat, j ≤ xs.length ∧ i = .int .i64 j ∧ wo = wr.drewN u) (fun i _ => xs.length - (intOf i).toNat)
          case atStart => exact ⟨0, u, Nat.zero_le _, rfl, rfl⟩
          case round =>
            obtain ⟨j, t, hj, rfl, rfl⟩ := hrel
            by_cases hlj : j < xs.length
            · obtain ⟨b1, o1, rfl, -, c1⟩ := Q.out.2.resolve_left (by omega)
              obtain ⟨b2, o2, rfl, -, c2⟩ := CE.out.2.resolve_left (by omega)
              obtain ⟨b3, o3, rfl, -, c3⟩ := DE.out.2.resolve_left (by omega)
              have q1 := c1 k hlt
              have q2 := c1 j hlj
              rw [rqTo_tab, tab_nth _ _ _ hlt] at q1
              rw [rqTo_tab, tab_nth _ _ _ hlj] at q2
              have k1 := c2 k hlt
              have k2 := c2 j hlj
              have d1 := c3 k hlt
              have d2 := c3 j hlj
              rw [dpL, tab_nth _ _ _ hlt] at d1
              rw [dpL, tab_nth _ _ _ hlj] at d2
              have m0 := CL.out k j hlt hlj
              have m1 := DU.out k j hlt hlj
              have m2 := DM.out k j hlt hlj
              have hj62 : j < 62 := by omega
              have hk62 : k < 62 := by omega
              obtain ⟨p, hp⟩ : ∃ p, p = nth (rcL xs) k := ⟨_, rfl⟩
              obtain ⟨q, hq⟩ : ∃ p, p = nth (rcL xs) j := ⟨_, rfl⟩
              obtain ⟨x, hx⟩ : ∃ p, p = nth (ckL xs) k := ⟨_, rfl⟩
              obtain ⟨y, hy⟩ : ∃ p, p = nth (ckL xs) j := ⟨_, rfl⟩
              obtain ⟨dx, hdx⟩ : ∃ p, p = dp xs k := ⟨_, rfl⟩
              obtain ⟨dy, hdy⟩ : ∃ p, p = dp xs j := ⟨_, rfl⟩
              rw [← hp] at q1 m0 m1 m2
              rw [← hq] at q2 m0 m1 m2
              rw [← hx] at k1 m0
              rw [← hy] at k2 m0
              rw [← hdx] at d1 m1 m2
              rw [← hdy] at d2 m1 m2
              clear c1 c2 c3 hp hq hx hy hdx hdy
              have hk9 : (k : Int) < (xs.length : Int) := by omega
              have hj9 : (j : Int) < (xs.length : Int) := by omega
              cases e1 : bitB p j
              · rw [e1] at m0
                have E1 := Lib.hid e1
                have hxy : (x == y) = false := by simpa using m0
                clear e1 m0 m1 m2
                go_wp2_with (go_at_call 23; refine (bit9_is p j _ _ hj62 E1.out).mono ?_; rintro e w' ⟨rfl, rfl⟩)
                go_quiet ((go_at_call 23; exact q_same (bit9_is p j _ _ hj62 E1.out) rfl))
                go_wp2
                go_roundw
                case rel => exact ⟨j + 1, _, hlj, by go_num, by first | rfl | rw [World.drewN_drewN]⟩
                case measure => simp [intOf]; omega
              · cases e2 : bitB q k
                · rw [e1, e2] at m0
                  have E1 := Lib.hid e1
                  have E2 := Lib.hid e2
                  have hxy : (x == y) = false := by simpa using m0
                  have hle : decide (dx ≤ dy) = false := by have := m1 e1 e2; simp; omega
                  clear e1 e2 m0 m1 m2
                  go_wp2_with (first | (go_at_call_of 23 p; refine (bit9_is p j _ _ hj62 E1.out).mono ?_; rintro e w' ⟨rfl, rfl⟩) | (go_at_call_of 23 q; refine (bit9_is q k _ _ hk62 E2.out).mono ?_; rintro e w' ⟨rfl, rfl⟩))
                  go_quiet ((go_at_call 23; exact q_same (bit9_is p j _ _ hj62 E1.out) rfl))
                  go_wp2
                  go_roundw
                  case rel => exact ⟨j + 1, _, hlj, by go_num, by first | rfl | rw [World.drewN_drewN]⟩
                  case measure => simp [intOf]; omega
                · rw [e1, e2] at m0
                  have E1 := Lib.hid e1
                  have E2 := Lib.hid e2
                  have hxy : (x == y) = true := by simpa using m0
                  have hdd : (dx != dy) = false := by have := m2 e1 e2; simp [this]
                  clear e1 e2 m0 m1 m2
                  go_wp2_with (first | (go_at_call_of 23 p; refine (bit9_is p j _ _ hj62 E1.out).mono ?_; rintro e w' ⟨rfl, rfl⟩) | (go_at_call_of 23 q; refine (bit9_is q k _ _ hk62 E2.out).mono ?_; rintro e w' ⟨rfl, rfl⟩))
                  go_quiet ((go_at_call 23; exact q_same (bit9_is p j _ _ hj62 E1.out) rfl))
                  go_wp2
                  go_roundw
                  case rel => exact ⟨j + 1, _, hlj, by go_num, by first | rfl | rw [World.drewN_drewN]⟩
                  case measure => simp [intOf]; omega
            · obtain rfl : j = xs.length := by omega
              go_wp2
              go_roundw
              case rel => exact ⟨k + 1, t, hlt, by go_num, rfl⟩
              case measure => simp [intOf]; omega
        · obtain rfl : k = xs.length := by omega
          go_wp2
          go_ret
          exact ⟨rfl, below_drewN BE.out u⟩

end Go.Proofs.Ytckilaeolkgnkaa
