/- Contracts of the model's functions over congruences. Conditions: those in the theorems. -/
import Derived.Test.YtecjmibnoldpgaaCgM
import Derived.Test.YtecjmibnoldpgaaMrS
namespace Go.Proofs.Ytecjmibnoldpgaa
open Go.RowKit

noncomputable def odB (n : Int) (ls : List Int) : Bool := decide ((ls.length : Int) = n) && nmB ls
noncomputable def cgK (n : Int) (xs ls : List Int) : Bool := odB n ls && cgO ls xs ls.length
theorem odB_no {n : Int} {ls : List Int} (h : ¬ (ls.length : Int) = n) : odB n ls = false := by rw [odB, decide_eq_false h]; rfl
theorem odB_of {n : Int} {ls : List Int} (h : (ls.length : Int) = n) : odB n ls = nmB ls := by rw [odB, decide_eq_true h]; rfl

set_option maxHeartbeats 1000000 in
theorem l08Ordered_any (n : Int) (ls : List Int) (a : Option Addr) (len cap : Nat) (al : Option Addr) (cl : Nat) (w : World) (hll : ls.length ≤ 1048576) (hL : At w al ls.length ls) :
    Calls Try.prog 83 #[.agg #[.int .i64 n, .slice a len cap], .slice al ls.length cl] w fun e w' => e = .returned (.bool (odB n ls)) ∧ Below w.heap.size w w' := by
  have HB := Lib.hid (boxF (w := w) n a len cap)
  have HL := Lib.hid (hL.keep HB.out (Nat.le_refl _))
  clear hL
  by_cases h : (ls.length : Int) = n
  · have E := Lib.hid (odB_of h)
    have hb1 : ((ls.length : Int) == n) = true := by simpa using h
    have hb2 : ((ls.length : Int) != n) = false := by simpa using h
    clear h
    obtain ⟨N, hN⟩ : ∃ N, N = ls.length := ⟨_, rfl⟩
    have HN := Lib.hid hN
    rw [← hN] at HL hb1 hb2 hll ⊢
    clear hN
    go_enter Try.func83, Try.ntmps83
    go_wp2
    clear hb1 hb2
    go_loop [5, 6] (fun t i => ∃ k c : Nat, k ≤ N ∧ i = .int .i64 k ∧ t = .int .i64 c ∧ c ≤ k ∧ Hid (AgK ls k ∧ c = (stF (lbI ls) k).1)) (fun _ i => N - (intOf i).toNat)
    case atStart => exact ⟨0, 0, Nat.zero_le _, rfl, rfl, Nat.le_refl _, Lib.hid ⟨fun i h => absurd h (by omega), rfl⟩⟩
    case round =>
      obtain ⟨k, c, hk, rfl, rfl, hck, A⟩ := hrel
      by_cases hlt : k < N
      · obtain ⟨b, off, rfl, hb, hc⟩ := HL.out.2.resolve_left (by omega)
        have hcell := hc k hlt
        obtain ⟨z, hz⟩ : ∃ z, z = nth ls k := ⟨_, rfl⟩
        rw [← hz] at hcell
        have Z := Lib.hid hz
        clear hc hz
        cases hi : inB z 0 c
        · have HI := Lib.hid hi
          have NO := Lib.hid (show nmB ls = false from by
            cases e : nmB ls
            · rfl
            · have g := (nmB_ag.1 e) k (by rw [← HN.out]; exact hlt)
              have := (ag_next A.out.1).1 g
              rw [← Z.out, ← A.out.2] at this
              rw [inB, decide_eq_true this.1, decide_eq_true this.2] at hi
              cases hi)
          clear hi
          go_wp2_with (go_at_call 65; refine (l01In_any _ _ _ _).mono ?_; rw [HI.out]; rintro e w' ⟨rfl, rfl⟩)
          go_ret
          exact ⟨ret_bool (E.out.trans NO.out).symm, HB.out⟩
        · have HI := Lib.hid hi
          have NX := Lib.hid (show AgK ls (k + 1) from A.out.1.up ((ag_next A.out.1).2 (by
            have h2 : 0 ≤ z ∧ z ≤ c := by simpa [inB] using hi
            rw [← Z.out, ← A.out.2]; exact h2)))
          have TP := Lib.hid (ag_top NX.out)
          have hzc : z ≤ c := by have h2 : 0 ≤ z ∧ z ≤ c := by simpa [inB] using hi
                                 exact h2.2
          by_cases ez : z = (c : Int)
          · have e1 : (z == (c : Int)) = true := by simpa using ez
            have T1 := Lib.hid (show c + 1 = (stF (lbI ls) (k + 1)).1 by rw [TP.out, ← Z.out, ← A.out.2, if_pos ez])
            clear hi ez hzc
            go_wp2_with (go_at_call 65; refine (l01In_any _ _ _ _).mono ?_; rw [HI.out]; rintro e w' ⟨rfl, rfl⟩)
            go_round
            case rel => exact ⟨k + 1, c + 1, hlt, by go_num, by go_num, by omega, Lib.hid ⟨NX.out, T1.out⟩⟩
            case measure => simp [intOf]; omega
          · have e1 : (z == (c : Int)) = false := by simpa using ez
            have T1 := Lib.hid (show c = (stF (lbI ls) (k + 1)).1 by rw [TP.out, ← Z.out, ← A.out.2, if_neg ez])
            clear hi ez hzc
            go_wp2_with (go_at_call 65; refine (l01In_any _ _ _ _).mono ?_; rw [HI.out]; rintro e w' ⟨rfl, rfl⟩)
            go_round
            case rel => exact ⟨k + 1, c, hlt, by go_num, rfl, by omega, Lib.hid ⟨NX.out, T1.out⟩⟩
            case measure => simp [intOf]; omega
      · obtain rfl : k = N := by omega
        have YES := Lib.hid (show nmB ls = true from nmB_ag.2 (by rw [← HN.out]; exact A.out.1))
        go_wp2
        go_ret
        exact ⟨ret_bool (E.out.trans YES.out).symm, HB.out⟩
  · have E := Lib.hid (odB_no h)
    have hb1 : ((ls.length : Int) == n) = false := by simpa using h
    have hb2 : ((ls.length : Int) != n) = true := by simpa using h
    clear h
    go_enter Try.func83, Try.ntmps83
    go_wp2
    go_ret
    exact ⟨ret_bool E.out.symm, HB.out⟩

set_option maxHeartbeats 4000000 in
set_option maxRecDepth 100000 in
theorem l08Congruence_any (n : Int) (xs ls : List Int) (a : Option Addr) (cap : Nat) (al : Option Addr) (cl : Nat) (w : World) (hf : frB n xs = true) (hll : ls.length ≤ 1048576) (h : At w a xs.length xs) (hL : At w al ls.length ls) :
    Calls Try.prog 59 #[.agg #[.int .i64 n, .slice a xs.length cap], .slice al ls.length cl] w fun e w' => e = .returned (.bool (cgK n xs ls)) ∧ Below w.heap.size w w' := by
  obtain ⟨W, hW, HB, X, hWs⟩ : ∃ W : World, W = w.alloc (.cells #[.int .i64 n, .slice a xs.length cap] 28) ∧ Hid (Below w.heap.size w W) ∧ Hid (Bx W w.heap.size n a xs.length cap) ∧ Hid (W.heap.size = w.heap.size + 1) := ⟨_, rfl, Lib.hid (alloc_keep _ _).1, Lib.hid (Bx.new _ _ _ _ _ _), Lib.hid (by simp)⟩
  have H := Lib.hid (h.keep HB.out (Nat.le_refl _))
  have HL := Lib.hid (hL.keep HB.out (Nat.le_refl _))
  have OD := Lib.hid (l08Ordered_any n ls a xs.length cap al cl W hll HL.out)
  have HW := Lib.hid hW
  obtain ⟨hn, x8, -, -⟩ := frB_ok hf
  have hn' := Lib.hid hn
  clear h hL hW hn hf
  obtain ⟨lt, x0, x1⟩ := X.out
  cases ho : odB n ls
  · have F := Lib.hid ho
    have C := Lib.hid (show cgK n xs ls = false by rw [cgK, ho]; rfl)
    clear ho
    go_enter Try.func59, Try.ntmps59
    go_wp2_with fail
    rw [← HW.out]
    refine OD.out.mono ?_
    rw [F.out]
    rintro e w1 ⟨rfl, hb⟩
    have T1 := Lib.hid hb
    clear hb lt x0 x1
    go_wp2
    go_ret
    exact ⟨ret_bool C.out.symm, HB.out.trans (T1.out.mono HB.out.size)⟩
  · have F := Lib.hid ho
    have C := Lib.hid (show cgK n xs ls = cgO ls xs ls.length by rw [cgK, ho]; rfl)
    have ho2 := ho
    rw [odB, Bool.and_eq_true, decide_eq_true_eq] at ho2
    obtain ⟨hlx, hnm⟩ := ho2
    have hq := nm_cq hnm
    have HX := Lib.hid (show ls.length = xs.length by have := hn'.out; omega)
    have l30 : ls.length ≤ 30 := by have := hn'.out; omega
    have IM := Lib.hid (fun q w (hat : At w al ls.length ls) => l08Image_any ls q al cl w l30 (fun i => ⟨(hq.b30 i).1, by have := (hq.b30 i).2; have := hq.mn; omega⟩) hat)
    clear ho hlx hnm hq
    go_enter Try.func59, Try.ntmps59
    go_wp2_with fail
    rw [← HW.out]
    refine OD.out.mono ?_
    rw [F.out]
    rintro e w1 ⟨rfl, hb⟩
    have T1 := Lib.hid hb
    clear hb lt x0 x1
    go_wp2
    go_loopw [5] (fun i wr => ∃ k : Nat, k ≤ ls.length ∧ i = .int .i64 k ∧ Hid (cgO ls xs k = true) ∧ Hid (Below W.heap.size W wr)) (fun i _ => ls.length - (intOf i).toNat)
    case atStart => exact ⟨0, Nat.zero_le _, rfl, Lib.hid rfl, T1⟩
    case round =>
      obtain ⟨k, hk, rfl, G, B⟩ := hrel
      by_cases hlt : k < ls.length
      · go_wp2
        go_loopw [6] (fun i wq => ∃ j q : Nat, j ≤ k ∧ i = .int .i64 j ∧ Hid (cgI ls xs k j = true) ∧ wq = wr.drewN q) (fun i _ => k - (intOf i).toNat)
        case atStart => exact ⟨0, 0, Nat.zero_le _, rfl, Lib.hid rfl, rfl⟩
        case round =>
          obtain ⟨j, q, hj, rfl, I, rfl⟩ := hrel
          by_cases hjt : j < k
          · have AL := Lib.hid (HL.out.keep B.out (Nat.le_refl _))
            obtain ⟨b, off, rfl, hb, hc⟩ := AL.out.2.resolve_left (by omega)
            obtain ⟨b0, o0, rfl, hb0, hc0⟩ := (H.out.keep B.out (Nat.le_refl _)).2.resolve_left (by have := HX.out; omega)
            have g1 := hc k hlt
            have g2 := hc j (by omega)
            have g3 := hc0 k (by have := HX.out; omega)
            have g4 := hc0 j (by have := HX.out; omega)
            have l1 : (k : Int) < (ls.length : Int) := by omega
            have l2 : (j : Int) < (ls.length : Int) := by omega
            have l3 : (k : Int) < (xs.length : Int) := by have := HX.out; omega
            have l4 : (j : Int) < (xs.length : Int) := by have := HX.out; omega
            obtain ⟨lt, x0, x1⟩ := X.out.keep B.out
            obtain ⟨p, hp⟩ : ∃ p, p = nth ls k := ⟨_, rfl⟩
            obtain ⟨r, hr⟩ : ∃ r, r = nth ls j := ⟨_, rfl⟩
            obtain ⟨zx, hzx⟩ : ∃ z, z = nth xs k := ⟨_, rfl⟩
            obtain ⟨zy, hzy⟩ : ∃ z, z = nth xs j := ⟨_, rfl⟩
            rw [← hp] at g1
            rw [← hr] at g2
            rw [← hzx] at g3
            rw [← hzy] at g4
            have AQ := Lib.hid (fun q => AL.out.keep (below_drewN (Below.refl wr.heap.size wr) q) (Nat.le_refl _))
            have ST := Lib.hid (show ∀ z, (p == r && !(coTo ls zx ls.length == coTo ls zy ls.length)) = z → cgI ls xs k (j + 1) = !z from fun z e => by rw [cgI, I.out, ciF, ciF, ← hp, ← hr, ← hzx, ← hzy, e]; rfl)
            clear hc hc0 hp hr hzx hzy
            cases e1 : (p == r)
            · have SN := Lib.hid (ST.out false (by rw [e1]; rfl))
              go_wp2
              go_quiet (fail)
              go_wp2
              go_roundw
              case rel => exact ⟨j + 1, _, hjt, by go_num, Lib.hid SN.out, rfl⟩
              case measure => simp [intOf]; omega
            · obtain ⟨u, hu⟩ : ∃ u, u = coTo ls zx ls.length := ⟨_, rfl⟩
              obtain ⟨v, hv⟩ : ∃ v, v = coTo ls zy ls.length := ⟨_, rfl⟩
              have IU := Lib.hid (fun w hat => (IM.out zx w hat).mono fun e w' h => (show e = .returned (.int .i64 u) ∧ w = w' from ⟨by rw [hu]; exact h.1, h.2⟩))
              have IV := Lib.hid (fun w hat => (IM.out zy w hat).mono fun e w' h => (show e = .returned (.int .i64 v) ∧ w = w' from ⟨by rw [hv]; exact h.1, h.2⟩))
              cases e2 : (u == v)
              · have e3 : (u != v) = !(u == v) := rfl
                rw [e2] at e3
                have SN := Lib.hid (show cgI ls xs k (j + 1) = false from ST.out true (by rw [e1, ← hu, ← hv, e2]; rfl))
                clear hu hv
                go_wp2
                go_quiet ((first | (go_at_call_of 74 zx; exact q_same (IU.out _ (AQ.out _)) rfl) | (go_at_call_of 74 zy; exact q_same (IV.out _ (AQ.out _)) rfl)))
                go_wp2
                go_ret
                exact ⟨ret_bool (C.out.trans (cgO_false (k := k + 1) hlt (by rw [cgO, cgI_false (k := j + 1) hjt SN.out, Bool.and_false]))).symm, below_drewN (below_drewN (HB.out.trans (B.out.mono HB.out.size)) _) _⟩
              · have e3 : (u != v) = !(u == v) := rfl
                rw [e2] at e3
                have SN := Lib.hid (show cgI ls xs k (j + 1) = true from ST.out false (by rw [e1, ← hu, ← hv, e2]; rfl))
                clear hu hv
                go_wp2
                go_quiet ((first | (go_at_call_of 74 zx; exact q_same (IU.out _ (AQ.out _)) rfl) | (go_at_call_of 74 zy; exact q_same (IV.out _ (AQ.out _)) rfl)))
                go_wp2
                go_roundw
                case rel => exact ⟨j + 1, _, hjt, by go_num, Lib.hid SN.out, rfl⟩
                case measure => simp [intOf]; omega
          · obtain rfl : j = k := by omega
            go_wp2
            go_roundw
            case rel => exact ⟨j + 1, hlt, by go_num, Lib.hid (by rw [cgO, G.out, I.out]; rfl), Lib.hid (below_drewN B.out _)⟩
            case measure => simp [intOf]; omega
      · obtain rfl : k = ls.length := by omega
        go_wp2
        go_ret
        exact ⟨ret_bool (C.out.trans G.out).symm, HB.out.trans (B.out.mono HB.out.size)⟩

end Go.Proofs.Ytecjmibnoldpgaa
