/- Contracts of the model's quotients. Conditions: those in the theorems. -/
import Derived.Test.YtecjmibnoldpgabJn10
import Derived.Test.YtecjmibnoldpgabRf
import Derived.Test.YtecjmibnoldpgabCtP
namespace Go.Proofs.Ytecjmibnoldpgab
open Go.RowKit

theorem OwnM.twoR {w : World} {B g1 g2 m k : Nat} {F G : Nat → Int} (h1 : w.rowIs g1 2 m (fun t => .int .i64 (F t))) (h2 : w.rowIs g2 2 k (fun t => .int .i64 (G t))) (hne : g1 ≠ g2) (hB1 : B ≤ g1) (hB2 : B ≤ g2) (hm : m ≤ 1099511627776) (hk : k ≤ 1099511627776) : OwnM w B (.agg #[.int .i64 m, .slice (some ⟨g1, 0, none⟩) m m, .slice (some ⟨g2, 0, none⟩) k k]) m (tab m F) (tab k G) := by
  refine ⟨rfl, own_of_row hB1 hm h1, own_of_row hB2 hk h2, fun q e1 e2 => ?_⟩
  cases e1
  cases e2
  exact hne rfl

set_option maxHeartbeats 8000000 in
set_option maxRecDepth 100000 in
theorem l07Quotient_any (cs xs ys : List Int) (n m : Nat) (a : Option Addr) (cap : Nat) (b : Option Addr) (d : Nat) (ac : Option Addr) (cc : Nat) (w : World) (hq : Cq cs n m) (hn : n ≤ 8) (hy : ys.length ≤ 30) (hx : ∀ i, InMk n (nth xs i)) (h : At w a n xs) (h' : At w b ys.length ys) (h'' : At w ac n cs) :
    Calls Try.prog 52 #[.agg #[.int .i64 n, .slice a n cap, .slice b ys.length d], .slice ac n cc] w fun e w' => ∃ v, e = .returned v ∧ OwnM w' w.heap.size v m (tab m (qaF cs xs n n)) (tab ys.length (fun v => coTo cs (nth ys v) n)) ∧ Below w.heap.size w w' := by
  obtain ⟨W, hW, HB, X, Z, hWs⟩ := boxM2 w n a n cap b ys.length d
  have H := Lib.hid (h.keep HB.out (Nat.le_refl _))
  have H' := Lib.hid (h'.keep HB.out (Nat.le_refl _))
  have H2 := Lib.hid (h''.keep HB.out (Nat.le_refl _))
  have hm8 : m ≤ 8 := by have := hq.mn; omega
  have hmk := fun (W : World) => run_make_row' (P := Try.prog) 22 2 (.int .i64 0) 8 Try.underlying22 info64 rfl .i64 .i64 m (by omega) (by omega) W
  have hmk2 := fun (W : World) => run_make_row' (P := Try.prog) 22 2 (.int .i64 0) 8 Try.underlying22 info64 rfl .i64 .i64 ys.length (by omega) (by omega) W
  have hz0 : w.heap.size + 1 + 1 ≤ W.heap.size := by omega
  have Q := Lib.hid hq
  have HX := Lib.hid hx
  have HW := Lib.hid hW
  obtain ⟨lt, x0, x1, x2⟩ := X.out
  clear h h' h'' hW hWs hq hx
  go_enter Try.func52, Try.ntmps52
  go_wp2
  rw [← HW.out]
  go_loop [5, 6] (fun c i => ∃ k : Nat, k ≤ n ∧ i = .int .i64 k ∧ c = .int .i64 (mxF cs k)) (fun _ i => n - (intOf i).toNat)
  case atStart => exact ⟨0, Nat.zero_le _, rfl, rfl⟩
  case round =>
    obtain ⟨k, hk, rfl, rfl⟩ := hrel
    by_cases hlt : k < n
    · obtain ⟨cb, co, rfl, hcb, hcc⟩ := H2.out.2.resolve_left (by omega)
      have hck := hcc k hlt
      clear hcc
      have hbk := Q.out.bd k hlt
      have hmx := Q.out.mx_le k hk
      have hmx0 := (mx_ge cs k).1
      have MX := Lib.hid (show mxF cs (k + 1) = (if mxF cs k < nth cs k + 1 then nth cs k + 1 else mxF cs k) from rfl)
      obtain ⟨p, hp⟩ : ∃ p, p = mxF cs k := ⟨_, rfl⟩
      obtain ⟨q, hqq⟩ : ∃ q, q = nth cs k := ⟨_, rfl⟩
      rw [← hp] at hmx hmx0 MX ⊢
      rw [← hqq] at hck hbk MX
      clear hp hqq
      by_cases hc : p < q + 1
      · have E := Lib.hid (MX.out.trans (if_pos hc))
        go_wp2
        go_round
        case rel => exact ⟨k + 1, hlt, by go_num, by rw [E.out]⟩
        case measure => simp [intOf]; omega
      · have E := Lib.hid (MX.out.trans (if_neg hc))
        go_wp2
        go_round
        case rel => exact ⟨k + 1, hlt, by go_num, by rw [E.out]⟩
        case measure => simp [intOf]; omega
    · obtain rfl : k = n := by omega
      rw [Q.out.mx]
      have RR := fun (m1 m2 : Nat) => (show ((W.alloc (.cells (madeCells #[.int .i64 0] m1) 2)).alloc (.cells (madeCells #[.int .i64 0] m2) 2)).rowIs W.heap.size 2 m1 (fun _ => .int .i64 0) ∧ ((W.alloc (.cells (madeCells #[.int .i64 0] m1) 2)).alloc (.cells (madeCells #[.int .i64 0] m2) 2)).rowIs (W.heap.size + 1) 2 m2 (fun _ => .int .i64 0) ∧ Below W.heap.size W ((W.alloc (.cells (madeCells #[.int .i64 0] m1) 2)).alloc (.cells (madeCells #[.int .i64 0] m2) 2)) from
        ⟨rowIs_below (World.rowIs_made _ _ _ _) (alloc_keep _ _).1 (by simp), by
          have q := World.rowIs_made (W.alloc (.cells (madeCells #[.int .i64 0] m1) 2)) (.int .i64 0) m2 2
          rw [show (W.alloc (.cells (madeCells #[.int .i64 0] m1) 2)).heap.size = W.heap.size + 1 by simp] at q
          exact q, ((Below.refl _ _).alloc (Nat.le_refl _) _).alloc (by simp) _⟩)
      have RA := Lib.hid (RR m ys.length)
      have RB := Lib.hid (RR ys.length m)
      clear RR
      go_wp2
      go_cut [7, 8] (fun s7 s8 wx => ∃ g1 g2 : Nat, s7 = .slice (some ⟨g1, 0, none⟩) m m ∧ s8 = .slice (some ⟨g2, 0, none⟩) ys.length ys.length ∧ g1 ≠ g2 ∧ W.heap.size ≤ g1 ∧ W.heap.size ≤ g2 ∧ Hid (wx.rowIs g1 2 m (fun _ => .int .i64 0)) ∧ Hid (wx.rowIs g2 2 ys.length (fun _ => .int .i64 0)) ∧ Hid (Below W.heap.size W wx))
      case first =>
        go_region
        all_goals (try go_wp2_with fail)
        all_goals go_meet
        all_goals first
          | exact ⟨W.heap.size, W.heap.size + 1, rfl, by simp, by omega, by omega, by omega, Lib.hid RA.out.1, Lib.hid RA.out.2.1, Lib.hid (Below.drew RA.out.2.2)⟩
          | exact ⟨W.heap.size + 1, W.heap.size, by simp, rfl, by omega, by omega, by omega, Lib.hid RB.out.2.1, Lib.hid RB.out.1, Lib.hid (Below.drew RB.out.2.2)⟩
      case rest =>
        rename World => wz
        obtain ⟨g1, g2, rfl, rfl, hne, hg1, hg2, R1, R2, T⟩ := hcut
        clear x0 x1 x2 hmk hmk2
        go_wp2
        go_loopw [9] (fun i wr => ∃ x : Nat, x ≤ k ∧ i = .int .i64 x ∧ Hid (wr.rowIs g1 2 m (fun t => .int .i64 (qaF cs xs k x t))) ∧ Hid (wr.rowIs g2 2 ys.length (fun t => .int .i64 (coTo cs (nth ys t) x))) ∧ Hid (Below W.heap.size W wr)) (fun i _ => k - (intOf i).toNat)
        case atStart => exact ⟨0, Nat.zero_le _, rfl, R1, R2, T⟩
        case round =>
          clear R1 R2 T
          obtain ⟨x, hxk, rfl, R1, R2, T⟩ := hrel
          obtain ⟨lt0, x0, x1, x2⟩ := X.out.keep T.out
          by_cases hlt : x < k
          · obtain ⟨j, hj⟩ := Int.eq_ofNat_of_zero_le (Q.out.bd x hlt).1
            have hjm : j < m := by have := (Q.out.bd x hlt).2; omega
            have hjm' : (j : Int) < (m : Int) := by omega
            have J := Lib.hid hj
            clear hj
            go_wp2
            clear x0 x1 x2
            go_loopw [10] (fun i wr => ∃ y : Nat, y ≤ k ∧ i = .int .i64 y ∧ Hid (wr.rowIs g1 2 m (fun t => .int .i64 (qiF cs xs k x y t))) ∧ Hid (wr.rowIs g2 2 ys.length (fun t => .int .i64 (coTo cs (nth ys t) x))) ∧ Hid (Below W.heap.size W wr)) (fun i _ => k - (intOf i).toNat)
            case atStart => exact ⟨0, Nat.zero_le _, rfl, Lib.hid (R1.out.congr fun t _ => by rw [Q.out.qi0 hn HX.out]), R2, T⟩
            case round =>
              clear R1 R2 T
              obtain ⟨y, hyk, rfl, R1, R2, T⟩ := hrel
              obtain ⟨lt0, x0, x1, x2⟩ := X.out.keep T.out
              by_cases hly : y < k
              · obtain ⟨cb, co, rfl, hcb, hcc⟩ := (H2.out.keep T.out (Nat.le_refl _)).2.resolve_left (by omega)
                obtain ⟨xb, xo, rfl, hxb, hxc⟩ := (H.out.keep T.out (Nat.le_refl _)).2.resolve_left (by omega)
                have hcx := hcc x hlt
                rw [J.out] at hcx
                have hcy := hcc y hly
                have hxx := hxc x hlt
                obtain ⟨p, hp⟩ := Int.eq_ofNat_of_zero_le (Q.out.bd y hly).1
                have hpm : p < m := by have := (Q.out.bd y hly).2; omega
                have PP := Lib.hid hp
                rw [hp] at hcy
                have hcg : wr.cell? ⟨g1, j, none⟩ = some (.int .i64 (qiF cs xs k x y j)) := R1.out.cell hjm
                have hfg : wr.frozen? ⟨g1, j, none⟩ = false := R1.out.frozen j
                have hxk' : (x : Int) < (k : Int) := by omega
                have hyk' : (y : Int) < (k : Int) := by omega
                clear hcc hxc hp
                cases hbit : bitB (nth xs x) y
                · have BI := Lib.hid hbit
                  clear hbit
                  go_wp2_with (go_at_call 66; refine (l01Bit_any _ _ _ (by omega) (by omega)).mono ?_; rw [BI.out]; rintro e w' ⟨rfl, rfl⟩)
                  go_roundw
                  case rel => exact ⟨y + 1, hly, by go_num, Lib.hid (R1.out.congr fun t _ => by rw [qi_skip BI.out t]), R2, T⟩
                  case measure => simp [intOf]; omega
                · have BI := Lib.hid hbit
                  have ST := Lib.hid (fun z t hz => Q.out.qi_set hn HX.out (z := z) hly J.out hbit hz t)
                  rw [PP.out] at ST
                  clear hbit
                  go_wp2_with (go_at_call 66; refine (l01Bit_any _ _ _ (by omega) (by omega)).mono ?_; rw [BI.out]; rintro e w' ⟨rfl, rfl⟩)
                  go_region_with (first | (go_at_call 57; refine (l01One_any _ _ (by omega) (by omega)).mono ?_; rintro e w' ⟨rfl, rfl⟩))
                  all_goals
                    go_wp2
                    go_roundw
                    case rel => exact ⟨y + 1, hly, by go_num, Lib.hid (row_setI (show World.rowIs (World.drew _) _ _ _ _ from R1.out) (fun t => ST.out _ t rfl)), Lib.hid (rowIs_grown (show World.rowIs (World.drew _) _ _ _ _ from R2.out) (grown_set _ _ _ _) (by simp; omega)), Lib.hid ((T.out.drew).setCell (p := ⟨g1, j, none⟩) hg1 _)⟩
                    case measure => simp [intOf]; omega
              · obtain rfl : y = k := by omega
                go_wp2
                clear x0 x1 x2
                go_loopw [11] (fun i wr => ∃ v : Nat, v ≤ ys.length ∧ i = .int .i64 v ∧ Hid (wr.rowIs g1 2 m (fun t => .int .i64 (qaF cs xs y (x + 1) t))) ∧ Hid (wr.rowIs g2 2 ys.length (fun t => .int .i64 (qvF cs ys x v t))) ∧ Hid (Below W.heap.size W wr)) (fun i _ => ys.length - (intOf i).toNat)
                case atStart => exact ⟨0, Nat.zero_le _, rfl, R1, Lib.hid (R2.out.congr fun t _ => by unfold qvF; rw [if_neg (by omega)]), T⟩
                case round =>
                  clear R1 R2 T
                  obtain ⟨v, hv, rfl, R1, R2, T⟩ := hrel
                  obtain ⟨lt0, x0, x1, x2⟩ := X.out.keep T.out
                  by_cases hlv : v < ys.length
                  · obtain ⟨cb, co, rfl, hcb, hcc⟩ := (H2.out.keep T.out (Nat.le_refl _)).2.resolve_left (by omega)
                    obtain ⟨yb, yo, rfl, hyb, hyc⟩ := (H'.out.keep T.out (Nat.le_refl _)).2.resolve_left (by omega)
                    have hcx := hcc x hlt
                    rw [J.out] at hcx
                    have hyy := hyc v hlv
                    have hcg : wr.cell? ⟨g2, v, none⟩ = some (.int .i64 (qvF cs ys x v v)) := R2.out.cell hlv
                    have hfg : wr.frozen? ⟨g2, v, none⟩ = false := R2.out.frozen v
                    have hxk' : (x : Int) < (y : Int) := by omega
                    have hvk' : (v : Int) < (ys.length : Int) := by omega
                    clear hcc hyc
                    cases hbit : bitB (nth ys v) x
                    · have BI := Lib.hid hbit
                      clear hbit
                      go_wp2_with (go_at_call 66; refine (l01Bit_any _ _ _ (by omega) (by omega)).mono ?_; rw [BI.out]; rintro e w' ⟨rfl, rfl⟩)
                      go_roundw
                      case rel => exact ⟨v + 1, hlv, by go_num, R1, Lib.hid (R2.out.congr fun t _ => by rw [qv_skip BI.out t]), T⟩
                      case measure => simp [intOf]; omega
                    · have BI := Lib.hid hbit
                      have ST := Lib.hid (fun z t hz => qv_set (cs := cs) (z := z) hbit hz t)
                      rw [J.out] at ST
                      clear hbit
                      go_wp2_with (go_at_call 66; refine (l01Bit_any _ _ _ (by omega) (by omega)).mono ?_; rw [BI.out]; rintro e w' ⟨rfl, rfl⟩)
                      go_region_with (first | (go_at_call 57; refine (l01One_any _ _ (by omega) (by omega)).mono ?_; rintro e w' ⟨rfl, rfl⟩))
                      all_goals
                        go_wp2
                        go_roundw
                        case rel => exact ⟨v + 1, hlv, by go_num, Lib.hid (rowIs_grown (show World.rowIs (World.drew _) _ _ _ _ from R1.out) (grown_set _ _ _ _) (by simp; omega)), Lib.hid (row_setI (show World.rowIs (World.drew _) _ _ _ _ from R2.out) (fun t => ST.out _ t rfl)), Lib.hid ((T.out.drew).setCell (p := ⟨g2, v, none⟩) hg2 _)⟩
                        case measure => simp [intOf]; omega
                  · obtain rfl : v = ys.length := by omega
                    go_wp2
                    clear x0 x1 x2
                    go_roundw
                    case rel => exact ⟨x + 1, hlt, by go_num, R1, Lib.hid (R2.out.congr fun t ht => by unfold qvF; rw [if_pos ht]), T⟩
                    case measure => simp [intOf]; omega
          · obtain rfl : x = k := by omega
            obtain ⟨lt2, z0, z1, z2, z3, z4, z5⟩ := (Z.out.keep T.out).all
            go_wp2
            refine bodyPost_ret (v := .agg #[.int .i64 m, .slice (some ⟨g1, 0, none⟩) m m, .slice (some ⟨g2, 0, none⟩) ys.length ys.length]) (by simp [results, Try.results52, go_sem, z0, z1, z2]) rfl ⟨_, rfl, ?_, (((HB.out.trans (T.out.mono HB.out.size)).setCell (by show _ ≤ _; simp) _).setCell (by show _ ≤ _; simp) _).setCell (by show _ ≤ _; simp) _⟩
            exact ((OwnM.twoR R1.out R2.out hne hg1 hg2 (by omega) (by omega)).out3 (by omega)).mono (by omega)

end Go.Proofs.Ytecjmibnoldpgab
