/- Contracts of ProductFrames of the program, and in value form. Conditions: those in the theorems. -/
import Derived.Test.YtkpbcpkapjnchaaPd
namespace Go.Proofs.Ytkpbcpkapjnchaa
open Go.RowKit

set_option maxHeartbeats 2000000 in
set_option maxRecDepth 100000 in
theorem implProductFrames_any (n0 n1 : Int) (xs ys : List Int) (a0 a1 : Option Addr) (l0 c0 l1 c1 : Nat) (w : World) (hl0 : l0 ≤ 1048576) (hl1 : l1 ≤ 1048576) (h0 : At w a0 l0 xs) (h1 : At w a1 l1 ys) :
    Calls Try.prog 32 #[.agg #[.int .i64 n0, .slice a0 l0 c0], .agg #[.int .i64 n1, .slice a1 l1 c1]] w fun e w' => RF w' w.heap.size (pdV n0 xs n1 ys).length (pdC n0 xs n1 ys) (pdV n0 xs n1 ys) e ∧ Below w.heap.size w w' := by
  obtain ⟨W, hW, HB, X0, X1, Z, hWs⟩ := boxFF w n0 n1 a0 a1 l0 c0 l1 c1
  have hz0 : w.heap.size + 1 + 1 + 1 ≤ W.heap.size := by omega
  obtain ⟨V, hV, bV, hVs, d0, d1, d2, d3⟩ := cells4 W n0 n1 a0 a1 l0 c0 l1 c1
  have H0 := Lib.hid ((h0.keep HB.out (Nat.le_refl _)).keep bV (Nat.le_refl _))
  have H1 := Lib.hid ((h1.keep HB.out (Nat.le_refl _)).keep bV (Nat.le_refl _))
  rw [hWs] at hVs d0 d1 d2 d3
  have AF := Lib.hid (fun (hl0 : l0 ≤ 1048576) (hl1 : l1 ≤ 1048576) => areFrames2_any n0 n1 xs ys a0 a1 l0 c0 l1 c1 (w.heap.size + 1 + 1 + 1) V hl0 hl1 H0.out H1.out hVs d0 d1 d2 d3)
  have BV := Lib.hid (HB.out.trans (bV.mono HB.out.size))
  have ZV := Lib.hid (Z.out.keep bV)
  have X0V := Lib.hid (X0.out.keep bV)
  have X1V := Lib.hid (X1.out.keep bV)
  obtain rfl := h0.1
  obtain rfl := h1.1
  clear h0 h1 hWs d0 d1 d2 d3 bV X0 X1 Z HB
  have HW := Lib.hid hW
  have HV := Lib.hid hV
  clear hW hV
  cases hf : (frB n0 xs && frB n1 ys)
  · have F := Lib.hid hf
    have C := Lib.hid (pdC_1 hf)
    have L := Lib.hid (show pdV n0 xs n1 ys = [] by rw [pdV, C.out]; rfl)
    clear hf
    go_enter Try.func32, Try.ntmps32
    go_wp2_with fail
    rw [← HW.out, ← HV.out]
    refine (AF.out hl0 hl1).mono ?_
    rw [F.out]
    rintro e w1 ⟨rfl, hb⟩
    have B1 := Lib.hid (BV.out.trans (hb.mono BV.out.size))
    obtain ⟨lt, z0, z1, z2, z3⟩ := ZV.out.keep hb
    clear hb
    go_wp2
    exact bodyPost_ret (v := .tuple #[.agg #[.int .i64 0, .slice none 0 0], .int .i64 1]) (by simp [results, Try.results32, go_sem, z0, z1]) rfl ⟨RF.bad C.out (by rw [L.out]; rfl) L.out, (B1.out.setCell (by show _ ≤ _; simp; omega) _).setCell (by show _ ≤ _; simp; omega) _⟩
  · have hf2 := hf
    rw [Bool.and_eq_true] at hf2
    obtain ⟨rfl, h80, -, -⟩ := frB_ok hf2.1
    obtain ⟨rfl, h81, -, -⟩ := frB_ok hf2.2
    have hm1 : xs.length * ys.length ≤ 64 := Nat.mul_le_mul h80 h81
    have hm2 : (xs.length : Int) * (ys.length : Int) ≤ 64 := by exact_mod_cast hm1
    have hm3 : 0 ≤ (xs.length : Int) * (ys.length : Int) := by exact_mod_cast Nat.zero_le _
    have F := Lib.hid hf
    clear hf2
    by_cases h8 : 8 < xs.length * ys.length
    · have C := Lib.hid (pdC_3 hf h8)
      have L := Lib.hid (show pdV xs.length xs ys.length ys = [] by rw [pdV, C.out]; rfl)
      have h8' : decide (8 < (xs.length : Int) * (ys.length : Int)) = true := decide_eq_true (by exact_mod_cast h8)
      clear hf hm1 h8
      go_enter Try.func32, Try.ntmps32
      go_wp2_with fail
      rw [← HW.out, ← HV.out]
      refine (AF.out hl0 hl1).mono ?_
      rw [F.out]
      rintro e w1 ⟨rfl, hb⟩
      have B1 := Lib.hid (BV.out.trans (hb.mono BV.out.size))
      obtain ⟨lt, z0, z1, z2, z3⟩ := ZV.out.keep hb
      obtain ⟨lt, x0, x0'⟩ := X0V.out.keep hb
      obtain ⟨lt, x1, x1'⟩ := X1V.out.keep hb
      clear hb
      go_wp2
      exact bodyPost_ret (v := .tuple #[.agg #[.int .i64 0, .slice none 0 0], .int .i64 3]) (by simp [results, Try.results32, go_sem, z0, z1]) rfl ⟨RF.bad C.out (by rw [L.out]; rfl) L.out, (B1.out.setCell (by show _ ≤ _; simp; omega) _).setCell (by show _ ≤ _; simp; omega) _⟩
    · have C := Lib.hid (pdC_0 hf h8)
      have L := Lib.hid (show pdV xs.length xs ys.length ys = pdL xs ys xs.length 0 by rw [pdV, C.out]; rfl)
      have h8' : decide (8 < (xs.length : Int) * (ys.length : Int)) = false := decide_eq_false (by intro h; exact h8 (by exact_mod_cast h))
      have M8 := Lib.hid (show xs.length * ys.length ≤ 8 by omega)
      clear hf hm1 h8
      go_enter Try.func32, Try.ntmps32
      go_wp2_with fail
      rw [← HW.out, ← HV.out]
      refine (AF.out hl0 hl1).mono ?_
      rw [F.out]
      rintro e w2 ⟨rfl, hb⟩
      have B2 := Lib.hid (BV.out.trans (hb.mono BV.out.size))
      have Z2 := Lib.hid (ZV.out.keep hb)
      have H02 := Lib.hid (H0.out.keep hb (Nat.le_refl _))
      have H12 := Lib.hid (H1.out.keep hb (Nat.le_refl _))
      have X02 := Lib.hid (X0V.out.keep hb)
      have X12 := Lib.hid (X1V.out.keep hb)
      have hz2 : w.heap.size + 1 + 1 + 1 ≤ w2.heap.size := by have := hb.size; omega
      obtain ⟨lt, x0, x0'⟩ := X02.out
      obtain ⟨lt', x1, x1'⟩ := X12.out
      clear hb
      go_wp2
      clear x0 x0' x1 x1' h8' hm2 hm3 lt lt'
      go_loopw [6, 29] (fun v i wr => ∃ x : Nat, x ≤ xs.length ∧ i = .int .i64 x ∧ wr.ownsRow w2.heap.size 2 1 v (pdL xs ys x 0).length ((pdL xs ys x 0).map (Value.int .i64)) ∧ Hid (Below w2.heap.size w2 wr)) (fun _ i _ => xs.length - (intOf i).toNat)
      case atStart => exact ⟨0, Nat.zero_le _, rfl, World.ownsRow_nil _ _ _ _, Lib.hid (Below.refl _ _)⟩
      case round =>
        obtain ⟨x, hx, rfl, hown, B⟩ := hrel
        have HO := Lib.hid hown
        clear hown
        by_cases hlt : x < xs.length
        · obtain ⟨lt', x1, x1'⟩ := X12.out.keep B.out
          obtain ⟨b, off, rfl, hb, hc⟩ := (H02.out.keep B.out (Nat.le_refl _)).2.resolve_left (by omega)
          have hcx := hc x hlt
          obtain ⟨wo, rfl⟩ : ∃ wo : World, wo = wr := ⟨_, rfl⟩
          clear hc
          go_wp2
          clear x1 x1' lt' hcx
          go_loopw [6, 36] (fun v i wr => ∃ y : Nat, y ≤ ys.length ∧ i = .int .i64 y ∧ wr.ownsRow w2.heap.size 2 1 v (pdL xs ys x y).length ((pdL xs ys x y).map (Value.int .i64)) ∧ Hid (Below w2.heap.size w2 wr)) (fun _ i _ => ys.length - (intOf i).toNat)
          case atStart => exact ⟨0, Nat.zero_le _, rfl, HO.out, B⟩
          case round =>
            obtain ⟨y, hy, rfl, hown, B5⟩ := hrel
            have HO5 := Lib.hid hown
            clear hown
            by_cases hlty : y < ys.length
            · obtain ⟨lt', x0, x0'⟩ := X02.out.keep B5.out
              obtain ⟨b', off', rfl, -, hc'⟩ := (H12.out.keep B5.out (Nat.le_refl _)).2.resolve_left (by omega)
              have hcy := hc' y hlty
              obtain ⟨wp, rfl⟩ : ∃ wp : World, wp = wr := ⟨_, rfl⟩
              clear hc'
              go_wp2
              clear x0 x0' lt' hcy
              go_loop [11, 43] (fun s i => ∃ z : Nat, z ≤ xs.length ∧ i = .int .i64 z ∧ s = .int .i64 (pdE xs ys x y z)) (fun _ i => xs.length - (intOf i).toNat)
              case atStart => exact ⟨0, Nat.zero_le _, rfl, rfl⟩
              case round =>
                obtain ⟨z, hz, rfl, rfl⟩ := hrel
                by_cases hltz : z < xs.length
                · obtain ⟨lt', x1, x1'⟩ := X12.out.keep B5.out
                  have hz1 := mul_in hltz M8.out
                  have hz3 : (z : Int) * (ys.length : Int) ≤ 8 := by exact_mod_cast hz1
                  have hz4 : 0 ≤ (z : Int) * (ys.length : Int) := by exact_mod_cast Nat.zero_le _
                  have SP := Lib.hid (show ((z : Int) * (ys.length : Int)).toNat = z * ys.length by rw [show ((z : Int) * (ys.length : Int)) = ((z * ys.length : Nat) : Int) by simp, Int.toNat_natCast])
                  clear hz1
                  cases hbit : bitB (nth xs x) z
                  all_goals
                    have HB3 := Lib.hid hbit
                    go_wp2_with (go_at_call 72; refine (hasMember_any _ _ _ (by omega) (by omega)).mono ?_; rintro e w' ⟨rfl, rfl⟩)
                    go_round
                    case rel => exact ⟨z + 1, hltz, by go_num, by first | simp [pdE, HB3.out] | rw [pdE, HB3.out, if_pos rfl, ← SP.out]⟩
                    case measure => simp [intOf]; omega
                · obtain rfl : z = xs.length := by omega
                  have hbd := pdL_bd (xs := xs) (ys := ys) (x := x) (y := y) (by omega) (by omega) h81
                  have hsz := B5.out.size
                  go_wp2_with (at_builtin; refine list_app1 rfl _ _ rfl w2.heap.size _ (pdL xs ys x y).length _ rfl (HO5.out.alloc _) ⟨wp.heap.size, 0, none⟩ 1 _ rfl (World.cell?_alloc_at _ _ _ _ rfl) (by omega) (by simp; omega) ?_; intro v' w1' hown1 hgr1)
                  have hbel := Lib.hid (below_app B5.out ((Below.refl _ _).alloc hsz _) hsz HO5.out hgr1)
                  clear hgr1
                  go_roundw
                  case rel => exact ⟨y + 1, hlty, by go_num, pd_app (pdL_next xs ys x y) hown1, hbel⟩
                  case measure => simp [intOf]; omega
            · obtain rfl : y = ys.length := by omega
              go_wp2
              go_roundw
              case rel => exact ⟨x + 1, hlt, by go_num, by rw [← pdL_row]; exact HO5.out, B5⟩
              case measure => simp [intOf]; omega
        · obtain rfl : x = xs.length := by omega
          have hbd := pdL_bd (xs := xs) (ys := ys) (x := xs.length) (y := 0) h80 (by omega) h81
          have O5 := Lib.hid (show Own wr w2.heap.size _ (pdL xs ys xs.length 0) from HO.out)
          obtain ⟨a5, k5, e5, -, -, -, -⟩ := O5.out.at
          subst e5
          have Z5 := Lib.hid (Z2.out.keep B.out)
          have B6 := Lib.hid (B2.out.trans (B.out.mono B2.out.size))
          have hsz := B.out.size
          go_wp2_with fail
          refine (frameOf_any _ _ _ _ (by omega)).mono ?_
          rintro e w3 ⟨rfl, hb⟩
          obtain ⟨lt, z0, z1, z2, z3⟩ := Z5.out.keep hb
          have B7 := Lib.hid (B6.out.trans (hb.mono B6.out.size))
          have O6 := Lib.hid (OwnF.mk (n := (pdL xs ys xs.length 0).length) (O5.out.keep hb (Nat.le_refl _)))
          clear hb O5
          go_wp2
          exact bodyPost_ret (v := .tuple #[.agg #[.int .i64 (pdL xs ys xs.length 0).length, .slice a5 (pdL xs ys xs.length 0).length k5], .int .i64 0]) (by simp [results, Try.results32, go_sem, z0, z1]) rfl ⟨RF.good C.out (by rw [L.out]) L.out (O6.out.out2 (by omega)) (by omega), (B7.out.setCell (by show _ ≤ _; simp; omega) _).setCell (by show _ ≤ _; simp; omega) _⟩

theorem specProductFrames_v (n0 : Int) (x0 : List Int) (n1 : Int) (x1 : List Int) (v0 : Value) (lo0 hi0 : Nat) (v1 : Value) (lo1 hi1 : Nat) (w : World) (hl0 : x0.length ≤ 1048576) (hl1 : x1.length ≤ 1048576) (h0 : InF w lo0 hi0 v0 n0 x0) (h1 : InF w lo1 hi1 v1 n1 x1) :
    Calls Try.prog 31 #[v0, v1] w fun e w' => ∃ v, e = .returned (.tuple #[v, .int .i64 (pdC n0 x0 n1 x1)]) ∧ OwnF w' w.heap.size v (pdV n0 x0 n1 x1).length (pdV n0 x0 n1 x1) ∧ Below w.heap.size w w' := by
  obtain ⟨a, cap, rfl, hat, -⟩ := h0.at
  obtain ⟨a', cap', rfl, hat', -⟩ := h1.at
  exact (specProductFrames_any n0 n1 x0 x1 a a' _ cap _ cap' w hl0 hl1 hat hat').mono fun e w' ⟨⟨v, e1, o⟩, b⟩ => ⟨v, e1, o, b⟩
theorem implProductFrames_v (n0 : Int) (x0 : List Int) (n1 : Int) (x1 : List Int) (v0 : Value) (lo0 hi0 : Nat) (v1 : Value) (lo1 hi1 : Nat) (w : World) (hl0 : x0.length ≤ 1048576) (hl1 : x1.length ≤ 1048576) (h0 : InF w lo0 hi0 v0 n0 x0) (h1 : InF w lo1 hi1 v1 n1 x1) :
    Calls Try.prog 32 #[v0, v1] w fun e w' => ∃ v, e = .returned (.tuple #[v, .int .i64 (pdC n0 x0 n1 x1)]) ∧ OwnF w' w.heap.size v (pdV n0 x0 n1 x1).length (pdV n0 x0 n1 x1) ∧ Below w.heap.size w w' := by
  obtain ⟨a, cap, rfl, hat, -⟩ := h0.at
  obtain ⟨a', cap', rfl, hat', -⟩ := h1.at
  exact (implProductFrames_any n0 n1 x0 x1 a a' _ cap _ cap' w hl0 hl1 hat hat').mono fun e w' ⟨⟨v, e1, o⟩, b⟩ => ⟨v, e1, o, b⟩

end Go.Proofs.Ytkpbcpkapjnchaa
