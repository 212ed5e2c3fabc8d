/- Contracts of ProductFrames, of the model and of the program. Conditions: those in the theorems. -/
import Derived.Test.YtkpbcpkapjnchaaSum
namespace Go.Proofs.Ytkpbcpkapjnchaa
open Go.RowKit

def pdE (xs ys : List Int) (x y : Nat) : Nat → Int
  | 0 => 0
  | z + 1 => if bitB (nth xs x) z then bits .or .i64 (pdE xs ys x y z) (wrap64 (nth ys y * 2 ^ (z * ys.length))) else pdE xs ys x y z
def pdRow (xs ys : List Int) (x : Nat) : Nat → List Int
  | 0 => []
  | y + 1 => pdRow xs ys x y ++ [pdE xs ys x y xs.length]
def pdTo (xs ys : List Int) : Nat → List Int
  | 0 => []
  | x + 1 => pdTo xs ys x ++ pdRow xs ys x ys.length
theorem pdRow_len (xs ys : List Int) (x y : Nat) : (pdRow xs ys x y).length = y := by
  induction y with
  | zero => rfl
  | succ y ih => simp [pdRow, ih]
theorem pdTo_len (xs ys : List Int) (x : Nat) : (pdTo xs ys x).length = x * ys.length := by
  induction x with
  | zero => simp [pdTo]
  | succ x ih => simp [pdTo, ih, pdRow_len, Nat.succ_mul]
def pdL (xs ys : List Int) (x y : Nat) : List Int := pdTo xs ys x ++ pdRow xs ys x y
theorem pdL_len (xs ys : List Int) (x y : Nat) : (pdL xs ys x y).length = x * ys.length + y := by simp [pdL, pdTo_len, pdRow_len]
theorem pdL_bd {xs ys : List Int} {x y : Nat} (hx : x ≤ 8) (hy : y ≤ 8) (h : ys.length ≤ 8) : (pdL xs ys x y).length ≤ 4096 := by
  rw [pdL_len]
  have : x * ys.length ≤ 8 * 8 := Nat.mul_le_mul hx h
  omega
theorem pdL_next (xs ys : List Int) (x y : Nat) : pdL xs ys x (y + 1) = pdL xs ys x y ++ [pdE xs ys x y xs.length] := by simp [pdL, pdRow]
theorem pdL_row (xs ys : List Int) (x : Nat) : pdL xs ys x ys.length = pdL xs ys (x + 1) 0 := by simp [pdL, pdTo, pdRow]
theorem pdL_zero (xs ys : List Int) : pdL xs ys 0 0 = [] := rfl
theorem mul_in {x n m : Nat} (h : x < n) (hm : n * m ≤ 8) : x * m ≤ 8 := Nat.le_trans (Nat.mul_le_mul (Nat.le_of_lt h) (Nat.le_refl m)) hm
theorem wrap64_eq (x : Int) : IntKind.i64.wrap x = wrap64 x := by unfold wrap64; exact IntKind.wrap_i64 _
theorem pd_spell {z m : Nat} (h : z * m ≤ 8) (y : Int) : wrap64 (y * 2 ^ min (IntKind.u64.wrap (wrap64 ((z : Int) * (m : Int)))).toNat 64) = wrap64 (y * 2 ^ (z * m)) := by
  have e : ((z : Int) * (m : Int)) = ((z * m : Nat) : Int) := by simp
  rw [e, ← wrap64_eq ((z * m : Nat) : Int), IntWalk.i64_in ((z * m : Nat) : Int) (by omega), IntWalk.u64_in ((z * m : Nat) : Int) (by omega), Int.toNat_natCast, Nat.min_eq_left (by omega)]
theorem pd_app {w : World} {B : Nat} {v : Value} {L M : List Int} {z : Int} (hL : M = L ++ [z]) (h : w.ownsRow B 2 1 v (L.length + 1) (L.map (Value.int .i64) ++ [.int .i64 z])) : Own w B v M := by
  subst hL
  unfold Own
  rw [List.map_append, List.length_append]
  exact h

def pdC (n0 : Int) (x0 : List Int) (n1 : Int) (x1 : List Int) : Int := if frB n0 x0 && frB n1 x1 then (if 8 < x0.length * x1.length then 3 else 0) else 1
def pdV (n0 : Int) (x0 : List Int) (n1 : Int) (x1 : List Int) : List Int := if pdC n0 x0 n1 x1 = 0 then pdL x0 x1 x0.length 0 else []
theorem pdC_1 {n0 n1 : Int} {x0 x1 : List Int} (h : (frB n0 x0 && frB n1 x1) = false) : pdC n0 x0 n1 x1 = 1 := by rw [pdC, h]; rfl
theorem pdC_3 {n0 n1 : Int} {x0 x1 : List Int} (h : (frB n0 x0 && frB n1 x1) = true) (h2 : 8 < x0.length * x1.length) : pdC n0 x0 n1 x1 = 3 := by rw [pdC, h, if_pos rfl, if_pos h2]
theorem pdC_0 {n0 n1 : Int} {x0 x1 : List Int} (h : (frB n0 x0 && frB n1 x1) = true) (h2 : ¬ 8 < x0.length * x1.length) : pdC n0 x0 n1 x1 = 0 := by rw [pdC, h, if_pos rfl, if_neg h2]

set_option maxHeartbeats 2000000 in
set_option maxRecDepth 100000 in
theorem specProductFrames_any (n0 n1 : Int) (xs ys : List Int) (a0 a1 : Option Addr) (l0 c0 l1 c1 : Nat) (w : World) (hl0 : l0 ≤ 1048576) (hl1 : l1 ≤ 1048576) (h0 : At w a0 l0 xs) (h1 : At w a1 l1 ys) :
    Calls Try.prog 31 #[.agg #[.int .i64 n0, .slice a0 l0 c0], .agg #[.int .i64 n1, .slice a1 l1 c1]] w fun e w' => RF w' w.heap.size (pdV n0 xs n1 ys).length (pdC n0 xs n1 ys) (pdV n0 xs n1 ys) e ∧ Below w.heap.size w w' := by
  obtain ⟨W, hW, HB, X0, X1, Z, hWs⟩ := boxFF w n0 n1 a0 a1 l0 c0 l1 c1
  have H0 := Lib.hid (h0.keep HB.out (Nat.le_refl _))
  have H1 := Lib.hid (h1.keep HB.out (Nat.le_refl _))
  have hz0 : w.heap.size + 1 + 1 + 1 ≤ W.heap.size := by omega
  obtain rfl := h0.1
  obtain rfl := h1.1
  clear h0 h1 hWs
  have HW := Lib.hid hW
  clear hW
  cases hf0 : frB n0 xs
  · have F0 := Lib.hid hf0
    have C := Lib.hid (pdC_1 (x1 := ys) (n1 := n1) (show (frB n0 xs && frB n1 ys) = false by rw [hf0]; rfl))
    have L := Lib.hid (show pdV n0 xs n1 ys = [] by rw [pdV, C.out]; rfl)
    clear hf0
    go_enter Try.func31, Try.ntmps31
    go_wp2_with fail
    rw [← HW.out]
    refine (l05Is_any n0 xs _ _ _ _ hl0 H0.out).mono ?_
    rw [F0.out]
    rintro e w1 ⟨rfl, hb⟩
    have B1 := Lib.hid (HB.out.trans (hb.mono HB.out.size))
    obtain ⟨lt, z0, z1, z2, z3⟩ := Z.out.keep hb
    clear hb
    go_wp2
    exact bodyPost_ret (v := .tuple #[.agg #[.int .i64 0, .slice none 0 0], .int .i64 1]) (by simp [results, Try.results31, go_sem, z0, z1]) rfl ⟨RF.bad C.out (by rw [L.out]; rfl) L.out, (B1.out.setCell (by show _ ≤ _; simp; omega) _).setCell (by show _ ≤ _; simp; omega) _⟩
  · obtain ⟨rfl, h80, -, -⟩ := frB_ok hf0
    have F0 := Lib.hid hf0
    cases hf1 : frB n1 ys
    · have F1 := Lib.hid hf1
      have C := Lib.hid (pdC_1 (show (frB xs.length xs && frB n1 ys) = false by rw [hf1, Bool.and_false]))
      have L := Lib.hid (show pdV xs.length xs n1 ys = [] by rw [pdV, C.out]; rfl)
      clear hf1 hf0
      go_enter Try.func31, Try.ntmps31
      go_wp2_with fail
      rw [← HW.out]
      refine (l05Is_any _ xs _ _ _ _ hl0 H0.out).mono ?_
      rw [F0.out]
      rintro e w1 ⟨rfl, hb⟩
      have B1 := Lib.hid (HB.out.trans (hb.mono HB.out.size))
      have Z1 := Lib.hid (Z.out.keep hb)
      have H11 := Lib.hid (H1.out.keep hb (Nat.le_refl _))
      obtain ⟨lt, x0, x1⟩ := X1.out.keep hb
      clear hb
      go_wp2_with fail
      refine (l05Is_any n1 ys _ _ _ _ hl1 H11.out).mono ?_
      rw [F1.out]
      rintro e w2 ⟨rfl, hb⟩
      have B2 := Lib.hid (B1.out.trans (hb.mono B1.out.size))
      obtain ⟨lt, z0, z1, z2, z3⟩ := Z1.out.keep hb
      clear hb x0 x1
      go_wp2
      exact bodyPost_ret (v := .tuple #[.agg #[.int .i64 0, .slice none 0 0], .int .i64 1]) (by simp [results, Try.results31, go_sem, z0, z1]) rfl ⟨RF.bad C.out (by rw [L.out]; rfl) L.out, (B2.out.setCell (by show _ ≤ _; simp; omega) _).setCell (by show _ ≤ _; simp; omega) _⟩
    · obtain ⟨rfl, h81, -, -⟩ := frB_ok hf1
      have F1 := Lib.hid hf1
      have hm1 : xs.length * ys.length ≤ 64 := Nat.mul_le_mul h80 h81
      have hm2 : (xs.length : Int) * (ys.length : Int) ≤ 64 := by exact_mod_cast hm1
      have hm3 : 0 ≤ (xs.length : Int) * (ys.length : Int) := by exact_mod_cast Nat.zero_le _
      by_cases h8 : 8 < xs.length * ys.length
      · have C := Lib.hid (pdC_3 (show (frB xs.length xs && frB ys.length ys) = true by rw [hf0, hf1]; rfl) h8)
        have L := Lib.hid (show pdV xs.length xs ys.length ys = [] by rw [pdV, C.out]; rfl)
        have h8' : decide (8 < (xs.length : Int) * (ys.length : Int)) = true := decide_eq_true (by exact_mod_cast h8)
        clear hf1 hf0 hm1 h8
        go_enter Try.func31, Try.ntmps31
        go_wp2_with fail
        rw [← HW.out]
        refine (l05Is_any _ xs _ _ _ _ hl0 H0.out).mono ?_
        rw [F0.out]
        rintro e w1 ⟨rfl, hb⟩
        have B1 := Lib.hid (HB.out.trans (hb.mono HB.out.size))
        have Z1 := Lib.hid (Z.out.keep hb)
        have H11 := Lib.hid (H1.out.keep hb (Nat.le_refl _))
        have X01 := Lib.hid (X0.out.keep hb)
        have X11 := Lib.hid (X1.out.keep hb)
        obtain ⟨lt, x0, x1⟩ := X1.out.keep hb
        clear hb
        go_wp2_with fail
        clear x0 x1
        refine (l05Is_any _ ys _ _ _ _ hl1 H11.out).mono ?_
        rw [F1.out]
        rintro e w2 ⟨rfl, hb⟩
        have B2 := Lib.hid (B1.out.trans (hb.mono B1.out.size))
        obtain ⟨lt, z0, z1, z2, z3⟩ := Z1.out.keep hb
        obtain ⟨lt, x0, x0'⟩ := X01.out.keep hb
        obtain ⟨lt, x1, x1'⟩ := X11.out.keep hb
        clear hb
        go_wp2
        exact bodyPost_ret (v := .tuple #[.agg #[.int .i64 0, .slice none 0 0], .int .i64 3]) (by simp [results, Try.results31, go_sem, z0, z1]) rfl ⟨RF.bad C.out (by rw [L.out]; rfl) L.out, (B2.out.setCell (by show _ ≤ _; simp; omega) _).setCell (by show _ ≤ _; simp; omega) _⟩
      · have C := Lib.hid (pdC_0 (show (frB xs.length xs && frB ys.length ys) = true by rw [hf0, hf1]; rfl) h8)
        have L := Lib.hid (show pdV xs.length xs ys.length ys = pdL xs ys xs.length 0 by rw [pdV, C.out]; rfl)
        have h8' : decide (8 < (xs.length : Int) * (ys.length : Int)) = false := decide_eq_false (by intro h; exact h8 (by exact_mod_cast h))
        have M8 := Lib.hid (show xs.length * ys.length ≤ 8 by omega)
        clear hf1 hf0 hm1 h8
        go_enter Try.func31, Try.ntmps31
        go_wp2_with fail
        rw [← HW.out]
        refine (l05Is_any _ xs _ _ _ _ hl0 H0.out).mono ?_
        rw [F0.out]
        rintro e w1 ⟨rfl, hb⟩
        have B1 := Lib.hid (HB.out.trans (hb.mono HB.out.size))
        have Z1 := Lib.hid (Z.out.keep hb)
        have H01 := Lib.hid (H0.out.keep hb (Nat.le_refl _))
        have H11 := Lib.hid (H1.out.keep hb (Nat.le_refl _))
        have X01 := Lib.hid (X0.out.keep hb)
        have X11 := Lib.hid (X1.out.keep hb)
        obtain ⟨lt, x0, x1⟩ := X1.out.keep hb
        have hz1 := hb.size
        clear hb
        go_wp2_with fail
        clear x0 x1
        refine (l05Is_any _ ys _ _ _ _ hl1 H11.out).mono ?_
        rw [F1.out]
        rintro e w2 ⟨rfl, hb⟩
        have B2 := Lib.hid (B1.out.trans (hb.mono B1.out.size))
        have Z2 := Lib.hid (Z1.out.keep hb)
        have H02 := Lib.hid (H01.out.keep hb (Nat.le_refl _))
        have H12 := Lib.hid (H11.out.keep hb (Nat.le_refl _))
        have X02 := Lib.hid (X01.out.keep hb)
        have X12 := Lib.hid (X11.out.keep hb)
        obtain ⟨lt, x0, x0'⟩ := X02.out
        obtain ⟨lt', x1, x1'⟩ := X12.out
        have hz2 := hb.size
        clear hb
        go_wp2
        clear x0 x0' x1 x1' h8' hm2 hm3 lt lt'
        go_loopw [6, 7] (fun v i wr => ∃ x : Nat, x ≤ xs.length ∧ i = .int .i64 x ∧ wr.ownsRow w2.heap.size 2 1 v (pdL xs ys x 0).length ((pdL xs ys x 0).map (Value.int .i64)) ∧ Hid (Below w2.heap.size w2 wr)) (fun _ i _ => xs.length - (intOf i).toNat)
        case atStart => exact ⟨0, Nat.zero_le _, rfl, World.ownsRow_lit w2 #[] 0 (Nat.le_refl _) (by unfold maxLen; omega) rfl, Lib.hid ((Below.refl _ _).alloc (Nat.le_refl _) _)⟩
        case round =>
          obtain ⟨x, hx, rfl, hown, B⟩ := hrel
          have HO := Lib.hid hown
          clear hown
          by_cases hlt : x < xs.length
          · obtain ⟨lt, x0, x0'⟩ := X02.out.keep B.out
            obtain ⟨wo, rfl⟩ : ∃ wo : World, wo = wr := ⟨_, rfl⟩
            go_wp2
            clear x0 x0' lt
            go_loopw [6, 8] (fun v i wr => ∃ y : Nat, y ≤ ys.length ∧ i = .int .i64 y ∧ wr.ownsRow w2.heap.size 2 1 v (pdL xs ys x y).length ((pdL xs ys x y).map (Value.int .i64)) ∧ Hid (Below w2.heap.size w2 wr)) (fun _ i _ => ys.length - (intOf i).toNat)
            case atStart => exact ⟨0, Nat.zero_le _, rfl, HO.out, B⟩
            case round =>
              obtain ⟨y, hy, rfl, hown, B5⟩ := hrel
              have HO5 := Lib.hid hown
              clear hown
              by_cases hlty : y < ys.length
              · obtain ⟨lt', x1, x1'⟩ := X12.out.keep B5.out
                obtain ⟨wp, rfl⟩ : ∃ wp : World, wp = wr := ⟨_, rfl⟩
                go_wp2
                clear x1 x1' lt'
                go_loopw [9, 10] (fun s i wr => ∃ z q : Nat, z ≤ xs.length ∧ i = .int .i64 z ∧ s = .int .i64 (pdE xs ys x y z) ∧ wr = wp.drewN q) (fun _ i _ => xs.length - (intOf i).toNat)
                case atStart => exact ⟨0, 0, Nat.zero_le _, rfl, rfl, rfl⟩
                case round =>
                  obtain ⟨z, q, hz, rfl, rfl, rfl⟩ := hrel
                  obtain ⟨lt, x0, x0'⟩ := X02.out.keep B5.out
                  obtain ⟨lt', x1, x1'⟩ := X12.out.keep B5.out
                  by_cases hltz : z < xs.length
                  · obtain ⟨b, off, rfl, -, hc⟩ := (H02.out.keep B5.out (Nat.le_refl _)).2.resolve_left (by omega)
                    obtain ⟨b', off', rfl, -, hc'⟩ := (H12.out.keep B5.out (Nat.le_refl _)).2.resolve_left (by omega)
                    have hcx := hc x hlt
                    have hcy := hc' y hlty
                    have SP := Lib.hid (pd_spell (mul_in hltz M8.out) (nth ys y))
                    clear hc hc'
                    cases hbit : bitB (nth xs x) z
                    · have HB3 := Lib.hid hbit
                      go_wp2_with (go_at_call 69; refine (l01Bit_any _ _ _ (by omega) (by omega)).mono ?_; rintro e w' ⟨rfl, rfl⟩)
                      go_roundw
                      case rel => exact ⟨z + 1, _, hltz, by go_num, by simp [pdE, HB3.out], rfl⟩
                      case measure => simp [intOf]; omega
                    · have HB3 := Lib.hid hbit
                      go_wp2_with (go_at_call 69; refine (l01Bit_any _ _ _ (by omega) (by omega)).mono ?_; rintro e w' ⟨rfl, rfl⟩)
                      go_quiet (fail)
                      go_wp2
                      go_roundw
                      case rel => exact ⟨z + 1, _, hltz, by go_num, by rw [pdE, HB3.out, if_pos rfl, ← SP.out], rfl⟩
                      case measure => simp [intOf]; omega
                  · obtain rfl : z = xs.length := by omega
                    have hbd := pdL_bd (xs := xs) (ys := ys) (x := x) (y := y) (by omega) (by omega) h81
                    have hsz := B5.out.size
                    have HOq := Lib.hid (show (wp.drewN q).ownsRow w2.heap.size 2 1 _ (pdL xs ys x y).length ((pdL xs ys x y).map (Value.int .i64)) from HO5.out)
                    have B5q := Lib.hid (below_drewN B5.out q)
                    go_wp2_with (at_builtin; refine list_app1 rfl _ _ rfl w2.heap.size _ (pdL xs ys x y).length _ rfl (HOq.out.alloc _) ⟨wp.heap.size, 0, none⟩ 1 _ rfl (World.cell?_alloc_at _ _ _ _ rfl) (by omega) (by simp; omega) ?_; intro v' w1' hown1 hgr1)
                    have hbel := Lib.hid (below_app B5q.out ((Below.refl _ _).alloc (show w2.heap.size ≤ (wp.drewN q).heap.size from hsz) _) (show w2.heap.size ≤ (wp.drewN q).heap.size from hsz) HOq.out hgr1)
                    clear hgr1 x0 x0' x1 x1'
                    go_roundw
                    case rel => exact ⟨y + 1, hlty, by go_num, pd_app (pdL_next xs ys x y) hown1, hbel⟩
                    case measure => simp [intOf]; omega
              · obtain rfl : y = ys.length := by omega
                obtain ⟨lt', x1, x1'⟩ := X12.out.keep B5.out
                go_wp2
                go_roundw
                case rel => exact ⟨x + 1, hlt, by go_num, by rw [← pdL_row]; exact HO5.out, B5⟩
                case measure => simp [intOf]; omega
          · obtain rfl : x = xs.length := by omega
            have hbd := pdL_bd (xs := xs) (ys := ys) (x := xs.length) (y := 0) h80 (by omega) h81
            obtain ⟨a5, k5, e5, hat5, -, hn5, -⟩ := (show Own wr w2.heap.size _ (pdL xs ys xs.length 0) from HO.out).at
            subst e5
            have H5 := Lib.hid hat5
            have N5 := Lib.hid hn5
            have Z5 := Lib.hid (Z2.out.keep B.out)
            have B6 := Lib.hid (B2.out.trans (B.out.mono B2.out.size))
            obtain ⟨lt, x0, x0'⟩ := X02.out.keep B.out
            have hsz := B.out.size
            clear hat5 hn5
            go_wp2_with fail
            clear x0 x0'
            refine (l05Make_any _ _ _ _ _ (by omega) H5.out N5.out).mono ?_
            rintro e w3 ⟨v3, rfl, ho, hb⟩
            obtain ⟨a3, k3, rfl⟩ := ho.form
            obtain ⟨lt, z0, z1, z2, z3⟩ := Z5.out.keep hb
            have B7 := Lib.hid (B6.out.trans (hb.mono B6.out.size))
            have O3 := Lib.hid ho
            clear ho hb
            go_wp2
            exact bodyPost_ret (v := .tuple #[.agg #[.int .i64 (pdL xs ys xs.length 0).length, .slice a3 (pdL xs ys xs.length 0).length k3], .int .i64 0]) (by simp [results, Try.results31, go_sem, z0, z1]) rfl ⟨RF.good C.out (by rw [L.out]) L.out (O3.out.out2 (by omega)) (by omega), (B7.out.setCell (by show _ ≤ _; simp; omega) _).setCell (by show _ ≤ _; simp; omega) _⟩

theorem ProductFrames_len (n0 : Int) (x0 : List Int) (n1 : Int) (x1 : List Int) : (pdV n0 x0 n1 x1).length ≤ 1048576 := by
  unfold pdV
  split
  · rename_i h
    unfold pdC at h
    cases hf : (frB n0 x0 && frB n1 x1)
    · rw [hf] at h; cases h
    · rw [Bool.and_eq_true] at hf
      obtain ⟨-, h1, -, -⟩ := frB_ok hf.1
      obtain ⟨-, h2, -, -⟩ := frB_ok hf.2
      have := pdL_bd (xs := x0) (ys := x1) (x := x0.length) (y := 0) h1 (by omega) h2
      omega
  · simp

end Go.Proofs.Ytkpbcpkapjnchaa
