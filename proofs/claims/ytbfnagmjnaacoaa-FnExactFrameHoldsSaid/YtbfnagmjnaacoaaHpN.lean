/- The program's nesting of quantifiers, and whether a point formula has values. Conditions: those in the theorems. -/
import Derived.Deep.RegionWith
import Derived.Deep.RegionLaw
import Derived.RegionTactic
import Derived.BigRegion
import Derived.ChangeAlike
import Derived.Test.YtbfnagmjnaacoaaHoM
import Derived.Test.YtbfnagmjnaacoaaTvl
namespace Go.Proofs.Ytbfnagmjnaacoaa
open Go.RowKit

def NeC (v : Value) (n : Nat) : Prop := ∀ w : World, Calls Try.prog 150 #[v] w fun e w' => e = .returned (.int .i64 (n : Int)) ∧ Below w.heap.size w w'
theorem undrewN {C : Nat} {w w' : World} (h : Below C w.drew w') : Below C w w' := ⟨h.os, h.tape, h.output, h.size, h.block⟩

set_option maxHeartbeats 8000000 in
set_option maxRecDepth 100000 in
theorem ne_s (f s : Int) : NeC (.iface 143 (.agg #[.int .i64 f, .int .i64 s])) 0 := by
  intro w
  have a_L := fun W => asL_no W 143 (.agg #[.int .i64 f, .int .i64 s]) (by decide)
  have a_Q := fun W => asQ_no W 143 (.agg #[.int .i64 f, .int .i64 s]) (by decide)
  go_enter Try.func150, Try.ntmps150
  go_wp2
  go_ret
  exact ⟨rfl, Below.refl _ _⟩

set_option maxHeartbeats 8000000 in
set_option maxRecDepth 100000 in
theorem ne_e (f s : Int) : NeC (.iface 145 (.agg #[.int .i64 f, .int .i64 s])) 0 := by
  intro w
  have a_L := fun W => asL_no W 145 (.agg #[.int .i64 f, .int .i64 s]) (by decide)
  have a_Q := fun W => asQ_no W 145 (.agg #[.int .i64 f, .int .i64 s]) (by decide)
  go_enter Try.func150, Try.ntmps150
  go_wp2
  go_ret
  exact ⟨rfl, Below.refl _ _⟩

set_option maxHeartbeats 8000000 in
set_option maxRecDepth 100000 in
theorem ne_v (f s : Int) : NeC (.iface 147 (.agg #[.int .i64 f, .int .i64 s])) 0 := by
  intro w
  have a_L := fun W => asL_no W 147 (.agg #[.int .i64 f, .int .i64 s]) (by decide)
  have a_Q := fun W => asQ_no W 147 (.agg #[.int .i64 f, .int .i64 s]) (by decide)
  go_enter Try.func150, Try.ntmps150
  go_wp2
  go_ret
  exact ⟨rfl, Below.refl _ _⟩

set_option maxHeartbeats 8000000 in
set_option maxRecDepth 100000 in
theorem ne_f : NeC (.iface 193 (.agg #[])) 0 := by
  intro w
  have a_L := fun W => asL_no W 193 (.agg #[]) (by decide)
  have a_Q := fun W => asQ_no W 193 (.agg #[]) (by decide)
  go_enter Try.func150, Try.ntmps150
  go_wp2
  go_ret
  exact ⟨rfl, Below.refl _ _⟩

set_option maxHeartbeats 8000000 in
set_option maxRecDepth 100000 in
theorem ne_q (k x : Int) (n : Nat) (hn : n ≤ 1048576) (t : TypeId) (u : Value) (hp : NeC (.iface t u) n) : NeC (.iface 151 (.agg #[.int .i64 k, .int .i64 x, .iface t u])) (n + 1) := by
  intro w
  have a_L := fun W => asL_no W 151 (.agg #[.int .i64 k, .int .i64 x, .iface t u]) (by decide)
  have a_Q := fun W => asQ_yes W (.agg #[.int .i64 k, .int .i64 x, .iface t u])
  have HP := Lib.hid hp
  have BA := Lib.hid ((Below.refl w.heap.size w).alloc (Nat.le_refl _) (.cells #[.int .i64 k, .int .i64 x, .iface t u] 151))
  clear hp
  go_enter Try.func150, Try.ntmps150
  go_wp2_with fail
  refine (HP.out _).mono ?_
  rintro e w1 ⟨rfl, hb1⟩
  have B1 := Lib.hid (BA.out.trans (hb1.mono BA.out.size))
  clear hb1
  go_wp2
  go_ret
  exact ⟨ret_int (by omega), B1.out⟩

set_option maxHeartbeats 8000000 in
set_option maxRecDepth 100000 in
theorem ne_l (k : Int) (p q : Nat) (_hp2 : p ≤ 1048576) (_hq2 : q ≤ 1048576) (t t' : TypeId) (u u' : Value) (hp : NeC (.iface t u) p) (hq : NeC (.iface t' u') q) : NeC (.iface 149 (.agg #[.int .i64 k, .iface t u, .iface t' u'])) (max p q) := by
  intro w
  obtain ⟨W, hW⟩ : ∃ W, W = w.alloc (.cells #[.int .i64 k, .iface t u, .iface t' u'] 149) := ⟨_, rfl⟩
  have hWb : Below w.heap.size w W := by rw [hW]; exact (Below.refl _ _).alloc (Nat.le_refl _) _
  have x1 : W.cell? ⟨w.heap.size, 1, none⟩ = some (.iface t u) := by rw [hW]; exact World.cell?_alloc_new _ _ _ 1
  have x2 : W.cell? ⟨w.heap.size, 2, none⟩ = some (.iface t' u') := by rw [hW]; exact World.cell?_alloc_new _ _ _ 2
  have hWs : w.heap.size < W.heap.size := by rw [hW]; simp
  have CB := Lib.hid (fun (w1 : World) (hb1 : Below W.heap.size W w1) => (show w1.cell? ⟨w.heap.size, 1, none⟩ = some (.iface t u) ∧ w1.cell? ⟨w.heap.size, 2, none⟩ = some (.iface t' u') from ⟨(hb1.cell (p := ⟨w.heap.size, 1, none⟩) hWs).trans x1, (hb1.cell (p := ⟨w.heap.size, 2, none⟩) hWs).trans x2⟩))
  have HB := Lib.hid hWb
  have HW := Lib.hid hW
  have HP := Lib.hid hp
  have HQ := Lib.hid hq
  have a_L := fun W => asL_yes W (.agg #[.int .i64 k, .iface t u, .iface t' u'])
  clear hWb hWs hW hp hq
  obtain ⟨m, hm⟩ : ∃ m, m = max p q := ⟨_, rfl⟩
  have HM := Lib.hid hm
  rw [← hm]
  clear hm
  by_cases hpq : p < q
  all_goals
    go_enter Try.func150, Try.ntmps150
    go_wp2
    rw [← HW.out]
    clear a_L
    go_region_law (first | (go_simp; go_at_call_of 150 u; refine (HP.out _).mono ?_; rintro e w1 ⟨rfl, hb⟩; have T1 := Lib.hid (show Below W.heap.size W w1 from undrewN hb); clear hb; obtain ⟨y1, y2⟩ := CB.out _ T1.out) | (go_simp; go_at_call_of 150 u'; refine (HQ.out _).mono ?_; rintro e w2 ⟨rfl, hb⟩; have T2 := Lib.hid (T1.out.trans (hb.mono T1.out.size)); clear hb; obtain ⟨z1, z2⟩ := CB.out _ T2.out))
    all_goals
      go_wp2
      go_ret
      exact ⟨ret_int (by rw [HM.out]; omega), HB.out.trans (T2.out.mono HB.out.size)⟩

theorem nestingOf_any (f : Pt) (hf : f.ok) (hz : f.sz ≤ 1048576) : NeC (tv f) (nst f) := by
  induction f with
  | le k x y =>
    rcases hf with ⟨rfl | rfl, -⟩ | ⟨rfl, -⟩ | ⟨rfl, rfl, rfl⟩
    · rw [show tv (.le 0 x y) = .iface 143 (.agg #[.int .i64 x, .int .i64 y]) from by rw [tv, if_pos rfl]]; exact ne_s x y
    · rw [show tv (.le 1 x y) = .iface 145 (.agg #[.int .i64 x, .int .i64 y]) from by rw [tv, if_neg (by omega), if_pos rfl]]; exact ne_e x y
    · rw [show tv (.le 2 x y) = .iface 147 (.agg #[.int .i64 x, .int .i64 y]) from by rw [tv, if_neg (by omega), if_neg (by omega), if_pos rfl]]; exact ne_v x y
    · rw [show tv (.le 3 0 0) = .iface 193 (.agg #[]) from by rw [tv, if_neg (by omega), if_neg (by omega), if_neg (by omega)]]; exact ne_f
  | un k x a ih =>
    have hs : (Pt.un k x a).sz = 1 + a.sz := rfl
    have hl := nst_le a
    obtain ⟨t, u, hv⟩ := tv_iface a
    have h := ih hf.2.2 (by omega)
    rw [hv] at h
    rw [show tv (Pt.un k x a) = .iface 151 (.agg #[.int .i64 k, .int .i64 x, .iface t u]) from by rw [← hv]; rfl]
    exact ne_q k x _ (by omega) t u h
  | bi k a b iha ihb =>
    have hs : (Pt.bi k a b).sz = 1 + a.sz + b.sz := rfl
    have hl := nst_le a
    have hl2 := nst_le b
    obtain ⟨t, u, hv⟩ := tv_iface a
    obtain ⟨t', u', hv'⟩ := tv_iface b
    have h := iha hf.2.1 (by omega)
    have h' := ihb hf.2.2 (by omega)
    rw [hv] at h
    rw [hv'] at h'
    rw [show tv (Pt.bi k a b) = .iface 149 (.agg #[.int .i64 k, .iface t u, .iface t' u']) from by rw [← hv, ← hv']; rfl]
    exact ne_l k _ _ (by omega) (by omega) t t' u u' h h'

set_option maxHeartbeats 1000000 in
theorem hasValues_any (f : Pt) (hf : f.ok) (hz : f.sz ≤ 1048576) (N : Nat) (hN : N ≤ 8) (w : World) :
    Calls Try.prog 111 #[tv f, .int .i64 N] w fun e w' => e = .returned (.bool (fitP N (nst f))) ∧ Below w.heap.size w w' := by
  have NS := Lib.hid (nestingOf_any f hf hz w)
  have hn := nst_le f
  obtain ⟨m, hm⟩ : ∃ m, m = nst f := ⟨_, rfl⟩
  obtain ⟨t, ht⟩ : ∃ t, t = tv f := ⟨_, rfl⟩
  rw [← hm] at NS ⊢
  rw [← ht] at NS ⊢
  have hm2 : m ≤ 1048576 := by omega
  clear hn hm ht
  by_cases h6 : m ≤ 6
  · go_enter Try.func111, Try.ntmps111
    go_wp2_with fail
    refine NS.out.mono ?_
    rintro e w1 ⟨rfl, hb1⟩
    have B1 := Lib.hid hb1
    clear hb1
    go_wp2
    go_loop [6, 12] (fun bo i => ∃ k q : Nat, k ≤ m ∧ i = .int .i64 k ∧ bo = .int .i64 q ∧ q ≤ 8 ^ k ∧ Hid (q = N ^ k)) (fun _ i => m - (intOf i).toNat)
    case atStart => exact ⟨0, 1, Nat.zero_le _, rfl, rfl, by simp, Lib.hid rfl⟩
    case round =>
      obtain ⟨k, q, hk, rfl, rfl, hq2, HQ⟩ := hrel
      have h8 : (8 : Nat) ^ k ≤ 8 ^ 6 := Nat.pow_le_pow_right (by omega) (by omega)
      have hq3 : q ≤ 262144 := Nat.le_trans hq2 h8
      by_cases hlt : k < m
      · obtain ⟨z, hz⟩ : ∃ z, z = q * N := ⟨_, rfl⟩
        have hz2 : z ≤ 8 ^ (k + 1) := by rw [hz, Nat.pow_succ]; exact Nat.mul_le_mul hq2 hN
        have hz3 : z ≤ 2097152 := by rw [hz]; exact Nat.le_trans (Nat.mul_le_mul hq3 hN) (by omega)
        have hcast : ((q * N : Nat) : Int) = (q : Int) * (N : Int) := by simp
        have hwz : IntKind.i64.wrap ((q : Int) * (N : Int)) = (z : Int) := by rw [← hcast, IntKind.wrap_i64, ← hz]; omega
        have HZ := Lib.hid (show z = N ^ (k + 1) by rw [hz, HQ.out, Nat.pow_succ])
        have HZ2 := Lib.hid hz2
        clear hz hcast h8 hq2 hz2
        go_wp2
        go_round
        case rel => exact ⟨k + 1, z, hlt, by go_num, by first | rfl | (congr 1; omega), HZ2.out, HZ⟩
        case measure => simp [intOf]; omega
      · obtain rfl : k = m := by omega
        have HV := Lib.hid (show fitP N k = (decide (k ≤ 6) && decide (q ≤ 32768)) by rw [HQ.out]; rfl)
        clear h8 hq2
        by_cases hqb : q ≤ 32768
        · have E := Lib.hid (show fitP N k = true by rw [HV.out, decide_eq_true h6, decide_eq_true hqb]; rfl)
          go_wp2
          go_ret
          first
          | exact ⟨ret_bool E.out.symm, B1.out⟩
          | exact ⟨ret_bool (by rw [E.out]; simp; omega), B1.out⟩
        · have E := Lib.hid (show fitP N k = false by rw [HV.out, decide_eq_false hqb, Bool.and_false])
          go_wp2
          go_ret
          first
          | exact ⟨ret_bool E.out.symm, B1.out⟩
          | exact ⟨ret_bool (by rw [E.out]; simp; omega), B1.out⟩
  · have E := Lib.hid (show fitP N m = false by rw [fitP, decide_eq_false h6, Bool.false_and])
    go_enter Try.func111, Try.ntmps111
    go_wp2_with fail
    refine NS.out.mono ?_
    rintro e w1 ⟨rfl, hb1⟩
    have B1 := Lib.hid hb1
    clear hb1
    go_wp2
    go_ret
    exact ⟨ret_bool E.out.symm, B1.out⟩

end Go.Proofs.Ytbfnagmjnaacoaa
