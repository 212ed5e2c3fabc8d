/- The free points of a point formula: as a mask, of the model and of the program. Conditions: those in the theorems. -/
import Derived.Test.YtbfnagmjnaacoaaTvl
import Derived.Test.YtbfnagmjnaacoaaPoS
import Derived.Test.YtbfnagmjnaacoaaJn06
import Derived.Test.YtbfnagmjnaacoaaJn03
namespace Go.Proofs.Ytbfnagmjnaacoaa
open Go.RowKit

namespace Pt
/-- The mask of the points that are free. -/
def fre : Pt → Int
  | le k f s => if k = 0 ∨ k = 1 then bits .or .i64 (one f) (one s) else if k = 2 then one s else 0
  | bi _ a b => bits .or .i64 a.fre b.fre
  | un _ x a => bits .andNot .i64 a.fre (one x)
end Pt
theorem one_mk {x : Int} (h0 : 0 ≤ x) (h1 : x ≤ 9) : InMk 10 (one x) := by
  obtain ⟨k, rfl⟩ := Int.eq_ofNat_of_zero_le h0
  exact InMk.one (by omega) (by omega)
theorem fre_mk (f : Pt) (hf : f.ok) : InMk 10 f.fre := by
  induction f with
  | le k x y =>
    unfold Pt.fre
    rcases hf with ⟨h, h1, h2, h3, h4⟩ | ⟨h, h1, h2, h3, h4⟩ | ⟨h, -⟩
    · rw [if_pos h]; exact (one_mk h1 h2).or (by omega) (one_mk h3 h4)
    · rw [if_neg (by omega), if_pos h]; exact one_mk h3 h4
    · rw [if_neg (by omega), if_neg (by omega)]; exact InMk.zero _
  | bi k a b iha ihb => exact (iha hf.2.1).or (by omega) (ihb hf.2.2)
  | un k x a ih => exact (ih hf.2.2).not (by omega) (one_mk hf.2.1.1 hf.2.1.2)
set_option maxHeartbeats 2000000 in
theorem free_s (f s : Int) (h1 : 0 ≤ f) (h2 : f ≤ 9) (h3 : 0 ≤ s) (h4 : s ≤ 9) (w : World) :
    Calls Try.prog 62 #[.iface 143 (.agg #[.int .i64 f, .int .i64 s])] w fun e w' => e = .returned (.int .i64 (bits .or .i64 (wrap64 (2 ^ f.toNat)) (wrap64 (2 ^ s.toNat)))) ∧ Below w.heap.size w w' := by
  have a1 := asS_yes w (.agg #[.int .i64 f, .int .i64 s])
  go_enter Try.func62, Try.ntmps62
  go_wp2
  go_quiet (fail)
  go_wp2
  go_ret
  exact ⟨rfl, below_drewN' ((Below.refl _ _).alloc (Nat.le_refl _) _) _⟩
set_option maxHeartbeats 2000000 in
theorem free_e (f s : Int) (h1 : 0 ≤ f) (h2 : f ≤ 9) (h3 : 0 ≤ s) (h4 : s ≤ 9) (w : World) :
    Calls Try.prog 62 #[.iface 145 (.agg #[.int .i64 f, .int .i64 s])] w fun e w' => e = .returned (.int .i64 (bits .or .i64 (wrap64 (2 ^ f.toNat)) (wrap64 (2 ^ s.toNat)))) ∧ Below w.heap.size w w' := by
  have a0 := asS_no w 145 (.agg #[.int .i64 f, .int .i64 s]) (by decide)
  have a1 := asE_yes w (.agg #[.int .i64 f, .int .i64 s])
  go_enter Try.func62, Try.ntmps62
  go_wp2
  go_quiet (fail)
  go_wp2
  go_ret
  exact ⟨rfl, below_drewN' ((Below.refl _ _).alloc (Nat.le_refl _) _) _⟩
set_option maxHeartbeats 2000000 in
theorem free_v (f s : Int) (h3 : 0 ≤ s) (h4 : s ≤ 9) (w : World) :
    Calls Try.prog 62 #[.iface 147 (.agg #[.int .i64 f, .int .i64 s])] w fun e w' => e = .returned (.int .i64 (wrap64 (2 ^ s.toNat))) ∧ Below w.heap.size w w' := by
  have a0 := asS_no w 147 (.agg #[.int .i64 f, .int .i64 s]) (by decide)
  have a1 := asE_no w 147 (.agg #[.int .i64 f, .int .i64 s]) (by decide)
  have a2 := asV_yes w (.agg #[.int .i64 f, .int .i64 s])
  go_enter Try.func62, Try.ntmps62
  go_wp2
  go_ret
  exact ⟨rfl, (Below.refl _ _).alloc (Nat.le_refl _) _⟩
set_option maxHeartbeats 2000000 in
theorem free_f (w : World) :
    Calls Try.prog 62 #[.iface 193 (.agg #[])] w fun e w' => e = .returned (.int .i64 0) ∧ Below w.heap.size w w' := by
  have a0 := asS_no w 193 (.agg #[]) (by decide)
  have a1 := asE_no w 193 (.agg #[]) (by decide)
  have a2 := asV_no w 193 (.agg #[]) (by decide)
  have a3 := asL_no w 193 (.agg #[]) (by decide)
  have a4 := asQ_no w 193 (.agg #[]) (by decide)
  go_enter Try.func62, Try.ntmps62
  go_wp2
  go_ret
  exact ⟨rfl, Below.refl _ _⟩

/-- What the program's freeIn is to answer at a value. -/
def FreC (v : Value) (p : Int) : Prop := ∀ w : World, Calls Try.prog 62 #[v] w fun e w' => e = .returned (.int .i64 p) ∧ Below w.heap.size w w'

set_option maxHeartbeats 4000000 in
theorem free_l (k p q : Int) (t t' : TypeId) (u u' : Value) (hp : FreC (.iface t u) p) (hq : FreC (.iface t' u') q) :
    FreC (.iface 149 (.agg #[.int .i64 k, .iface t u, .iface t' u'])) (bits .or .i64 p q) := by
  intro w
  obtain ⟨W, hW⟩ : ∃ W, W = w.alloc (.cells #[.int .i64 k, .iface t u, .iface t' u'] 149) := ⟨_, rfl⟩
  have hWb : Below w.heap.size w W := by rw [hW]; exact (Below.refl _ _).alloc (Nat.le_refl _) _
  have x1 : W.cell? ⟨w.heap.size, 1, none⟩ = some (.iface t u) := by rw [hW]; exact World.cell?_alloc_new _ _ _ 1
  have x2 : W.cell? ⟨w.heap.size, 2, none⟩ = some (.iface t' u') := by rw [hW]; exact World.cell?_alloc_new _ _ _ 2
  have hWs : w.heap.size < W.heap.size := by rw [hW]; simp
  have CB := Lib.hid (fun (w1 : World) (hb1 : Below W.heap.size W w1) => (show w1.cell? ⟨w.heap.size, 1, none⟩ = some (.iface t u) ∧ w1.cell? ⟨w.heap.size, 2, none⟩ = some (.iface t' u') from ⟨(hb1.cell (p := ⟨w.heap.size, 1, none⟩) hWs).trans x1, (hb1.cell (p := ⟨w.heap.size, 2, none⟩) hWs).trans x2⟩))
  have HB := Lib.hid hWb
  have HW := Lib.hid hW
  have HP := Lib.hid hp
  have HQ := Lib.hid hq
  have a0 := asS_no w 149 (.agg #[.int .i64 k, .iface t u, .iface t' u']) (by decide)
  have a1 := asE_no w 149 (.agg #[.int .i64 k, .iface t u, .iface t' u']) (by decide)
  have a2 := asV_no w 149 (.agg #[.int .i64 k, .iface t u, .iface t' u']) (by decide)
  have a3 := asL_yes w (.agg #[.int .i64 k, .iface t u, .iface t' u'])
  clear hWb hWs hW hp hq
  go_enter Try.func62, Try.ntmps62
  go_wp2
  rw [← HW.out]
  clear a0 a1 a2 a3
  go_region_held3 (fun w' => w'.cell? ⟨w.heap.size, 1, none⟩ = some (.iface t u) ∧ w'.cell? ⟨w.heap.size, 2, none⟩ = some (.iface t' u')) (first | exact ⟨z1, z2⟩ | exact ⟨y1, y2⟩ | exact ⟨x1, x2⟩ | go_keep) (first | (go_at_call_of 62 u; refine (HP.out _).mono ?_; rintro e w1 ⟨rfl, hb⟩; have T1 := Lib.hid (show Below W.heap.size W w1 from below_of_drew hb); clear hb; obtain ⟨y1, y2⟩ := CB.out _ T1.out) | (go_at_call_of 62 u'; refine (HQ.out _).mono ?_; rintro e w2 ⟨rfl, hb⟩; have T2 := Lib.hid (T1.out.trans (hb.mono T1.out.size)); clear hb; obtain ⟨z1, z2⟩ := CB.out _ T2.out))
  all_goals
    go_wp2
    go_ret
    exact ⟨rfl, HB.out.trans (T2.out.mono HB.out.size)⟩

set_option maxHeartbeats 4000000 in
theorem free_q (k x p : Int) (h1 : 0 ≤ x) (h2 : x ≤ 9) (t : TypeId) (u : Value) (hp : FreC (.iface t u) p) :
    FreC (.iface 151 (.agg #[.int .i64 k, .int .i64 x, .iface t u])) (bits .andNot .i64 p (wrap64 (2 ^ x.toNat))) := by
  intro w
  obtain ⟨W, hW⟩ : ∃ W, W = w.alloc (.cells #[.int .i64 k, .int .i64 x, .iface t u] 151) := ⟨_, rfl⟩
  have hWb : Below w.heap.size w W := by rw [hW]; exact (Below.refl _ _).alloc (Nat.le_refl _) _
  have x1 : W.cell? ⟨w.heap.size, 1, none⟩ = some (.int .i64 x) := by rw [hW]; exact World.cell?_alloc_new _ _ _ 1
  have x2 : W.cell? ⟨w.heap.size, 2, none⟩ = some (.iface t u) := by rw [hW]; exact World.cell?_alloc_new _ _ _ 2
  have hWs : w.heap.size < W.heap.size := by rw [hW]; simp
  have CB := Lib.hid (fun (w1 : World) (hb1 : Below W.heap.size W w1) => (show w1.cell? ⟨w.heap.size, 1, none⟩ = some (.int .i64 x) ∧ w1.cell? ⟨w.heap.size, 2, none⟩ = some (.iface t u) from ⟨(hb1.cell (p := ⟨w.heap.size, 1, none⟩) hWs).trans x1, (hb1.cell (p := ⟨w.heap.size, 2, none⟩) hWs).trans x2⟩))
  have HB := Lib.hid hWb
  have HW := Lib.hid hW
  have HP := Lib.hid hp
  have E := Lib.hid (show IntKind.i64.wrap ((2 : Int) ^ x.toNat) = wrap64 (2 ^ x.toNat) from by
    have h := pow_bd x h1 (by omega)
    rw [IntKind.wrap_i64, IntWalk.wrap64_in _ (by omega)]
    omega)
  have a0 := asS_no w 151 (.agg #[.int .i64 k, .int .i64 x, .iface t u]) (by decide)
  have a1 := asE_no w 151 (.agg #[.int .i64 k, .int .i64 x, .iface t u]) (by decide)
  have a2 := asV_no w 151 (.agg #[.int .i64 k, .int .i64 x, .iface t u]) (by decide)
  have a3 := asL_no w 151 (.agg #[.int .i64 k, .int .i64 x, .iface t u]) (by decide)
  have a4 := asQ_yes w (.agg #[.int .i64 k, .int .i64 x, .iface t u])
  clear hWb hWs hW hp
  go_enter Try.func62, Try.ntmps62
  go_wp2
  rw [← HW.out]
  clear a0 a1 a2 a3 a4
  go_region_held3 (fun w' => w'.cell? ⟨w.heap.size, 1, none⟩ = some (.int .i64 x) ∧ w'.cell? ⟨w.heap.size, 2, none⟩ = some (.iface t u)) (first | exact ⟨y1, y2⟩ | exact ⟨x1, x2⟩ | go_keep) (first | (go_at_call 62; refine (HP.out _).mono ?_; rintro e w1 ⟨rfl, hb⟩; have T1 := Lib.hid (show Below W.heap.size W w1 from below_of_drew hb); clear hb; obtain ⟨y1, y2⟩ := CB.out _ T1.out))
  all_goals
    go_wp2
    go_ret
    exact ⟨ret_int (by rw [E.out]), HB.out.trans (T1.out.mono HB.out.size)⟩

theorem freeIn_any (f : Pt) (hf : f.ok) : FreC (tv f) f.fre := by
  induction f with
  | le k x y =>
    intro w
    rcases hf with ⟨rfl | rfl, h1, h2, h3, h4⟩ | ⟨rfl, h1, h2, h3, h4⟩ | ⟨rfl, rfl, rfl⟩
    · have e1 : tv (.le 0 x y) = .iface 143 (.agg #[.int .i64 x, .int .i64 y]) := by rw [tv, if_pos rfl]
      have e2 : (Pt.le 0 x y).fre = bits .or .i64 (wrap64 (2 ^ x.toNat)) (wrap64 (2 ^ y.toNat)) := by rw [Pt.fre, if_pos (Or.inl rfl), one, one]
      rw [e1, e2]
      exact free_s x y h1 h2 h3 h4 w
    · have e1 : tv (.le 1 x y) = .iface 145 (.agg #[.int .i64 x, .int .i64 y]) := by rw [tv, if_neg (by omega), if_pos rfl]
      have e2 : (Pt.le 1 x y).fre = bits .or .i64 (wrap64 (2 ^ x.toNat)) (wrap64 (2 ^ y.toNat)) := by rw [Pt.fre, if_pos (Or.inr rfl), one, one]
      rw [e1, e2]
      exact free_e x y h1 h2 h3 h4 w
    · have e1 : tv (.le 2 x y) = .iface 147 (.agg #[.int .i64 x, .int .i64 y]) := by rw [tv, if_neg (by omega), if_neg (by omega), if_pos rfl]
      have e2 : (Pt.le 2 x y).fre = wrap64 (2 ^ y.toNat) := by rw [Pt.fre, if_neg (by omega), if_pos rfl, one]
      rw [e1, e2]
      exact free_v x y h3 h4 w
    · have e1 : tv (.le 3 0 0) = .iface 193 (.agg #[]) := by rw [tv, if_neg (by omega), if_neg (by omega), if_neg (by omega)]
      have e2 : (Pt.le 3 0 0).fre = 0 := by rw [Pt.fre, if_neg (by omega), if_neg (by omega)]
      rw [e1, e2]
      exact free_f w
  | un k x a ih =>
    obtain ⟨t, u, hv⟩ := tv_iface a
    have h := ih hf.2.2
    rw [hv] at h
    have e : tv (Pt.un k x a) = .iface 151 (.agg #[.int .i64 k, .int .i64 x, .iface t u]) := by rw [← hv]; rfl
    have e2 : (Pt.un k x a).fre = bits .andNot .i64 a.fre (wrap64 (2 ^ x.toNat)) := by rw [Pt.fre, one]
    rw [e, e2]
    exact free_q k x _ hf.2.1.1 hf.2.1.2 t u h
  | bi k a b iha ihb =>
    obtain ⟨t, u, hv⟩ := tv_iface a
    obtain ⟨t', u', hv'⟩ := tv_iface b
    have h := iha hf.2.1
    have h' := ihb hf.2.2
    rw [hv] at h
    rw [hv'] at h'
    have e : tv (Pt.bi k a b) = .iface 149 (.agg #[.int .i64 k, .iface t u, .iface t' u']) := by rw [← hv, ← hv']; rfl
    rw [e, show (Pt.bi k a b).fre = bits .or .i64 a.fre b.fre from by rw [Pt.fre]]
    exact free_l k _ _ t t' u u' h h'

end Go.Proofs.Ytbfnagmjnaacoaa
