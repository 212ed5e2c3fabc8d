/- The program's value of a point formula, at formulas of one node. Conditions: those in the theorems. -/
import Derived.Deep.RegionWith
import Derived.Deep.RegionLaw
import Derived.RegionTactic
import Derived.BigRegion
import Derived.ChangeAlike
import Derived.Test.YtbfnagmjnaacoaaHoL
import Derived.Test.YtbfnagmjnaacoaaHpN
namespace Go.Proofs.Ytbfnagmjnaacoaa
open Go.RowKit

/-- A placing: the model and ten worlds. -/
def plc (N : Nat) (a : Option Addr) (c : Nat) (xs : List Int) (a' : Option Addr) (d : Nat) (ys : List Int) (zs : List Int) : Value := .agg #[.int .i64 (N : Int), .slice a xs.length c, .slice a' ys.length d, .int .i64 (nth zs 0), .int .i64 (nth zs 1), .int .i64 (nth zs 2), .int .i64 (nth zs 3), .int .i64 (nth zs 4), .int .i64 (nth zs 5), .int .i64 (nth zs 6), .int .i64 (nth zs 7), .int .i64 (nth zs 8), .int .i64 (nth zs 9)]

/-- What lies there: the model; the worlds. -/
structure HpAt (w : World) (N : Nat) (a : Option Addr) (xs : List Int) (a' : Option Addr) (ys : List Int) (zs : List Int) : Prop where
  n : N ≤ 8
  x : xs.length = N
  atx : At w a xs.length xs
  aty : At w a' ys.length ys
  wz : Wz N zs
theorem HpAt.keep {w w' : World} {C N : Nat} {a : Option Addr} {xs : List Int} {a' : Option Addr} {ys : List Int} {zs : List Int} (h : HpAt w N a xs a' ys zs) (hb : Below C w w') (hC : w.heap.size ≤ C) : HpAt w' N a xs a' ys zs :=
  ⟨h.n, h.x, h.atx.keep hb hC, h.aty.keep hb hC, h.wz⟩

/-- What holds is to do. -/
def HqC (v : Value) (f : Pt) : Prop := ∀ (N : Nat) (a : Option Addr) (c : Nat) (xs : List Int) (a' : Option Addr) (d : Nat) (ys : List Int) (zs : List Int) (w : World), xs.length ≤ 1048576 → ys.length ≤ 1048576 → HpAt w N a xs a' ys zs → vok N ys.length f →
    Calls Try.prog 112 #[plc N a c xs a' d ys zs, v] w fun e w' => e = .returned (.bool (hol xs ys N f zs)) ∧ Below w.heap.size w w'

/-- The box of a placing. -/
theorem boxPl (w : World) (N : Nat) (a : Option Addr) (c : Nat) (xs : List Int) (a' : Option Addr) (d : Nat) (ys : List Int) (zs : List Int) : ∃ W, W = w.alloc (.cells #[.int .i64 (N : Int), .slice a xs.length c, .slice a' ys.length d, .int .i64 (nth zs 0), .int .i64 (nth zs 1), .int .i64 (nth zs 2), .int .i64 (nth zs 3), .int .i64 (nth zs 4), .int .i64 (nth zs 5), .int .i64 (nth zs 6), .int .i64 (nth zs 7), .int .i64 (nth zs 8), .int .i64 (nth zs 9)] 87) ∧ Hid (Below w.heap.size w W) ∧ w.heap.size < W.heap.size ∧
    Hid (∀ w1, Below W.heap.size W w1 → (w1.cell? ⟨w.heap.size, 0, none⟩ = some (.int .i64 (N : Int)) ∧ w1.cell? ⟨w.heap.size, 1, none⟩ = some (.slice a xs.length c) ∧ w1.cell? ⟨w.heap.size, 2, none⟩ = some (.slice a' ys.length d)) ∧ ∀ i, i < 10 → w1.cell? ⟨w.heap.size, 3 + i, none⟩ = some (.int .i64 (nth zs i))) := by
  refine ⟨_, rfl, Lib.hid ((Below.refl _ _).alloc (Nat.le_refl _) _), by simp, Lib.hid (fun w1 hb => ⟨⟨?_, ?_, ?_⟩, fun i hi => ?_⟩)⟩
  · exact (hb.cell (p := ⟨w.heap.size, 0, none⟩) (by simp)).trans (World.cell?_alloc_new _ _ _ 0)
  · exact (hb.cell (p := ⟨w.heap.size, 1, none⟩) (by simp)).trans (World.cell?_alloc_new _ _ _ 1)
  · exact (hb.cell (p := ⟨w.heap.size, 2, none⟩) (by simp)).trans (World.cell?_alloc_new _ _ _ 2)
  · refine (hb.cell (p := ⟨w.heap.size, 3 + i, none⟩) (by simp)).trans ?_
    have h10 : i = 0 ∨ i = 1 ∨ i = 2 ∨ i = 3 ∨ i = 4 ∨ i = 5 ∨ i = 6 ∨ i = 7 ∨ i = 8 ∨ i = 9 := by omega
    rcases h10 with rfl | rfl | rfl | rfl | rfl | rfl | rfl | rfl | rfl | rfl
    · exact World.cell?_alloc_new _ _ _ 3
    · exact World.cell?_alloc_new _ _ _ 4
    · exact World.cell?_alloc_new _ _ _ 5
    · exact World.cell?_alloc_new _ _ _ 6
    · exact World.cell?_alloc_new _ _ _ 7
    · exact World.cell?_alloc_new _ _ _ 8
    · exact World.cell?_alloc_new _ _ _ 9
    · exact World.cell?_alloc_new _ _ _ 10
    · exact World.cell?_alloc_new _ _ _ 11
    · exact World.cell?_alloc_new _ _ _ 12

set_option maxHeartbeats 8000000 in
set_option maxRecDepth 100000 in
theorem hq_s (fn sn : Nat) (h2 : fn ≤ 9) (h4 : sn ≤ 9) : HqC (.iface 143 (.agg #[.int .i64 fn, .int .i64 sn])) (.le 0 fn sn) := by
  intro N a c xs a' d ys zs w hlx hly H hv
  obtain ⟨W1, hW1, HB1, hs1, XB⟩ := boxPl w N a c xs a' d ys zs
  obtain ⟨W, hW⟩ : ∃ W, W = W1.alloc (.cells #[.int .i64 fn, .int .i64 sn] 143) := ⟨_, rfl⟩
  have b2 : Below W1.heap.size W1 W := by rw [hW]; exact (Below.refl _ _).alloc (Nat.le_refl _) _
  have HB := Lib.hid (HB1.out.trans (b2.mono HB1.out.size))
  have hz1 : W1.heap.size = w.heap.size + 1 := by rw [hW1]; simp
  have t0 : W.cell? ⟨w.heap.size + 1, 0, none⟩ = some (.int .i64 fn) := by rw [hW, ← hz1]; exact World.cell?_alloc_new _ _ _ 0
  have t1 : W.cell? ⟨w.heap.size + 1, 1, none⟩ = some (.int .i64 sn) := by rw [hW, ← hz1]; exact World.cell?_alloc_new _ _ _ 1
  obtain ⟨⟨m0, m1, m2⟩, mz⟩ := XB.out W b2
  have hN0 : N ≠ 0 := fun h => by have := hv.2 h; omega
  obtain ⟨v, hv2, hzv⟩ := H.wz.2 hN0 sn (by omega)
  have hN := H.n
  have hx := H.x
  have z2 := mz sn (by omega)
  rw [hzv] at z2
  obtain ⟨u, hu, hzu⟩ := H.wz.2 hN0 fn (by omega)
  have z1 := mz fn (by omega)
  rw [hzu] at z1
  obtain ⟨bx, ox, rfl, hbx, hcx⟩ := H.atx.2.resolve_left (by omega)
  obtain ⟨m, hm⟩ : ∃ m, m = nth xs u := ⟨_, rfl⟩
  have z3 : W.cell? ⟨bx, ox + u, none⟩ = some (.int .i64 m) := by rw [hm]; exact (HB.out.cell (p := ⟨bx, ox + u, none⟩) hbx).trans (hcx u (by omega))
  have HR := Lib.hid (show hol xs ys N (.le 0 fn sn) zs = bitB m (v : Int) by simp only [hol, if_pos]; rw [Int.toNat_natCast, Int.toNat_natCast, hzu, hzv, Int.toNat_natCast, hm])
  have hux : u < xs.length := by omega
  have a_S := fun W => asS_yes W (.agg #[.int .i64 fn, .int .i64 sn])
  have hv8 : (v : Int) ≤ 30 := by omega
  have HW1 := Lib.hid hW1
  have HW := Lib.hid hW
  rw [HR.out]
  have KB := Lib.hid (fun W => hasMember_any m (v : Int) W (by omega) hv8)
  obtain ⟨r, hr⟩ : ∃ r, r = bitB m (v : Int) := ⟨_, rfl⟩
  rw [← hr] at KB ⊢
  have FX := Lib.hid (And.intro m0 (And.intro m1 (And.intro m2 (And.intro t0 (And.intro t1 (And.intro z1 (And.intro z2 z3)))))))
  clear H hv hW hW1 hz1 hs1 mz b2 hzv hx HR hm hr hzu hcx
  clear m0 m1 m2 t0 t1 z1 z2 z3
  unfold plc
  go_enter Try.func112, Try.ntmps112
  go_wp2
  rw [← HW1.out, ← HW.out]
  clear a_S
  obtain ⟨m0, m1, m2, t0, t1, z1, z2, z3⟩ := FX.out
  go_quiet ((go_at_call 151; exact q_same (KB.out _) rfl))
  go_wp2
  go_ret
  exact ⟨rfl, below_drewN' HB.out _⟩

set_option maxHeartbeats 8000000 in
set_option maxRecDepth 100000 in
theorem hq_e (fn sn : Nat) (h2 : fn ≤ 9) (h4 : sn ≤ 9) : HqC (.iface 145 (.agg #[.int .i64 fn, .int .i64 sn])) (.le 1 fn sn) := by
  intro N a c xs a' d ys zs w hlx hly H hv
  obtain ⟨W1, hW1, HB1, hs1, XB⟩ := boxPl w N a c xs a' d ys zs
  obtain ⟨W, hW⟩ : ∃ W, W = W1.alloc (.cells #[.int .i64 fn, .int .i64 sn] 145) := ⟨_, rfl⟩
  have b2 : Below W1.heap.size W1 W := by rw [hW]; exact (Below.refl _ _).alloc (Nat.le_refl _) _
  have HB := Lib.hid (HB1.out.trans (b2.mono HB1.out.size))
  have hz1 : W1.heap.size = w.heap.size + 1 := by rw [hW1]; simp
  have t0 : W.cell? ⟨w.heap.size + 1, 0, none⟩ = some (.int .i64 fn) := by rw [hW, ← hz1]; exact World.cell?_alloc_new _ _ _ 0
  have t1 : W.cell? ⟨w.heap.size + 1, 1, none⟩ = some (.int .i64 sn) := by rw [hW, ← hz1]; exact World.cell?_alloc_new _ _ _ 1
  obtain ⟨⟨m0, m1, m2⟩, mz⟩ := XB.out W b2
  have hN0 : N ≠ 0 := fun h => by have := hv.2 h; omega
  obtain ⟨v, hv2, hzv⟩ := H.wz.2 hN0 sn (by omega)
  have hN := H.n
  have hx := H.x
  have z2 := mz sn (by omega)
  rw [hzv] at z2
  obtain ⟨u, hu, hzu⟩ := H.wz.2 hN0 fn (by omega)
  have z1 := mz fn (by omega)
  rw [hzu] at z1
  have HR := Lib.hid (show hol xs ys N (.le 1 fn sn) zs = ((u : Int) == (v : Int)) by simp only [hol, if_neg (show ¬ ((1 : Int) = 0) by omega), if_pos]; rw [Int.toNat_natCast, Int.toNat_natCast, hzu, hzv])
  have a_S := fun W => asS_no W 145 (.agg #[.int .i64 fn, .int .i64 sn]) (by decide)
  have a_E := fun W => asE_yes W (.agg #[.int .i64 fn, .int .i64 sn])
  have hv8 : (v : Int) ≤ 30 := by omega
  have HW1 := Lib.hid hW1
  have HW := Lib.hid hW
  rw [HR.out]
  have FX := Lib.hid (And.intro m0 (And.intro m1 (And.intro m2 (And.intro t0 (And.intro t1 (And.intro z1 z2))))))
  clear H hv hW hW1 hz1 hs1 mz b2 hzv hx HR hzu
  clear m0 m1 m2 t0 t1 z1 z2
  unfold plc
  go_enter Try.func112, Try.ntmps112
  go_wp2
  rw [← HW1.out, ← HW.out]
  clear a_S a_E
  obtain ⟨m0, m1, m2, t0, t1, z1, z2⟩ := FX.out
  go_quiet (fail)
  go_wp2
  go_ret
  first
  | exact ⟨rfl, below_drewN' HB.out _⟩
  | exact ⟨ret_bool (by simp), below_drewN' HB.out _⟩

set_option maxHeartbeats 8000000 in
set_option maxRecDepth 100000 in
theorem hq_v (fn sn : Nat) (h4 : sn ≤ 9) : HqC (.iface 147 (.agg #[.int .i64 fn, .int .i64 sn])) (.le 2 fn sn) := by
  intro N a c xs a' d ys zs w hlx hly H hv
  obtain ⟨W1, hW1, HB1, hs1, XB⟩ := boxPl w N a c xs a' d ys zs
  obtain ⟨W, hW⟩ : ∃ W, W = W1.alloc (.cells #[.int .i64 fn, .int .i64 sn] 147) := ⟨_, rfl⟩
  have b2 : Below W1.heap.size W1 W := by rw [hW]; exact (Below.refl _ _).alloc (Nat.le_refl _) _
  have HB := Lib.hid (HB1.out.trans (b2.mono HB1.out.size))
  have hz1 : W1.heap.size = w.heap.size + 1 := by rw [hW1]; simp
  have t0 : W.cell? ⟨w.heap.size + 1, 0, none⟩ = some (.int .i64 fn) := by rw [hW, ← hz1]; exact World.cell?_alloc_new _ _ _ 0
  have t1 : W.cell? ⟨w.heap.size + 1, 1, none⟩ = some (.int .i64 sn) := by rw [hW, ← hz1]; exact World.cell?_alloc_new _ _ _ 1
  obtain ⟨⟨m0, m1, m2⟩, mz⟩ := XB.out W b2
  have hN0 : N ≠ 0 := fun h => by have := hv.2 h; omega
  obtain ⟨v, hv2, hzv⟩ := H.wz.2 hN0 sn (by omega)
  have hN := H.n
  have hx := H.x
  have z2 := mz sn (by omega)
  rw [hzv] at z2
  have hfy : fn < ys.length := hv.1 rfl
  obtain ⟨bx, ox, rfl, hbx, hcx⟩ := H.aty.2.resolve_left (by omega)
  obtain ⟨m, hm⟩ : ∃ m, m = nth ys fn := ⟨_, rfl⟩
  have z3 : W.cell? ⟨bx, ox + fn, none⟩ = some (.int .i64 m) := by rw [hm]; exact (HB.out.cell (p := ⟨bx, ox + fn, none⟩) hbx).trans (hcx fn hfy)
  have HR := Lib.hid (show hol xs ys N (.le 2 fn sn) zs = bitB m (v : Int) by simp only [hol, if_neg (show ¬ ((2 : Int) = 0) by omega), if_neg (show ¬ ((2 : Int) = 1) by omega), if_pos]; rw [Int.toNat_natCast, Int.toNat_natCast, hzv, hm])
  have a_S := fun W => asS_no W 147 (.agg #[.int .i64 fn, .int .i64 sn]) (by decide)
  have a_E := fun W => asE_no W 147 (.agg #[.int .i64 fn, .int .i64 sn]) (by decide)
  have a_V := fun W => asV_yes W (.agg #[.int .i64 fn, .int .i64 sn])
  have hv8 : (v : Int) ≤ 30 := by omega
  have HW1 := Lib.hid hW1
  have HW := Lib.hid hW
  rw [HR.out]
  have KB := Lib.hid (fun W => hasMember_any m (v : Int) W (by omega) hv8)
  obtain ⟨r, hr⟩ : ∃ r, r = bitB m (v : Int) := ⟨_, rfl⟩
  rw [← hr] at KB ⊢
  have FX := Lib.hid (And.intro m0 (And.intro m1 (And.intro m2 (And.intro t0 (And.intro t1 (And.intro z2 z3))))))
  clear H hv hW hW1 hz1 hs1 mz b2 hzv hx HR hm hr hcx
  clear m0 m1 m2 t0 t1 z2 z3
  unfold plc
  go_enter Try.func112, Try.ntmps112
  go_wp2
  rw [← HW1.out, ← HW.out]
  clear a_S a_E a_V
  obtain ⟨m0, m1, m2, t0, t1, z2, z3⟩ := FX.out
  go_quiet ((go_at_call 151; exact q_same (KB.out _) rfl))
  go_wp2
  go_ret
  exact ⟨rfl, below_drewN' HB.out _⟩

set_option maxHeartbeats 8000000 in
set_option maxRecDepth 100000 in
theorem hq_f : HqC (.iface 193 (.agg #[])) (.le 3 0 0) := by
  intro N a c xs a' d ys zs w hlx hly H hv
  obtain ⟨W1, hW1, HB1, hs1, XB⟩ := boxPl w N a c xs a' d ys zs
  have a_S := fun W => asS_no W 193 (.agg #[]) (by decide)
  have a_E := fun W => asE_no W 193 (.agg #[]) (by decide)
  have a_V := fun W => asV_no W 193 (.agg #[]) (by decide)
  have a_L := fun W => asL_no W 193 (.agg #[]) (by decide)
  have a_Q := fun W => asQ_no W 193 (.agg #[]) (by decide)
  have HW1 := Lib.hid hW1
  have HR := Lib.hid (show hol xs ys N (.le 3 0 0) zs = false by simp only [hol, if_neg (show ¬ ((3 : Int) = 0) by omega), if_neg (show ¬ ((3 : Int) = 1) by omega), if_neg (show ¬ ((3 : Int) = 2) by omega)])
  rw [HR.out]
  clear H hv hW1 hs1 HR
  unfold plc
  go_enter Try.func112, Try.ntmps112
  go_wp2
  rw [← HW1.out]
  go_wp2
  go_ret
  exact ⟨rfl, HB1.out⟩

end Go.Proofs.Ytbfnagmjnaacoaa
