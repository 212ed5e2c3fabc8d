/- The model's value of a point formula, at formulas of one node. Conditions: those in the theorems. -/
import Derived.Deep.RegionWith
import Derived.Deep.RegionLaw
import Derived.RegionTactic
import Derived.BigRegion
import Derived.ChangeAlike
import Derived.Test.YtbfnagmjnaacoaaHoM
namespace Go.Proofs.Ytbfnagmjnaacoaa
open Go.RowKit

/-- What lies there: the model, the list of worlds. -/
structure HoAt (w : World) (N : Nat) (a : Option Addr) (c : Nat) (xs : List Int) (a' : Option Addr) (d : Nat) (ys : List Int) (az : Option Addr) (cz : Nat) (zs : List Int) : Prop where
  n : N ≤ 8
  x : xs.length = N
  atx : At w a xs.length xs
  aty : At w a' ys.length ys
  atz : At w az 10 zs
  wz : Wz N zs
  cap : az = none → cz = 0
theorem HoAt.keep {w w' : World} {N : Nat} {a : Option Addr} {c : Nat} {xs : List Int} {a' : Option Addr} {d : Nat} {ys : List Int} {az : Option Addr} {cz : Nat} {zs : List Int} (h : HoAt w N a c xs a' d ys az cz zs) (hb : Below w.heap.size w w') : HoAt w' N a c xs a' d ys az cz zs :=
  ⟨h.n, h.x, h.atx.keep hb (Nat.le_refl _), h.aty.keep hb (Nat.le_refl _), h.atz.keep hb (Nat.le_refl _), h.wz, h.cap⟩

/-- What l10Holds is to do. -/
def HolC (f : Pt) : Prop := ∀ (N : Nat) (a : Option Addr) (c : Nat) (xs : List Int) (a' : Option Addr) (d : Nat) (ys : List Int) (az : Option Addr) (cz : Nat) (zs : List Int) (b off len cap : Nat) (w : World), len ≤ 1048576 → xs.length ≤ 1048576 → ys.length ≤ 1048576 → HoAt w N a c xs a' d ys az cz zs → vok N ys.length f → AtT w b off len cap f →
    Calls Try.prog 50 #[.agg #[.int .i64 N, .slice a xs.length c, .slice a' ys.length d], .slice (some ⟨b, off, none⟩) len cap, .slice az 10 cz] w fun e w' => e = .returned (.bool (hol xs ys N f zs)) ∧ Below w.heap.size w w'

/-- The two boxes: the model's, the node's. -/
theorem boxHo (w : World) (N : Int) (a : Option Addr) (l c : Nat) (a' : Option Addr) (m d : Nat) (k f s : Int) : ∃ W, W = (w.alloc (.cells #[.int .i64 N, .slice a l c, .slice a' m d] 40)).alloc (.cells #[.int .i64 k, .int .i64 f, .int .i64 s] 76) ∧ Hid (Below w.heap.size w W) ∧ W.heap.size = w.heap.size + 2 ∧
    Hid (∀ w1, Below W.heap.size W w1 → (w1.cell? ⟨w.heap.size, 0, none⟩ = some (.int .i64 N) ∧ w1.cell? ⟨w.heap.size, 1, none⟩ = some (.slice a l c) ∧ w1.cell? ⟨w.heap.size, 2, none⟩ = some (.slice a' m d)) ∧ (w1.cell? ⟨w.heap.size + 1, 0, none⟩ = some (.int .i64 k) ∧ w1.cell? ⟨w.heap.size + 1, 1, none⟩ = some (.int .i64 f) ∧ w1.cell? ⟨w.heap.size + 1, 2, none⟩ = some (.int .i64 s))) := by
  have b1 := alloc_keep w (.cells #[.int .i64 N, .slice a l c, .slice a' m d] 40)
  have b2 := alloc_keep (w.alloc (.cells #[.int .i64 N, .slice a l c, .slice a' m d] 40)) (.cells #[.int .i64 k, .int .i64 f, .int .i64 s] 76)
  refine ⟨_, rfl, Lib.hid (b1.1.trans (b2.1.mono b1.1.size)), by simp, Lib.hid (fun w1 hb => ?_)⟩
  have hs : w.heap.size < (w.alloc (.cells #[.int .i64 N, .slice a l c, .slice a' m d] 40)).heap.size := by simp
  refine ⟨⟨?_, ?_, ?_⟩, ?_, ?_, ?_⟩
  · exact (hb.cell (p := ⟨w.heap.size, 0, none⟩) (by have h1 := b1.2; have h2 := b2.2; show w.heap.size < _; omega)).trans ((b2.1.cell (p := ⟨w.heap.size, 0, none⟩) hs).trans (World.cell?_alloc_new _ _ _ 0))
  · exact (hb.cell (p := ⟨w.heap.size, 1, none⟩) (by have h1 := b1.2; have h2 := b2.2; show w.heap.size < _; omega)).trans ((b2.1.cell (p := ⟨w.heap.size, 1, none⟩) hs).trans (World.cell?_alloc_new _ _ _ 1))
  · exact (hb.cell (p := ⟨w.heap.size, 2, none⟩) (by have h1 := b1.2; have h2 := b2.2; show w.heap.size < _; omega)).trans ((b2.1.cell (p := ⟨w.heap.size, 2, none⟩) hs).trans (World.cell?_alloc_new _ _ _ 2))
  · exact (hb.cell (p := ⟨w.heap.size + 1, 0, none⟩) (by have h1 := b1.2; have h2 := b2.2; show w.heap.size + 1 < _; omega)).trans (World.cell?_alloc_at _ _ _ _ (by simp))
  · exact (hb.cell (p := ⟨w.heap.size + 1, 1, none⟩) (by have h1 := b1.2; have h2 := b2.2; show w.heap.size + 1 < _; omega)).trans (World.cell?_alloc_at _ _ _ _ (by simp))
  · exact (hb.cell (p := ⟨w.heap.size + 1, 2, none⟩) (by have h1 := b1.2; have h2 := b2.2; show w.heap.size + 1 < _; omega)).trans (World.cell?_alloc_at _ _ _ _ (by simp))

set_option maxHeartbeats 4000000 in
set_option maxRecDepth 100000 in
theorem hol_s (f s : Int) (h1 : 0 ≤ f) (h2 : f ≤ 9) (h3 : 0 ≤ s) (h4 : s ≤ 9) : HolC (.le 0 f s) := by
  intro N a c xs a' d ys az cz zs b off len cap w hl hlx hly H hv h
  obtain ⟨hb, c1, c2, c3⟩ := h.head
  have hlen := h.len
  have h0 : 0 < len := by rw [hlen]; exact Pt.sz_pos _
  replace c1 : w.cell? ⟨b, off, none⟩ = some (.int .i64 0) := c1
  replace c2 : w.cell? ⟨b, off + 1, none⟩ = some (.int .i64 f) := c2
  replace c3 : w.cell? ⟨b, off + 2, none⟩ = some (.int .i64 s) := c3
  obtain ⟨W, hW, HB, hWs, XB⟩ := boxHo w N a xs.length c a' ys.length d 0 f s
  obtain ⟨fn, rfl⟩ := Int.eq_ofNat_of_zero_le h1
  obtain ⟨sn, rfl⟩ := Int.eq_ofNat_of_zero_le h3
  have hN0 : N ≠ 0 := fun h => by have := hv.2 h; omega
  obtain ⟨u, hu, hzu⟩ := H.wz.2 hN0 fn (by omega)
  obtain ⟨v, hv2, hzv⟩ := H.wz.2 hN0 sn (by omega)
  have hN := H.n
  have hx := H.x
  obtain ⟨bz, oz, rfl, hbz, hcz⟩ := H.atz.2.resolve_left (by omega)
  obtain ⟨bx, ox, rfl, hbx, hcx⟩ := H.atx.2.resolve_left (by omega)
  have z1 : W.cell? ⟨bz, oz + fn, none⟩ = some (.int .i64 (u : Int)) := by rw [← hzu]; exact (HB.out.cell (p := ⟨bz, oz + fn, none⟩) hbz).trans (hcz fn (by omega))
  have z2 : W.cell? ⟨bz, oz + sn, none⟩ = some (.int .i64 (v : Int)) := by rw [← hzv]; exact (HB.out.cell (p := ⟨bz, oz + sn, none⟩) hbz).trans (hcz sn (by omega))
  obtain ⟨m, hm⟩ : ∃ m, m = nth xs u := ⟨_, rfl⟩
  have z3 : W.cell? ⟨bx, ox + u, none⟩ = some (.int .i64 m) := by rw [hm]; exact (HB.out.cell (p := ⟨bx, ox + u, none⟩) hbx).trans (hcx u (by omega))
  obtain ⟨⟨m0, m1, m2⟩, k0, k1, k2⟩ := XB.out W (Below.refl _ _)
  have HR := Lib.hid (show hol xs ys N (.le 0 fn sn) zs = bitB m (v : Int) by simp only [hol, if_pos]; rw [Int.toNat_natCast, Int.toNat_natCast, hzu, hzv, Int.toNat_natCast, hm])
  have hux : u < xs.length := by omega
  have hv8 : (v : Int) ≤ 30 := by omega
  have HW := Lib.hid hW
  have hfn : fn < 10 := by omega
  have hsn : sn < 10 := by omega
  rw [HR.out]
  have KB := Lib.hid (fun W => l01Bit_any m (v : Int) W (by omega) hv8)
  obtain ⟨r, hr⟩ : ∃ r, r = bitB m (v : Int) := ⟨_, rfl⟩
  rw [← hr] at KB ⊢
  clear h hlen H hv hcz hcx hW hm hr hzu hzv h1 h2 h3 h4 hx hWs HR
  go_enter Try.func50, Try.ntmps50
  go_wp2
  rw [← HW.out]
  clear c1 c2 c3
  go_quiet ((go_at_call 105; exact q_same (KB.out _) rfl))
  go_wp2
  go_ret
  exact ⟨rfl, below_drewN' HB.out _⟩

set_option maxHeartbeats 4000000 in
set_option maxRecDepth 100000 in
theorem hol_e (f s : Int) (h1 : 0 ≤ f) (h2 : f ≤ 9) (h3 : 0 ≤ s) (h4 : s ≤ 9) : HolC (.le 1 f s) := by
  intro N a c xs a' d ys az cz zs b off len cap w hl hlx hly H hv h
  obtain ⟨hb, c1, c2, c3⟩ := h.head
  have hlen := h.len
  have h0 : 0 < len := by rw [hlen]; exact Pt.sz_pos _
  replace c1 : w.cell? ⟨b, off, none⟩ = some (.int .i64 1) := c1
  replace c2 : w.cell? ⟨b, off + 1, none⟩ = some (.int .i64 f) := c2
  replace c3 : w.cell? ⟨b, off + 2, none⟩ = some (.int .i64 s) := c3
  obtain ⟨W, hW, HB, hWs, XB⟩ := boxHo w N a xs.length c a' ys.length d 1 f s
  obtain ⟨fn, rfl⟩ := Int.eq_ofNat_of_zero_le h1
  obtain ⟨sn, rfl⟩ := Int.eq_ofNat_of_zero_le h3
  have hN0 : N ≠ 0 := fun h => by have := hv.2 h; omega
  obtain ⟨u, hu, hzu⟩ := H.wz.2 hN0 fn (by omega)
  obtain ⟨v, hv2, hzv⟩ := H.wz.2 hN0 sn (by omega)
  have hN := H.n
  have hx := H.x
  obtain ⟨bz, oz, rfl, hbz, hcz⟩ := H.atz.2.resolve_left (by omega)
  have z1 : W.cell? ⟨bz, oz + fn, none⟩ = some (.int .i64 (u : Int)) := by rw [← hzu]; exact (HB.out.cell (p := ⟨bz, oz + fn, none⟩) hbz).trans (hcz fn (by omega))
  have z2 : W.cell? ⟨bz, oz + sn, none⟩ = some (.int .i64 (v : Int)) := by rw [← hzv]; exact (HB.out.cell (p := ⟨bz, oz + sn, none⟩) hbz).trans (hcz sn (by omega))
  obtain ⟨⟨m0, m1, m2⟩, k0, k1, k2⟩ := XB.out W (Below.refl _ _)
  have HR := Lib.hid (show hol xs ys N (.le 1 fn sn) zs = ((u : Int) == (v : Int)) by simp only [hol, if_neg (show ¬ ((1 : Int) = 0) by omega), if_pos]; rw [Int.toNat_natCast, Int.toNat_natCast, hzu, hzv])
  have hv8 : (v : Int) ≤ 30 := by omega
  have HW := Lib.hid hW
  have hfn : fn < 10 := by omega
  have hsn : sn < 10 := by omega
  rw [HR.out]
  clear h hlen H hv hcz hW hzu hzv h1 h2 h3 h4 hx hWs HR
  go_enter Try.func50, Try.ntmps50
  go_wp2
  rw [← HW.out]
  clear c1 c2 c3
  go_quiet (fail)
  go_wp2
  go_ret
  first
  | exact ⟨rfl, below_drewN' HB.out _⟩
  | exact ⟨ret_bool (by simp), below_drewN' HB.out _⟩

set_option maxHeartbeats 4000000 in
set_option maxRecDepth 100000 in
theorem hol_v (f s : Int) (h1 : 0 ≤ f) (h2 : f ≤ 5) (h3 : 0 ≤ s) (h4 : s ≤ 9) : HolC (.le 2 f s) := by
  intro N a c xs a' d ys az cz zs b off len cap w hl hlx hly H hv h
  obtain ⟨hb, c1, c2, c3⟩ := h.head
  have hlen := h.len
  have h0 : 0 < len := by rw [hlen]; exact Pt.sz_pos _
  replace c1 : w.cell? ⟨b, off, none⟩ = some (.int .i64 2) := c1
  replace c2 : w.cell? ⟨b, off + 1, none⟩ = some (.int .i64 f) := c2
  replace c3 : w.cell? ⟨b, off + 2, none⟩ = some (.int .i64 s) := c3
  obtain ⟨W, hW, HB, hWs, XB⟩ := boxHo w N a xs.length c a' ys.length d 2 f s
  obtain ⟨fn, rfl⟩ := Int.eq_ofNat_of_zero_le h1
  obtain ⟨sn, rfl⟩ := Int.eq_ofNat_of_zero_le h3
  have hN0 : N ≠ 0 := fun h => by have := hv.2 h; omega
  obtain ⟨v, hv2, hzv⟩ := H.wz.2 hN0 sn (by omega)
  have hN := H.n
  have hx := H.x
  obtain ⟨bz, oz, rfl, hbz, hcz⟩ := H.atz.2.resolve_left (by omega)
  have hfy : fn < ys.length := hv.1 rfl
  obtain ⟨bx, ox, rfl, hbx, hcx⟩ := H.aty.2.resolve_left (by omega)
  have z2 : W.cell? ⟨bz, oz + sn, none⟩ = some (.int .i64 (v : Int)) := by rw [← hzv]; exact (HB.out.cell (p := ⟨bz, oz + sn, none⟩) hbz).trans (hcz sn (by omega))
  obtain ⟨m, hm⟩ : ∃ m, m = nth ys fn := ⟨_, rfl⟩
  have z3 : W.cell? ⟨bx, ox + fn, none⟩ = some (.int .i64 m) := by rw [hm]; exact (HB.out.cell (p := ⟨bx, ox + fn, none⟩) hbx).trans (hcx fn hfy)
  obtain ⟨⟨m0, m1, m2⟩, k0, k1, k2⟩ := XB.out W (Below.refl _ _)
  have HR := Lib.hid (show hol xs ys N (.le 2 fn sn) zs = bitB m (v : Int) by simp only [hol, if_neg (show ¬ ((2 : Int) = 0) by omega), if_neg (show ¬ ((2 : Int) = 1) by omega), if_pos]; rw [Int.toNat_natCast, Int.toNat_natCast, hzv, hm])
  have hv8 : (v : Int) ≤ 30 := by omega
  have HW := Lib.hid hW
  have hfn : fn < 10 := by omega
  have hsn : sn < 10 := by omega
  rw [HR.out]
  have KB := Lib.hid (fun W => l01Bit_any m (v : Int) W (by omega) hv8)
  obtain ⟨r, hr⟩ : ∃ r, r = bitB m (v : Int) := ⟨_, rfl⟩
  rw [← hr] at KB ⊢
  clear h hlen H hv hcz hcx hW hm hr hzv h1 h2 h3 h4 hx hWs HR
  go_enter Try.func50, Try.ntmps50
  go_wp2
  rw [← HW.out]
  clear c1 c2 c3
  go_quiet ((go_at_call 105; exact q_same (KB.out _) rfl))
  go_wp2
  go_ret
  exact ⟨rfl, below_drewN' HB.out _⟩

set_option maxHeartbeats 4000000 in
set_option maxRecDepth 100000 in
theorem hol_f : HolC (.le 3 0 0) := by
  intro N a c xs a' d ys az cz zs b off len cap w hl hlx hly H hv h
  obtain ⟨hb, c1, c2, c3⟩ := h.head
  have hlen := h.len
  have h0 : 0 < len := by rw [hlen]; exact Pt.sz_pos _
  replace c1 : w.cell? ⟨b, off, none⟩ = some (.int .i64 3) := c1
  replace c2 : w.cell? ⟨b, off + 1, none⟩ = some (.int .i64 0) := c2
  replace c3 : w.cell? ⟨b, off + 2, none⟩ = some (.int .i64 0) := c3
  obtain ⟨W, hW, HB, hWs, XB⟩ := boxHo w N a xs.length c a' ys.length d 3 0 0
  have HW := Lib.hid hW
  have HR := Lib.hid (show hol xs ys N (.le 3 0 0) zs = false by simp only [hol, if_neg (show ¬ ((3 : Int) = 0) by omega), if_neg (show ¬ ((3 : Int) = 1) by omega), if_neg (show ¬ ((3 : Int) = 2) by omega)])
  rw [HR.out]
  clear h hlen H hv hW hWs HR
  go_enter Try.func50, Try.ntmps50
  go_wp2
  rw [← HW.out]
  go_wp2
  go_ret
  exact ⟨rfl, HB.out⟩

end Go.Proofs.Ytbfnagmjnaacoaa
