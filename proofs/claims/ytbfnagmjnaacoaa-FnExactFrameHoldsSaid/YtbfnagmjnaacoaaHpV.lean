/- The program's value of a point formula: holds, valueOf. Conditions: those in the theorems. -/
import Derived.Test.YtbfnagmjnaacoaaHpQ
namespace Go.Proofs.Ytbfnagmjnaacoaa
open Go.RowKit

theorem holds_any (f : Pt) (hf : f.ok) : HqC (tv f) f := by
  induction f with
  | le k x y =>
    rcases hf with ⟨rfl | rfl, h1, h2, h3, h4⟩ | ⟨rfl, h1, h2, h3, h4⟩ | ⟨rfl, rfl, rfl⟩
    · rw [show tv (.le 0 x y) = .iface 143 (.agg #[.int .i64 x, .int .i64 y]) from by rw [tv, if_pos rfl]]
      obtain ⟨m, rfl⟩ := Int.eq_ofNat_of_zero_le h1
      obtain ⟨n, rfl⟩ := Int.eq_ofNat_of_zero_le h3
      exact hq_s m n (by omega) (by omega)
    · rw [show tv (.le 1 x y) = .iface 145 (.agg #[.int .i64 x, .int .i64 y]) from by rw [tv, if_neg (by omega), if_pos rfl]]
      obtain ⟨m, rfl⟩ := Int.eq_ofNat_of_zero_le h1
      obtain ⟨n, rfl⟩ := Int.eq_ofNat_of_zero_le h3
      exact hq_e m n (by omega) (by omega)
    · rw [show tv (.le 2 x y) = .iface 147 (.agg #[.int .i64 x, .int .i64 y]) from by rw [tv, if_neg (by omega), if_neg (by omega), if_pos rfl]]
      obtain ⟨m, rfl⟩ := Int.eq_ofNat_of_zero_le h1
      obtain ⟨n, rfl⟩ := Int.eq_ofNat_of_zero_le h3
      exact hq_v m n (by omega)
    · rw [show tv (.le 3 0 0) = .iface 193 (.agg #[]) from by rw [tv, if_neg (by omega), if_neg (by omega), if_neg (by omega)]]; exact hq_f
  | un k x a ih =>
    obtain ⟨t, u, hv⟩ := tv_iface a
    have h := ih hf.2.2
    rw [hv] at h
    obtain ⟨xn, rfl⟩ := Int.eq_ofNat_of_zero_le hf.2.1.1
    rw [show tv (Pt.un k xn a) = .iface 151 (.agg #[.int .i64 k, .int .i64 xn, .iface t u]) from by rw [← hv]; rfl]
    exact hq_q k xn a t u (qh_any k xn a hf.1 (by have := hf.2.1.2; omega) t u h)
  | bi k a b iha ihb =>
    obtain ⟨t, u, hv⟩ := tv_iface a
    obtain ⟨t', u', hv'⟩ := tv_iface b
    have h := iha hf.2.1
    have h' := ihb hf.2.2
    rw [hv] at h
    rw [hv'] at h'
    rw [show tv (Pt.bi k a b) = .iface 149 (.agg #[.int .i64 k, .iface t u, .iface t' u']) from by rw [← hv, ← hv']; rfl]
    exact hq_l k a b t t' u u' (lh_any k a b hf.1 t t' u u' h h')

/-- The code of a value: whether there is one. -/
def voC (N : Nat) (f : Pt) : Int := if fitP N (nst f) then 0 else 3
def voR (xs ys : List Int) (N : Nat) (f : Pt) (zs : List Int) : Bool := fitP N (nst f) && hol xs ys N f zs

/-- The box of a placing. -/
theorem boxP1 (w : World) (N : Nat) (a : Option Addr) (c : Nat) (xs : List Int) (a' : Option Addr) (d : Nat) (ys : List Int) (zs : List Int) : ∃ W, W = w.alloc (.cells #[.int .i64 (N : Int), .slice a xs.length c, .slice a' ys.length d, .int .i64 (nth zs 0), .int .i64 (nth zs 1), .int .i64 (nth zs 2), .int .i64 (nth zs 3), .int .i64 (nth zs 4), .int .i64 (nth zs 5), .int .i64 (nth zs 6), .int .i64 (nth zs 7), .int .i64 (nth zs 8), .int .i64 (nth zs 9)] 87) ∧ Hid (Below w.heap.size w W) ∧ W.heap.size = w.heap.size + 1 ∧
    Hid (∀ w1, Below W.heap.size W w1 → w1.cell? ⟨w.heap.size, 0, none⟩ = some (.int .i64 (N : Int)) ∧ w1.cell? ⟨w.heap.size, 1, none⟩ = some (.slice a xs.length c) ∧ w1.cell? ⟨w.heap.size, 2, none⟩ = some (.slice a' ys.length d) ∧ w1.cell? ⟨w.heap.size, 3, none⟩ = some (.int .i64 (nth zs 0)) ∧ w1.cell? ⟨w.heap.size, 4, none⟩ = some (.int .i64 (nth zs 1)) ∧ w1.cell? ⟨w.heap.size, 5, none⟩ = some (.int .i64 (nth zs 2)) ∧ w1.cell? ⟨w.heap.size, 6, none⟩ = some (.int .i64 (nth zs 3)) ∧ w1.cell? ⟨w.heap.size, 7, none⟩ = some (.int .i64 (nth zs 4)) ∧ w1.cell? ⟨w.heap.size, 8, none⟩ = some (.int .i64 (nth zs 5)) ∧ w1.cell? ⟨w.heap.size, 9, none⟩ = some (.int .i64 (nth zs 6)) ∧ w1.cell? ⟨w.heap.size, 10, none⟩ = some (.int .i64 (nth zs 7)) ∧ w1.cell? ⟨w.heap.size, 11, none⟩ = some (.int .i64 (nth zs 8)) ∧ w1.cell? ⟨w.heap.size, 12, none⟩ = some (.int .i64 (nth zs 9))) := by
  obtain ⟨W, hW, HB, hs, XB⟩ := boxPl w N a c xs a' d ys zs
  have hz : W.heap.size = w.heap.size + 1 := by rw [hW]; simp
  refine ⟨W, hW, HB, hz, Lib.hid (fun w1 hb => ?_)⟩
  obtain ⟨⟨m0, m1, m2⟩, mz⟩ := XB.out w1 hb
  exact ⟨m0, m1, m2, mz 0 (by omega), mz 1 (by omega), mz 2 (by omega), mz 3 (by omega), mz 4 (by omega), mz 5 (by omega), mz 6 (by omega), mz 7 (by omega), mz 8 (by omega), mz 9 (by omega)⟩

set_option maxHeartbeats 8000000 in
set_option maxRecDepth 100000 in
theorem valueOf_any (f : Pt) (hf : f.ok) (hz : f.sz ≤ 1048576) (N : Nat) (a : Option Addr) (c : Nat) (xs : List Int) (a' : Option Addr) (d : Nat) (ys : List Int) (zs : List Int) (b off len cap : Nat) (w : World) (hl : len ≤ 1048576) (hlx : xs.length ≤ 1048576) (hly : ys.length ≤ 1048576) (H : HpAt w N a xs a' ys zs) (hv : vok N ys.length f) (h : AtP w (some ⟨b, off, none⟩) len f.enc) :
    Calls Try.prog 54 #[plc N a c xs a' d ys zs, .slice (some ⟨b, off, none⟩) len cap] w fun e w' => e = .returned (.tuple #[.bool (voR xs ys N f zs), .int .i64 (voC N f)]) ∧ Below w.heap.size w w' := by
  obtain ⟨W, hW, HB, hWs, XB⟩ := boxP1 w N a c xs a' d ys zs
  have TR := Lib.hid (treeOf_any f hf b off len cap W hl (h.keep HB.out (Nat.le_refl _)))
  have HV := Lib.hid (fun W => hasValues_any f hf hz N H.n W)
  have HO := Lib.hid (fun (W' : World) (hW' : Below w.heap.size w W') => holds_any f hf N a c xs a' d ys zs W' hlx hly (H.keep hW' (Nat.le_refl _)) hv)
  unfold plc at HO ⊢
  have E := Lib.hid (show voR xs ys N f zs = (fitP N (nst f) && hol xs ys N f zs) ∧ voC N f = (if fitP N (nst f) then 0 else 3) from ⟨rfl, rfl⟩)
  obtain ⟨vr, hvr⟩ : ∃ vr, vr = voR xs ys N f zs := ⟨_, rfl⟩
  obtain ⟨vc, hvc⟩ : ∃ vc, vc = voC N f := ⟨_, rfl⟩
  obtain ⟨r, hr⟩ : ∃ r, r = hol xs ys N f zs := ⟨_, rfl⟩
  obtain ⟨q, hq⟩ : ∃ q, q = fitP N (nst f) := ⟨_, rfl⟩
  obtain ⟨t, ht⟩ : ∃ t, t = tv f := ⟨_, rfl⟩
  rw [← hvr, ← hvc, ← hr, ← hq] at E
  rw [← hvr, ← hvc]
  rw [← hr, ← ht] at HO
  rw [← hq, ← ht] at HV
  rw [← ht] at TR
  obtain ⟨m0, m1, m2, m3, m4, m5, m6, m7, m8, m9, m10, m11, m12⟩ := XB.out W (Below.refl _ _)
  have HW := Lib.hid hW
  clear H hv h hW hvr hvc hr hq ht hWs hz
  go_enter Try.func54, Try.ntmps54
  go_wp2_with fail
  rw [← HW.out]
  refine TR.out.mono ?_
  rintro e w1 ⟨rfl, hb1⟩
  have T1 := Lib.hid hb1
  clear hb1 m0 m1 m2 m3 m4 m5 m6 m7 m8 m9 m10 m11 m12
  obtain ⟨m0, m1, m2, m3, m4, m5, m6, m7, m8, m9, m10, m11, m12⟩ := XB.out _ T1.out
  go_wp2_with fail
  refine (HV.out _).mono ?_
  rintro e w2 ⟨rfl, hb2⟩
  have T2 := Lib.hid (T1.out.trans (hb2.mono T1.out.size))
  clear hb2 m0 m1 m2 m3 m4 m5 m6 m7 m8 m9 m10 m11 m12
  obtain ⟨m0, m1, m2, m3, m4, m5, m6, m7, m8, m9, m10, m11, m12⟩ := XB.out _ T2.out
  have B2 := Lib.hid (HB.out.trans (T2.out.mono HB.out.size))
  cases q
  · go_wp2
    go_ret2
    exact ⟨by rw [E.out.1, E.out.2] <;> rfl, B2.out⟩
  · go_wp2_with fail
    refine (HO.out _ B2.out).mono ?_
    rintro e w3 ⟨rfl, hb3⟩
    have B3 := Lib.hid (B2.out.trans (hb3.mono B2.out.size))
    clear hb3
    go_wp2
    go_ret2
    exact ⟨by rw [E.out.1, E.out.2] <;> rfl, B3.out⟩

end Go.Proofs.Ytbfnagmjnaacoaa
