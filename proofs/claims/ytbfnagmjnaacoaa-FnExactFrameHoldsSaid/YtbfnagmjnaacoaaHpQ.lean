/- The program's value of a point formula, at quantifiers. Conditions: those in the theorems. -/
import Derived.Deep.RegionWith
import Derived.Deep.RegionLaw
import Derived.RegionTactic
import Derived.BigRegion
import Derived.ChangeAlike
import Derived.Test.YtbfnagmjnaacoaaHpT
import Derived.Test.YtbfnagmjnaacoaaGst
namespace Go.Proofs.Ytbfnagmjnaacoaa
open Go.RowKit

theorem heap_alloc_new' (w : World) (o : Obj) : (w.alloc o).heap[w.heap.size]? = some o := by show (w.heap.push o)[w.heap.size]? = some o; exact Array.getElem?_push_size

/-- The cells of a placing. -/
def pcs (N : Nat) (a : Option Addr) (c : Nat) (xs : List Int) (a' : Option Addr) (d : Nat) (ys : List Int) (zs : List Int) : Array Value := #[.int .i64 (N : Int), .slice a xs.length c, .slice a' ys.length d, .int .i64 (nth zs 0), .int .i64 (nth zs 1), .int .i64 (nth zs 2), .int .i64 (nth zs 3), .int .i64 (nth zs 4), .int .i64 (nth zs 5), .int .i64 (nth zs 6), .int .i64 (nth zs 7), .int .i64 (nth zs 8), .int .i64 (nth zs 9)]
theorem pcs_set (N : Nat) (a : Option Addr) (c : Nat) (xs : List Int) (a' : Option Addr) (d : Nat) (ys : List Int) (zs : List Int) (i : Nat) (v : Int) (hi : i < 10) (hl : zs.length = 10) : (pcs N a c xs a' d ys zs).setIfInBounds (3 + i) (.int .i64 v) = pcs N a c xs a' d ys (zs.set i v) := by
  have h10 : i = 0 ∨ i = 1 ∨ i = 2 ∨ i = 3 ∨ i = 4 ∨ i = 5 ∨ i = 6 ∨ i = 7 ∨ i = 8 ∨ i = 9 := by omega
  unfold pcs
  have hn : ∀ j, nth (zs.set i v) j = if j = i then v else nth zs j := fun j => nth_set _ _ _ _ (by omega)
  simp only [hn]
  rcases h10 with rfl | rfl | rfl | rfl | rfl | rfl | rfl | rfl | rfl | rfl <;> rfl
theorem pcs_cells {w : World} {R : Nat} {T : TypeId} {N : Nat} {a : Option Addr} {c : Nat} {xs : List Int} {a' : Option Addr} {d : Nat} {ys : List Int} {zs : List Int} (h : w.heap[R]? = some (.cells (pcs N a c xs a' d ys zs) T (0, 0))) :
    w.cell? ⟨R, 0, none⟩ = some (.int .i64 (N : Int)) ∧ w.cell? ⟨R, 1, none⟩ = some (.slice a xs.length c) ∧ w.cell? ⟨R, 2, none⟩ = some (.slice a' ys.length d) ∧ w.cell? ⟨R, 3, none⟩ = some (.int .i64 (nth zs 0)) ∧ w.cell? ⟨R, 4, none⟩ = some (.int .i64 (nth zs 1)) ∧ w.cell? ⟨R, 5, none⟩ = some (.int .i64 (nth zs 2)) ∧ w.cell? ⟨R, 6, none⟩ = some (.int .i64 (nth zs 3)) ∧ w.cell? ⟨R, 7, none⟩ = some (.int .i64 (nth zs 4)) ∧ w.cell? ⟨R, 8, none⟩ = some (.int .i64 (nth zs 5)) ∧ w.cell? ⟨R, 9, none⟩ = some (.int .i64 (nth zs 6)) ∧ w.cell? ⟨R, 10, none⟩ = some (.int .i64 (nth zs 7)) ∧ w.cell? ⟨R, 11, none⟩ = some (.int .i64 (nth zs 8)) ∧ w.cell? ⟨R, 12, none⟩ = some (.int .i64 (nth zs 9)) := by
  have e : ∀ o, w.cell? ⟨R, o, none⟩ = (pcs N a c xs a' d ys zs)[o]? := fun o => by simp [World.cell?, h]
  exact ⟨(e 0).trans rfl, (e 1).trans rfl, (e 2).trans rfl, (e 3).trans rfl, (e 4).trans rfl, (e 5).trans rfl, (e 6).trans rfl, (e 7).trans rfl, (e 8).trans rfl, (e 9).trans rfl, (e 10).trans rfl, (e 11).trans rfl, (e 12).trans rfl⟩
theorem pcs_at {w : World} {R : Nat} {T : TypeId} {N : Nat} {a : Option Addr} {c : Nat} {xs : List Int} {a' : Option Addr} {d : Nat} {ys : List Int} {zs : List Int} (h : w.heap[R]? = some (.cells (pcs N a c xs a' d ys zs) T (0, 0))) (i : Nat) (hi : i < 10) :
    w.cell? ⟨R, 3 + i, none⟩ = some (.int .i64 (nth zs i)) ∧ w.frozen? ⟨R, 3 + i, none⟩ = false := by
  obtain ⟨-, -, -, h0, h1, h2, h3, h4, h5, h6, h7, h8, h9⟩ := pcs_cells h
  refine ⟨?_, by simp [World.frozen?, h]⟩
  have h10 : i = 0 ∨ i = 1 ∨ i = 2 ∨ i = 3 ∨ i = 4 ∨ i = 5 ∨ i = 6 ∨ i = 7 ∨ i = 8 ∨ i = 9 := by omega
  rcases h10 with rfl | rfl | rfl | rfl | rfl | rfl | rfl | rfl | rfl | rfl
  · exact h0
  · exact h1
  · exact h2
  · exact h3
  · exact h4
  · exact h5
  · exact h6
  · exact h7
  · exact h8
  · exact h9
theorem cells3 {w : World} {R : Nat} {T : TypeId} {v0 v1 v2 : Value} (h : w.heap[R]? = some (.cells #[v0, v1, v2] T (0, 0))) :
    w.cell? ⟨R, 0, none⟩ = some v0 ∧ w.cell? ⟨R, 1, none⟩ = some v1 ∧ w.cell? ⟨R, 2, none⟩ = some v2 := by
  have e : ∀ o, w.cell? ⟨R, o, none⟩ = (#[v0, v1, v2] : Array Value)[o]? := fun o => by simp [World.cell?, h]
  exact ⟨(e 0).trans rfl, (e 1).trans rfl, (e 2).trans rfl⟩

/-- What lies in the two boxes of quantifierHolds. -/
structure QB (w0 w : World) (R : Nat) (N : Nat) (a : Option Addr) (c : Nat) (xs : List Int) (a' : Option Addr) (d : Nat) (ys : List Int) (ls : List Int) (v0 v1 v2 : Value) : Prop where
  b : Below R w0 w
  s : R + 2 ≤ w.heap.size
  p : w.heap[R]? = some (.cells (pcs N a c xs a' d ys ls) 87 (0, 0))
  q : w.heap[R + 1]? = some (.cells #[v0, v1, v2] 151 (0, 0))
theorem QB.keep {w0 w w' : World} {R N : Nat} {a : Option Addr} {c : Nat} {xs : List Int} {a' : Option Addr} {d : Nat} {ys ls : List Int} {v0 v1 v2 : Value} (h : QB w0 w R N a c xs a' d ys ls v0 v1 v2) (hb : Below w.heap.size w w') : QB w0 w' R N a c xs a' d ys ls v0 v1 v2 :=
  ⟨h.b.trans (hb.mono (Nat.le_trans (by omega) h.s)), Nat.le_trans h.s hb.size, (hb.block R (by have := h.s; omega)).trans h.p, (hb.block (R + 1) (by have := h.s; omega)).trans h.q⟩
theorem QB.set {w0 w : World} {R N : Nat} {a : Option Addr} {c : Nat} {xs : List Int} {a' : Option Addr} {d : Nat} {ys ls : List Int} {v0 v1 v2 : Value} (h : QB w0 w R N a c xs a' d ys ls v0 v1 v2) (i : Nat) (v : Int) (hi : i < 10) (hl : ls.length = 10) : QB w0 (w.setCell ⟨R, 3 + i, none⟩ (.int .i64 v)) R N a c xs a' d ys (ls.set i v) v0 v1 v2 :=
  ⟨h.b.setCell (p := ⟨R, 3 + i, none⟩) (Nat.le_refl _) _, by rw [show (w.setCell ⟨R, 3 + i, none⟩ (.int .i64 v)).heap.size = w.heap.size by simp [World.setCell]]; exact h.s,
    by rw [← pcs_set N a c xs a' d ys ls i v hi hl]; exact src_set h.p _ _,
    (Below.heap_setCell _ _ _ _ (by show R + 1 ≠ R; omega)).trans h.q⟩

set_option maxHeartbeats 8000000 in
set_option maxRecDepth 100000 in
theorem qh_any (k : Int) (xn : Nat) (f : Pt) (hk : k = 7 ∨ k = 8) (hxn : xn < 10) (t : TypeId) (u : Value) (ih : HqC (.iface t u) f) : QhC (.agg #[.int .i64 k, .int .i64 xn, .iface t u]) (.un k xn f) := by
  intro N a c xs a' d ys zs w hlx hly H hv
  obtain ⟨W, hW⟩ : ∃ W, W = (w.alloc (.cells #[.int .i64 (N : Int), .slice a xs.length c, .slice a' ys.length d, .int .i64 (nth zs 0), .int .i64 (nth zs 1), .int .i64 (nth zs 2), .int .i64 (nth zs 3), .int .i64 (nth zs 4), .int .i64 (nth zs 5), .int .i64 (nth zs 6), .int .i64 (nth zs 7), .int .i64 (nth zs 8), .int .i64 (nth zs 9)] 87)).alloc (.cells #[.int .i64 k, .int .i64 xn, .iface t u] 151) := ⟨_, rfl⟩
  have Q0 : Hid (QB w W w.heap.size N a c xs a' d ys zs (.int .i64 k) (.int .i64 xn) (.iface t u)) := Lib.hid (by
    rw [hW]
    refine ⟨((Below.refl _ _).alloc (Nat.le_refl _) _).alloc (by simp) _, by simp, ?_, ?_⟩
    · exact (Below.heap_alloc _ _ _ (by simp)).trans (heap_alloc_new' w _)
    · have h2 := heap_alloc_new' (w.alloc (.cells #[.int .i64 (N : Int), .slice a xs.length c, .slice a' ys.length d, .int .i64 (nth zs 0), .int .i64 (nth zs 1), .int .i64 (nth zs 2), .int .i64 (nth zs 3), .int .i64 (nth zs 4), .int .i64 (nth zs 5), .int .i64 (nth zs 6), .int .i64 (nth zs 7), .int .i64 (nth zs 8), .int .i64 (nth zs 9)] 87)) (.cells #[.int .i64 k, .int .i64 xn, .iface t u] 151)
      rwa [World.size_alloc] at h2)
  have hN := H.n
  have H0 := Lib.hid H
  have IH := Lib.hid (fun (q : Nat) (W' : World) (hW' : Below w.heap.size w W') (hq : q < N) =>
    ih N a c xs a' d ys (zs.set xn q) W' hlx hly ⟨hN, H0.out.x, (H0.out.keep hW' (Nat.le_refl _)).atx, (H0.out.keep hW' (Nat.le_refl _)).aty, H0.out.wz.set hxn hq⟩ (hv (by omega)))
  obtain ⟨pf, hpf⟩ : ∃ pf : Nat → Bool, pf = fun (q : Nat) => hol xs ys N f (zs.set xn (q : Int)) := ⟨_, rfl⟩
  have IH2 := Lib.hid (fun (q : Nat) (W' : World) (hW' : Below w.heap.size w W') (hq : q < N) => (show Calls Try.prog 112 #[plc N a c xs a' d ys (zs.set xn q), .iface t u] W' fun e w' => e = .returned (.bool (pf q)) ∧ Below W'.heap.size W' w' from by rw [hpf]; exact IH.out q W' hW' hq))
  unfold plc at IH2
  have HR7 := Lib.hid (show hol xs ys N (.un 7 xn f) zs = (alT (fun q => pf q == true) N == true) by rw [hpf]; simp only [hol, Int.toNat_natCast]; rfl)
  have HR8 := Lib.hid (show hol xs ys N (.un 8 xn f) zs = (alT (fun q => pf q == false) N == false) by rw [hpf]; simp only [hol, Int.toNat_natCast]; rfl)
  have ZL := Lib.hid H.wz.1
  have hxl : (xn : Int) < 10 := by omega
  have HW := Lib.hid hW
  unfold plc
  clear H hv ih hW hpf IH
  rcases hk with rfl | rfl
  · rw [HR7.out]
    clear HR7 HR8
    go_enter Try.func153, Try.ntmps153
    go_wp2_with fail
    rw [← HW.out]
    obtain ⟨m0, m1, m2, m3, m4, m5, m6, m7, m8, m9, m10, m11, m12⟩ := pcs_cells Q0.out.p
    obtain ⟨n0, n1, n2⟩ := cells3 Q0.out.q
    go_wp2
    clear m0 m1 m2 m3 m4 m5 m6 m7 m8 m9 m10 m11 m12 n0 n1 n2
    go_loopw [14] (fun i wr => ∃ j : Nat, j ≤ N ∧ i = .int .i64 j ∧ Hid (∃ ls : List Int, ls.length = 10 ∧ (∀ q : Int, ls.set xn q = zs.set xn q) ∧ QB w wr w.heap.size N a c xs a' d ys ls (.int .i64 7) (.int .i64 xn) (.iface t u)) ∧ Hid (alT (fun q => pf q == true) j = true)) (fun i _ => N - (intOf i).toNat)
    case atStart => exact ⟨0, Nat.zero_le _, rfl, Lib.hid ⟨zs, ZL.out, fun q => rfl, Q0.out⟩, Lib.hid rfl⟩
    case round =>
      obtain ⟨j, hj, rfl, R, P⟩ := hrel
      obtain ⟨ls, hls, hset, qb⟩ := R.out
      by_cases hlt : j < N
      · obtain ⟨hc0, hfz⟩ := pcs_at qb.p xn hxn
        obtain ⟨n0, n1, n2⟩ := cells3 qb.q
        obtain ⟨ws, hws⟩ : ∃ ws, ws = wr.setCell ⟨w.heap.size, 3 + xn, none⟩ (.int .i64 j) := ⟨_, rfl⟩
        have q2 : QB w ws w.heap.size N a c xs a' d ys (zs.set xn j) (.int .i64 7) (.int .i64 xn) (.iface t u) := by rw [hws, ← hset]; exact qb.set xn j hxn hls
        have Q2 := Lib.hid q2
        have CL := Lib.hid (IH2.out j ws q2.b hlt)
        have HWS := Lib.hid hws
        obtain ⟨r, hr⟩ : ∃ r, r = pf j := ⟨_, rfl⟩
        have HRr := Lib.hid hr
        rw [← hr] at CL
        clear hset hls hr R qb q2
        obtain ⟨m0, m1, m2, m3, m4, m5, m6, m7, m8, m9, m10, m11, m12⟩ := pcs_cells (hws ▸ Q2.out).p
        obtain ⟨n0', n1', n2'⟩ := cells3 (hws ▸ Q2.out).q
        clear hws
        go_wp2_with fail
        rw [← HWS.out]
        refine CL.out.mono ?_
        rintro e w2 ⟨rfl, hb2⟩
        have Q3 := Lib.hid (Q2.out.keep hb2)
        clear hb2
        clear m0 m1 m2 m3 m4 m5 m6 m7 m8 m9 m10 m11 m12 n0 n1 n2 n0' n1' n2' hc0 hfz
        obtain ⟨n0, n1, n2⟩ := cells3 Q3.out.q
        cases r
        all_goals
          go_wp2
          first
          | (go_ret
             exact ⟨ret_bool (by rw [alT_no hlt (by rw [← HRr.out]; rfl)]; rfl), Q3.out.b⟩)
          | (go_roundw
             case rel => exact ⟨j + 1, hlt, by go_num, Lib.hid ⟨zs.set xn j, by rw [List.length_set]; exact ZL.out, fun q => List.set_set .., Q3.out⟩, Lib.hid (alT_next P.out (by rw [← HRr.out]; rfl))⟩
             case measure => simp [intOf]; omega)
      · obtain rfl : j = N := by omega
        obtain ⟨n0, n1, n2⟩ := cells3 qb.q
        go_wp2
        go_ret
        exact ⟨ret_bool (by rw [P.out]; rfl), qb.b⟩
  · rw [HR8.out]
    clear HR7 HR8
    go_enter Try.func153, Try.ntmps153
    go_wp2_with fail
    rw [← HW.out]
    obtain ⟨m0, m1, m2, m3, m4, m5, m6, m7, m8, m9, m10, m11, m12⟩ := pcs_cells Q0.out.p
    obtain ⟨n0, n1, n2⟩ := cells3 Q0.out.q
    go_wp2
    clear m0 m1 m2 m3 m4 m5 m6 m7 m8 m9 m10 m11 m12 n0 n1 n2
    go_loopw [14] (fun i wr => ∃ j : Nat, j ≤ N ∧ i = .int .i64 j ∧ Hid (∃ ls : List Int, ls.length = 10 ∧ (∀ q : Int, ls.set xn q = zs.set xn q) ∧ QB w wr w.heap.size N a c xs a' d ys ls (.int .i64 8) (.int .i64 xn) (.iface t u)) ∧ Hid (alT (fun q => pf q == false) j = true)) (fun i _ => N - (intOf i).toNat)
    case atStart => exact ⟨0, Nat.zero_le _, rfl, Lib.hid ⟨zs, ZL.out, fun q => rfl, Q0.out⟩, Lib.hid rfl⟩
    case round =>
      obtain ⟨j, hj, rfl, R, P⟩ := hrel
      obtain ⟨ls, hls, hset, qb⟩ := R.out
      by_cases hlt : j < N
      · obtain ⟨hc0, hfz⟩ := pcs_at qb.p xn hxn
        obtain ⟨n0, n1, n2⟩ := cells3 qb.q
        obtain ⟨ws, hws⟩ : ∃ ws, ws = wr.setCell ⟨w.heap.size, 3 + xn, none⟩ (.int .i64 j) := ⟨_, rfl⟩
        have q2 : QB w ws w.heap.size N a c xs a' d ys (zs.set xn j) (.int .i64 8) (.int .i64 xn) (.iface t u) := by rw [hws, ← hset]; exact qb.set xn j hxn hls
        have Q2 := Lib.hid q2
        have CL := Lib.hid (IH2.out j ws q2.b hlt)
        have HWS := Lib.hid hws
        obtain ⟨r, hr⟩ : ∃ r, r = pf j := ⟨_, rfl⟩
        have HRr := Lib.hid hr
        rw [← hr] at CL
        clear hset hls hr R qb q2
        obtain ⟨m0, m1, m2, m3, m4, m5, m6, m7, m8, m9, m10, m11, m12⟩ := pcs_cells (hws ▸ Q2.out).p
        obtain ⟨n0', n1', n2'⟩ := cells3 (hws ▸ Q2.out).q
        clear hws
        go_wp2_with fail
        rw [← HWS.out]
        refine CL.out.mono ?_
        rintro e w2 ⟨rfl, hb2⟩
        have Q3 := Lib.hid (Q2.out.keep hb2)
        clear hb2
        clear m0 m1 m2 m3 m4 m5 m6 m7 m8 m9 m10 m11 m12 n0 n1 n2 n0' n1' n2' hc0 hfz
        obtain ⟨n0, n1, n2⟩ := cells3 Q3.out.q
        cases r
        all_goals
          go_wp2
          first
          | (go_ret
             exact ⟨ret_bool (by rw [alT_no hlt (by rw [← HRr.out]; rfl)]; rfl), Q3.out.b⟩)
          | (go_roundw
             case rel => exact ⟨j + 1, hlt, by go_num, Lib.hid ⟨zs.set xn j, by rw [List.length_set]; exact ZL.out, fun q => List.set_set .., Q3.out⟩, Lib.hid (alT_next P.out (by rw [← HRr.out]; rfl))⟩
             case measure => simp [intOf]; omega)
      · obtain rfl : j = N := by omega
        obtain ⟨n0, n1, n2⟩ := cells3 qb.q
        go_wp2
        go_ret
        exact ⟨ret_bool (by rw [P.out]; rfl), qb.b⟩

end Go.Proofs.Ytbfnagmjnaacoaa
