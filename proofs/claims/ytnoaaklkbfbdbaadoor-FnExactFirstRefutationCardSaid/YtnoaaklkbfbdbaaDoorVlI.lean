/- The program's models of a frame, one after another: what the iterator of modelsOn promises. Conditions: those in the theorems. -/
import Derived.Shelf.Abstract
import Derived.Shelf.RegionOpen
import Derived.WalkKit
import Derived.OwnWalkIn
import Derived.TacticsInMore
import Derived.LoopNIn
import Derived.LoopIn
import Derived.Test.YtnoaaklkbfbdbaaDoorJn11
import Derived.Test.YtnoaaklkbfbdbaaDoorRgL
import Derived.Test.YtnoaaklkbfbdbaaDoorJn08
namespace Go.Proofs.YtnoaaklkbfbdbaaDoor
open Go.RowKit Go.Shelf

theorem But.mono {D D' : Nat → Prop} {a b : World} (h : But D a b) (hd : ∀ k, D k → D' k) : But D' a b := ⟨h.os, h.tape, h.output, h.size, fun k hk q => h.block k hk (fun x => q (hd k x))⟩
theorem But.then {D : Nat → Prop} {C : Nat} {a b c : World} (h : But D a b) (hb : Below C b c) (hC : a.heap.size ≤ C) : But D a c :=
  ⟨hb.os.trans h.os, hb.tape.trans h.tape, hb.output.trans h.output, Nat.le_trans h.size hb.size, fun k hk q => (hb.block k (by omega)).trans (h.block k hk q)⟩
theorem But.cell {D : Nat → Prop} {a b : World} (h : But D a b) {p : Addr} {v : Value} (hc : a.cell? p = some v) (hd : ¬ D p.block) : b.cell? p = some v :=
  (World.cell?_of_block (h.block p.block (World.block_lt_of_cell? _ _ hc) hd)).trans hc
theorem But.at {D : Nat → Prop} {a b : World} (h : But D a b) {x : Option Addr} {len : Nat} {xs : List Int} (hx : At a x len xs) (hd : 0 < len → ∀ p, x = some p → ¬ D p.block) : At b x len xs := by
  refine ⟨hx.1, ?_⟩
  by_cases h0 : len = 0
  · exact .inl h0
  · obtain ⟨c, o, rfl, hb, hc⟩ := hx.2.resolve_left h0
    exact .inr ⟨c, o, rfl, Nat.lt_of_lt_of_le hb h.size, fun j hj => h.cell (p := ⟨c, o + j, none⟩) (hc j hj) (hd (by omega) ⟨c, o, none⟩ rfl)⟩
theorem But.bx {D : Nat → Prop} {a b : World} (h : But D a b) {r : Nat} {n : Int} {x : Option Addr} {l c : Nat} (hx : Bx a r n x l c) (hd : ¬ D r) : Bx b r n x l c :=
  ⟨Nat.lt_of_lt_of_le hx.1 h.size, h.cell (p := ⟨r, 0, none⟩) hx.2.1 hd, h.cell (p := ⟨r, 1, none⟩) hx.2.2 hd⟩

/-- What the closure of modelsOn has captured. -/
structure It (w : World) (bc bf bv : Nat) (n : Nat) (a : Option Addr) (len cap : Nat) (av : Option Addr) (cv : Nat) (vs : List Int) : Prop where
  c : w.cell? ⟨bc, 0, none⟩ = some (.int .i64 vs.length)
  f : Bx w bf n a len cap
  v : w.cell? ⟨bv, 0, none⟩ = some (.slice av vs.length cv)
  a : At w av vs.length vs
theorem It.but {D : Nat → Prop} {w w' : World} {bc bf bv n : Nat} {a : Option Addr} {len cap : Nat} {av : Option Addr} {cv : Nat} {vs : List Int} (h : It w bc bf bv n a len cap av cv vs) (hb : But D w w') (h1 : ¬ D bc) (h2 : ¬ D bf) (h3 : ¬ D bv) (h4 : 0 < vs.length → ∀ p, av = some p → ¬ D p.block) : It w' bc bf bv n a len cap av cv vs :=
  ⟨hb.cell (p := ⟨bc, 0, none⟩) h.c h1, hb.bx h.f h2, hb.cell (p := ⟨bv, 0, none⟩) h.v h3, hb.at h.a h4⟩
theorem It.keep {w w' : World} {bc bf bv n : Nat} {a : Option Addr} {len cap : Nat} {av : Option Addr} {cv : Nat} {vs : List Int} (h : It w bc bf bv n a len cap av cv vs) (hb : Below w.heap.size w w') : It w' bc bf bv n a len cap av cv vs :=
  h.but (D := fun _ => False) (But.below hb) (fun q => q) (fun q => q) (fun q => q) (fun _ _ _ q => q)

/-- The model with the number k: a frame, and values in new memory. -/
def FxM (C n : Nat) (a : Option Addr) (len cap : Nat) (vs : List Int) (k : Nat) (x : Value) (W : World) : Prop :=
  ∃ b, x = .agg #[.int .i64 n, .slice a len cap, .slice (some ⟨b, 0, none⟩) 6 6] ∧ At W (some ⟨b, 0, none⟩) 6 (vlL n vs k) ∧ C ≤ b ∧ Own W C (.slice (some ⟨b, 0, none⟩) 6 6) (vlL n vs k)

theorem pw_16 {m : Nat} (h : m ≤ 16) : wrap64 (2 ^ m) = ((2 ^ m : Nat) : Int) := by
  have : m = 0 ∨ m = 1 ∨ m = 2 ∨ m = 3 ∨ m = 4 ∨ m = 5 ∨ m = 6 ∨ m = 7 ∨ m = 8 ∨ m = 9 ∨ m = 10 ∨ m = 11 ∨ m = 12 ∨ m = 13 ∨ m = 14 ∨ m = 15 ∨ m = 16 := by omega
  rcases this with rfl | rfl | rfl | rfl | rfl | rfl | rfl | rfl | rfl | rfl | rfl | rfl | rfl | rfl | rfl | rfl | rfl <;> decide +kernel

theorem rowIs_below' {w w' : World} {b n C : Nat} {t : TypeId} {f : Nat → Value} (h : w.rowIs b t n f) (hb : Below C w w') (hC : b < C) : w'.rowIs b t n f := by
  obtain ⟨c, hh, hs, hc⟩ := h
  exact ⟨c, (hb.block b hC).trans hh, hs, hc⟩

theorem at_setO {w : World} {a : Option Addr} {len g o : Nat} {xs : List Int} {v : Value} (h : At w a len xs) (hne : ∀ p, a = some p → p.block ≠ g) : At (w.setCell ⟨g, o, none⟩ v) a len xs :=
  (But.set (D := fun b => b = g) (a := w) (o := o) (v := v) rfl).at h fun _ p hp => hne p hp

attribute [local go_sem] Oper.semAt_some

set_option maxHeartbeats 4000000 in
set_option maxRecDepth 100000 in
theorem modelsOn_seq (D : Nat → Prop) (bc bf bv n : Nat) (a : Option Addr) (len cap : Nat) (av : Option Addr) (cv : Nat) (vs : List Int) (w : World) (m : Nat) (hm : 1 ≤ m) (hv : Vs vs) (hn : n ≤ 8) (hN : n * vs.length ≤ 16)
    (h : It w bc bf bv n a len cap av cv vs) (h1 : ¬ D bc) (h2 : ¬ D bf) (h3 : ¬ D bv) (h4 : 0 < vs.length → ∀ p, av = some p → ¬ D p.block) :
    SeqX Fence.wide m Tryd.prog 43 #[.pointer (some ⟨bc, 0, none⟩), .pointer (some ⟨bf, 0, none⟩), .pointer (some ⟨bv, 0, none⟩)] D (FxM w.heap.size n a len cap vs) (2 ^ (n * vs.length)) w := by
  intro l J Jx W hW hl hJ hJx hY hJ0
  have IT := Lib.hid (h.keep hW)
  have HWS := Lib.hid hW.size
  have hbc := World.block_lt_of_cell? _ _ h.c
  have hbf := h.f.1
  have hbv := World.block_lt_of_cell? _ _ h.v
  have HL4 := Lib.hid (show 0 < vs.length → ∀ p, av = some p → ¬ (D p.block ∨ p.block = l) from fun h0 p hp q => by
    rcases q with q | q
    · exact h4 h0 p hp q
    · subst hp
      obtain ⟨c, o, e, hb, -⟩ := h.a.2.resolve_left (by omega)
      cases e
      simp at q
      omega)
  have H1 := Lib.hid (show ¬ (D bc ∨ bc = l) from fun q => q.elim h1 (by simp at hbc; omega))
  have H2 := Lib.hid (show ¬ (D bf ∨ bf = l) from fun q => q.elim h2 (by omega))
  have H3 := Lib.hid (show ¬ (D bv ∨ bv = l) from fun q => q.elim h3 (by simp at hbv; omega))
  have HJ := Lib.hid hJ
  have HY := Lib.hid hY
  have V := Lib.hid hv
  have v6 := hv.l6
  have HNN := Lib.hid hN
  obtain ⟨c, hc⟩ : ∃ c, c = vs.length := ⟨_, rfl⟩
  have NM := Lib.hid (fun (k : Nat) (hk : k < 65536) w' => numberedMasks_any c n k w' (by omega) hn hk)
  obtain ⟨M, hM⟩ : ∃ M, M = n * c := ⟨_, rfl⟩
  have hMM : (c : Int) * (n : Int) = (M : Int) := by rw [hM]; simp [Int.mul_comm]
  have hM16 : M ≤ 16 := by rw [hM, hc]; exact hN
  have hPW := pw_16 hM16
  obtain ⟨N, hNe⟩ : ∃ N, N = 2 ^ M := ⟨_, rfl⟩
  have hN6 : N ≤ 65536 := by rw [hNe, show 65536 = 2 ^ 16 from rfl]; exact Nat.pow_le_pow_right (by decide) hM16
  rw [← hNe] at hPW
  rw [← hc, ← hM, ← hNe] at HY ⊢
  have hmk : ∀ W : World, (Instr.makeSlice 22 (.int .i64 6) (.int .i64 6)).run Tryd.prog W = .ok (.slice (some ⟨W.heap.size, 0, none⟩) 6 6) (W.alloc (.cells (madeCells #[.int .i64 0] 6) 2)) := fun (W : World) => run_make_row' (P := Tryd.prog) 22 2 (.int .i64 0) 8 Tryd.underlying22 info64 rfl .i64 .i64 6 (by omega) (by omega) W
  obtain ⟨i1, i2, i3, i4⟩ := IT.out
  rw [← hc] at i1 i3
  obtain ⟨f1, f2, f3⟩ := i2
  have CC := Lib.hid hc
  have c6 : c ≤ 6 := by omega
  clear hJ hY hJx hv hN h hbc hbf hbv hl h1 h2 h3 h4 hc hM hNe i4
  refine callsIn_of_wp Tryd.func43 rfl trivial ?_ rfl
  simp only [Tryd.ntmps43, List.size_toArray, List.length_cons, List.length_nil, Nat.reduceAdd, Nat.reduceSub, Array.replicate_succ, Array.replicate_zero, List.push_toArray, List.append_toArray, List.nil_append, List.cons_append]
  gi_wp2
  rw [hPW]
  clear i1 i3 f1 f2 f3 hPW
  gi_loopw [14] (fun i wr => ∃ k : Nat, k ≤ N ∧ i = .int .i64 k ∧ Hid (J k wr) ∧ Hid (But (fun b => D b ∨ b = l) W wr)) (fun i _ => N - (intOf i).toNat)
  case atStart => exact ⟨0, Nat.zero_le _, rfl, Lib.hid hJ0, Lib.hid (But.refl _ _)⟩
  case round =>
    obtain ⟨k, hk, rfl, J0, B0⟩ := hrel
    obtain ⟨wk, rfl⟩ : ∃ x, x = wr := ⟨_, rfl⟩
    by_cases hlt : k < N
    · have ITk := Lib.hid (IT.out.but B0.out H1.out H2.out H3.out HL4.out)
      obtain ⟨i1, i2, i3, i4⟩ := ITk.out
      rw [← CC.out] at i1 i3
      obtain ⟨f1, f2, f3⟩ := i2
      have R0 := Lib.hid (World.rowIs_made wk (.int .i64 0) 6 2)
      have BV := Lib.hid (show Below wk.heap.size wk (wk.alloc (.cells (madeCells #[.int .i64 0] 6) 2)) from (alloc_keep _ _).1)
      have g1 := (BV.out.cell (p := ⟨bc, 0, none⟩) (World.block_lt_of_cell? _ _ i1)).trans i1
      have g2 := (BV.out.cell (p := ⟨bf, 0, none⟩) f1).trans f2
      clear i1 i3 i4 f1 f2 f3
      have hlti : (k : Int) < (N : Int) := by omega
      gi_wp2_with (refine ⟨trivial, ?_⟩; gi_at_call 44; refine (callsIn_wide.2 (NM.out k (by omega) _)).mono ?_; rintro e w2 ⟨v2, rfl, ho, hb⟩; obtain ⟨a2, k2, e2, hat2, -, -, hbk⟩ := ho.at; rw [tab_len] at e2 hat2; subst e2; have A2 := Lib.hid hat2; have BK := Lib.hid (show ∀ p, a2 = some p → p.block ≠ wk.heap.size from fun p hp => by have := (hbk p hp).1; simp at this; omega); have B2 := Lib.hid hb; clear ho hb hat2)
      have hsw : wk.heap.size + 1 ≤ w2.heap.size := by have := B2.out.size; simpa using this
      have R2 := Lib.hid (rowIs_below' R0.out B2.out (by simp))
      have T2 := Lib.hid (BV.out.trans (B2.out.mono (by simp)))
      clear g1 g2
      gi_loopw [24] (fun i wr => ∃ j : Nat, j ≤ c ∧ i = .int .i64 j ∧ Hid (wr.rowIs wk.heap.size 2 6 (fun t => .int .i64 (upF (mkF n c k) vs j t))) ∧ Hid (Below wk.heap.size wk wr) ∧ Hid (At wr a2 c (tab c (mkF n c k)))) (fun i _ => c - (intOf i).toNat)
      case atStart => exact ⟨0, Nat.zero_le _, rfl, R2, T2, A2⟩
      case round =>
        obtain ⟨j, hj, rfl, R, T, A⟩ := hrel
        by_cases hjt : j < c
        · have ITj := Lib.hid (ITk.out.keep T.out)
          obtain ⟨-, -, i3, i4⟩ := ITj.out
          obtain ⟨b3, o3, rfl, hb3, hc3⟩ := A.out.2.resolve_left (by omega)
          have g3 := hc3 j hjt
          rw [tab_nth _ _ _ hjt] at g3
          obtain ⟨q, hq, hq6⟩ := V.out.lt j (by rw [← CC.out]; exact hjt)
          obtain ⟨b4, o4, rfl, hb4, hc4⟩ := i4.2.resolve_left (by rw [← CC.out]; omega)
          have g4 := hc4 j (by rw [← CC.out]; exact hjt)
          rw [hq] at g4
          rw [← CC.out] at i3
          have hjc : (j : Int) < (c : Int) := by omega
          have hqi : (q : Int) < 6 := by omega
          have hcg : wr.cell? ⟨wk.heap.size, q, none⟩ = some (.int .i64 (upF (mkF n c k) vs j q)) := R.out.cell hq6
          have hfg : wr.frozen? ⟨wk.heap.size, q, none⟩ = false := R.out.frozen q
          have HQ := Lib.hid hq
          clear hc3 hc4 hq i4
          gi_wp2
          exact ⟨⟨j + 1, hjt, by go_num, Lib.hid (row_setI R.out (fun t => up_set HQ.out rfl t)), Lib.hid (T.out.setCell (p := ⟨wk.heap.size, q, none⟩) (Nat.le_refl _) _), Lib.hid (at_setO A.out BK.out)⟩, by simp [intOf]; omega⟩
        · obtain rfl : j = c := by omega
          have ITj := Lib.hid (ITk.out.keep T.out)
          obtain ⟨-, i2, -, -⟩ := ITj.out
          obtain ⟨f1, f2, f3⟩ := i2
          have OW := Lib.hid (own_of_row (F := upF (mkF n j k) vs j) (B := wk.heap.size) (Nat.le_refl _) (by omega) R.out)
          have FX := Lib.hid (show FxM w.heap.size n a len cap vs k (.agg #[.int .i64 n, .slice a len cap, .slice (some ⟨wk.heap.size, 0, none⟩) 6 6]) wr from ⟨wk.heap.size, rfl, by
            obtain ⟨a5, k5, e5, hat5, -⟩ := (show Own wr wk.heap.size _ (tab 6 (upF (mkF n j k) vs j)) from OW.out).at
            rw [tab_len] at e5 hat5
            cases e5
            have hCk : w.heap.size ≤ wk.heap.size := Nat.le_trans HWS.out B0.out.size
            rw [vlL, ← CC.out]
            exact ⟨hat5, hCk, (show Own wr wk.heap.size _ (tab 6 (upF (mkF n j k) vs j)) from OW.out).mono hCk⟩⟩)
          obtain ⟨fn, tmps, assign, body, hy, hR⟩ := HY.out k _ wr (HJ.out k wk wr J0.out T.out) hlt FX.out
          have B1 := Lib.hid (B0.out.trans (But.below T.out))
          clear R A OW FX
          gi_wp2
          refine hR.mono ?_
          rintro e W3 (⟨rfl, hJ3, hk3⟩ | ⟨rfl, hJx3⟩)
          · have J3 := Lib.hid hJ3
            have B3 := Lib.hid (B1.out.trans hk3)
            clear hR hJ3 hk3 hy
            gi_wp2
            go_roundw
            case rel => exact ⟨k + 1, hlt, by go_num, J3, B3⟩
            case measure => simp [intOf]; omega
          · have JX := Lib.hid hJx3
            clear hR hJx3 hy
            gi_wp2
            refine bodyPost_ret (results_none rfl _ _ _) rfl ?_
            exact ⟨⟨_, rfl⟩, .inr ⟨k, hlt, JX.out⟩⟩
    · obtain rfl : k = N := by omega
      gi_wp2
      go_end0
      exact ⟨⟨_, rfl⟩, .inl J0.out⟩

end Go.Proofs.YtnoaaklkbfbdbaaDoor
