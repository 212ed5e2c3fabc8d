/- The program's reader of point formulas: read, readLink, readOther. Conditions: those in the theorems. -/
import Derived.Deep.RegionLaw
import Derived.Test.YtfkdefmafhlmnaaJn05
namespace Go.Proofs.Ytfkdefmafhlmnaa
open Go.RowKit

theorem cellsP_set1 (xs : List Pd) (k : Nat) (h : k < xs.length) (x : Int) : (cellsP xs).set (k * 3) (.int .i64 x) = cellsP (kdS xs k x) := by
  induction xs generalizing k with
  | nil => cases h
  | cons u xs ih =>
    cases k with
    | zero => rfl
    | succ k =>
      rw [show (k + 1) * 3 = k * 3 + 1 + 1 + 1 by omega]
      show Value.int .i64 u.1 :: Value.int .i64 u.2.1 :: Value.int .i64 u.2.2 :: (cellsP xs).set (k * 3) _ = _
      rw [ih k (by simpa using h)]
      rfl

theorem ixB_bd (l : List UInt8) (c : Nat) : -1 ≤ ixB l c ∧ ixB l c ≤ l.length := by
  unfold ixB
  induction l with
  | nil => simp [Lib.indexByte]
  | cons x l ih =>
    rw [Lib.indexByte]
    simp only [List.length_cons]
    repeat' split
    all_goals omega
theorem belowDrewP {C : Nat} {w w' : World} (h : Below C w w') : Below C w w'.drew := ⟨h.os, h.tape, h.output, h.size, h.block⟩

set_option maxHeartbeats 2000000 in
theorem prOther_any (c : Nat) (hc : c < 256) (w : World) (b : Nat) (s : List UInt8) (v : Value) (ls : List Pd) (hs : s.length ≤ 1048576) (hl : ls.length ≤ 300) (h : Rd w b s v ls) :
    Calls Try.prog 78 #[.pointer (some ⟨b, 0, none⟩), .int .u8 c] w fun e w' => ∃ v', e = .returned (.tuple #[]) ∧ (if 0 ≤ ixB vaB c then Rd w' b s.tail v' (ls ++ [(2, ixB vaB c, ptN s)]) else Rd w' b s.tail.tail v' (ls ++ [(1, (c : Int) - 48, ptN s.tail)])) ∧ Below b w w' := by
  have H := Lib.hid h
  have ht : s.tail.length ≤ 1048576 := by simp; omega
  obtain ⟨i, hi⟩ : ∃ i, i = ixB vaB c := ⟨_, rfl⟩
  have CALL := Lib.hid (fun W => indexByte_any vaB c W)
  rw [← hi] at CALL
  rw [← hi]
  clear hi h
  by_cases h0 : 0 ≤ i
  · simp only [if_pos h0]
    go_enter Try.func78, Try.ntmps78
    go_wp2_with fail
    refine (CALL.out _).mono ?_
    rintro e w1 ⟨rfl, rfl⟩
    go_wp2_with fail
    refine (prPoint_any _ b s v ls hs H.out).mono ?_
    obtain ⟨p, hp⟩ : ∃ p, p = ptN s := ⟨_, rfl⟩
    rw [← hp]
    have HP := Lib.hid hp
    clear hp
    rintro e w2 ⟨rfl, hr, hb⟩
    have R2 := Lib.hid hr
    have B2 := Lib.hid hb
    clear hr hb
    go_wp2_with fail
    refine (prAdd_any 2 i p _ b s.tail v ls (by omega) R2.out).mono ?_
    rintro e w3 ⟨v', rfl, hr, hb⟩
    have R3 := Lib.hid hr
    have B3 := Lib.hid (B2.out.trans hb)
    clear hr hb
    go_wp2
    (try simp only [Exit.inBlock, Exit.then])
    refine bodyPost_ret (results_none rfl _ _ _) rfl ?_
    exact ⟨_, rfl, by rw [← HP.out]; exact R3.out, B3.out⟩
  · simp only [if_neg h0]
    go_enter Try.func78, Try.ntmps78
    go_wp2_with fail
    refine (CALL.out _).mono ?_
    rintro e w1 ⟨rfl, rfl⟩
    go_wp2_with fail
    refine (prNext_any _ b s v ls hs H.out).mono ?_
    obtain ⟨q, hq⟩ : ∃ q, q = hdN s := ⟨_, rfl⟩
    rw [← hq]
    clear hq
    rintro e w2 ⟨rfl, hr, hb⟩
    have R2 := Lib.hid hr
    have B2 := Lib.hid hb
    clear hr hb
    go_wp2_with fail
    refine (prPoint_any _ b s.tail v ls ht R2.out).mono ?_
    obtain ⟨p, hp⟩ : ∃ p, p = ptN s.tail := ⟨_, rfl⟩
    rw [← hp]
    have HP := Lib.hid hp
    clear hp
    rintro e w3 ⟨rfl, hr, hb⟩
    have R3 := Lib.hid hr
    have B3 := Lib.hid (B2.out.trans hb)
    clear hr hb
    go_wp2_with fail
    refine (prAdd_any 1 ((c : Int) - 48) p _ b s.tail.tail v ls (by omega) R3.out).mono ?_
    rintro e w4 ⟨v', rfl, hr, hb⟩
    have R4 := Lib.hid hr
    have B4 := Lib.hid (B3.out.trans hb)
    clear hr hb
    go_wp2
    go_end0
    exact ⟨_, rfl, by rw [← HP.out]; exact R4.out, B4.out⟩

theorem Rd.putK {w : World} {b g c : Nat} {s : List UInt8} {l1 : List Pd} (h : Rd w b s (.slice (some ⟨g, 0, none⟩) l1.length c) l1) (hg : b + 1 ≤ g) (m : Nat) (hm : m < l1.length) (k : Int) :
    Rd (w.setCell ⟨g, m * 3, none⟩ (.int .i64 k)) b s (.slice (some ⟨g, 0, none⟩) l1.length c) (kdS l1 m k) ∧ Below b w (w.setCell ⟨g, m * 3, none⟩ (.int .i64 k)) := by
  obtain ⟨h2, h3, h4, h5, h6, h7⟩ := h
  have hs := (h7.stored (m * 3) (.int .i64 k)).1
  rw [cellsP_set1 l1 m hm k] at hs
  refine ⟨⟨by simpa [World.setCell] using h2, ?_, ?_, by rw [World.frozen?_setCell]; exact h5, by rw [World.frozen?_setCell]; exact h6, ?_⟩, (Below.refl b w).setCell (p := ⟨g, m * 3, none⟩) (by show b ≤ g; omega) _⟩
  · rw [World.cell?_setCell_other _ _ _ _ (fun e => by injection e with e; omega)]; exact h3
  · rw [World.cell?_setCell_other _ _ _ _ (fun e => by injection e with e; omega)]; exact h4
  · unfold OwnP
    rw [kdS_len]
    exact hs

/-- What read keeps to, with so much room. -/
def RdC (n : Nat) : Prop := ∀ (w : World) (b : Nat) (s : List UInt8) (v : Value) (ls : List Pd), 122 ≤ n + ls.length → s.length ≤ 1048576 → ls.length ≤ 300 → Rd w b s v ls →
  Calls Try.prog 39 #[.pointer (some ⟨b, 0, none⟩)] w fun e w' => ∃ v', e = .returned (.tuple #[]) ∧ Rd w' b (rd n s ls).1 v' (rd n s ls).2 ∧ Below b w w'

set_option maxHeartbeats 4000000 in
theorem prLink_of {n : Nat} (hn : n ≤ 122) (IH : RdC n) (w : World) (b : Nat) (s : List UInt8) (v : Value) (ls : List Pd) (hr : 122 ≤ n + (ls.length + 1)) (hs : s.length ≤ 1048576) (hl : ls.length ≤ 120) (h : Rd w b s v ls) :
    Calls Try.prog 77 #[.pointer (some ⟨b, 0, none⟩)] w fun e w' => ∃ v', e = .returned (.tuple #[]) ∧
      Rd w' b (rd n (rd n s (ls ++ [(0, 0, 0)])).1.tail (kdS (rd n s (ls ++ [(0, 0, 0)])).2 ls.length (4 + ixB lkL (hdN (rd n s (ls ++ [(0, 0, 0)])).1)))).1.tail v'
        (rd n (rd n s (ls ++ [(0, 0, 0)])).1.tail (kdS (rd n s (ls ++ [(0, 0, 0)])).2 ls.length (4 + ixB lkL (hdN (rd n s (ls ++ [(0, 0, 0)])).1)))).2 ∧ Below b w w' := by
  have g1 := rd_ge n s (ls ++ [(0, 0, 0)])
  have g2 := rd_le n s (ls ++ [(0, 0, 0)])
  have g3 := rd_len n s (ls ++ [(0, 0, 0)])
  rw [List.length_append] at g1 g2
  simp only [List.length_cons, List.length_nil] at g1 g2
  have I1 := Lib.hid (fun W v' (h : Rd W b s v' (ls ++ [(0, 0, 0)])) => IH W b s v' (ls ++ [(0, 0, 0)]) (by simp; omega) hs (by simp; omega) h)
  obtain ⟨s1, hs1⟩ : ∃ s1, s1 = (rd n s (ls ++ [(0, 0, 0)])).1 := ⟨_, rfl⟩
  obtain ⟨l1, hl1⟩ : ∃ l1, l1 = (rd n s (ls ++ [(0, 0, 0)])).2 := ⟨_, rfl⟩
  rw [← hs1, ← hl1] at I1
  rw [← hs1, ← hl1]
  rw [← hl1] at g1 g2
  rw [← hs1] at g3
  clear hs1 hl1
  obtain ⟨m, hm⟩ : ∃ m, m = ls.length := ⟨_, rfl⟩
  rw [← hm] at g1 g2 hl hr ⊢
  have hml : m < l1.length := by omega
  have hl1b : l1.length ≤ 243 := by omega
  obtain ⟨k, hk⟩ : ∃ k, k = 4 + ixB lkL (hdN s1) := ⟨_, rfl⟩
  rw [← hk]
  have g4 := rd_len n s1.tail (kdS l1 m k)
  have I2 := Lib.hid (fun W v' (h : Rd W b s1.tail v' (kdS l1 m k)) => IH W b s1.tail v' (kdS l1 m k) (by rw [kdS_len]; omega) (by simp; omega) (by rw [kdS_len]; omega) h)
  obtain ⟨s2, hs2⟩ : ∃ s2, s2 = (rd n s1.tail (kdS l1 m k)).1 := ⟨_, rfl⟩
  obtain ⟨l2, hl2⟩ : ∃ l2, l2 = (rd n s1.tail (kdS l1 m k)).2 := ⟨_, rfl⟩
  rw [← hs2, ← hl2] at I2
  rw [← hs2, ← hl2]
  rw [← hs2] at g4
  clear hs2 hl2
  have hs2l : s2.length ≤ 1048576 := by simp at g4; omega
  have hs1l : s1.length ≤ 1048576 := by omega
  have CI := Lib.hid (fun W => show Calls Try.prog 76 #[.string ⟨#[38, 124, 62]⟩, .int .u8 (hdN s1)] W fun e w' => e = .returned (.int .i64 (ixB lkL (hdN s1))) ∧ w' = W from indexByte_any lkL (hdN s1) W)
  have HK := Lib.hid hk
  have H := Lib.hid h
  have HM := Lib.hid hm
  obtain ⟨a0, c0, hv, -⟩ := h.2.2.2.2.2.at
  rw [← hm] at hv
  have c1 := h.2.2.1
  rw [hv] at c1
  clear hk h hm hv g4 IH
  go_enter Try.func77, Try.ntmps77
  go_wp2_with fail
  clear c1
  refine (prAdd_any 0 0 0 _ b s v ls (by have := HM.out; omega) H.out).mono ?_
  rintro e w1 ⟨v1, rfl, hr1, hb1⟩
  have R1 := Lib.hid hr1
  have B1 := Lib.hid hb1
  clear hr1 hb1
  go_wp2_with fail
  refine (I1.out _ v1 R1.out).mono ?_
  rintro e w2 ⟨v2, rfl, hr2, hb2⟩
  have R2 := Lib.hid hr2
  have B2 := Lib.hid (B1.out.trans hb2)
  have NX := Lib.hid (fun W (h : Rd W b s1 v2 l1) => prNext_any W b s1 v2 l1 hs1l h)
  obtain ⟨-, -, c1, -, -, hO⟩ := hr2
  obtain ⟨g, cap, hv2, hgb, hmm⟩ : ∃ g cap, v2 = .slice (some ⟨g, 0, none⟩) l1.length cap ∧ b + 1 ≤ g ∧ l1.length ≤ cap := by
    rcases hO.2 with ⟨-, hn0⟩ | ⟨g, cap, cur, hv, hg, -, hc, -⟩
    · omega
    · exact ⟨g, cap, hv, hg, hc⟩
  subst hv2
  clear hb2 hO
  have X2 := Lib.hid (show Rd w2.drew b s1 (.slice (some ⟨g, 0, none⟩) l1.length cap) l1 from R2.out.keep (belowDrewP (Below.refl _ _)))
  have TB := Lib.hid (belowDrewP B2.out)
  have c1d : w2.drew.cell? ⟨b, 1, none⟩ = some (.slice (some ⟨g, 0, none⟩) l1.length cap) := X2.out.2.2.1
  have KC : ∀ W, Rd W b s1 (.slice (some ⟨g, 0, none⟩) l1.length cap) l1 → True := fun _ _ => trivial
  clear KC
  have KR := Lib.hid (fun W (s' : List UInt8) (h : Rd W b s' (.slice (some ⟨g, 0, none⟩) l1.length cap) l1) => show (∃ u, W.cell? ⟨g, m * 3, none⟩ = some u) ∧ W.frozen? ⟨g, m * 3, none⟩ = false from ⟨⟨_, (h.2.2.2.2.2.cellAt (m * 3) (by omega)).trans (cellsP_at l1 m hml).1⟩, h.2.2.2.2.2.frozenAt (m * 3)⟩)
  obtain ⟨⟨u2, kc⟩, kf⟩ := KR.out _ _ X2.out
  have kb := (ixB_bd lkL (hdN s1)).1
  have kt := (ixB_bd lkL (hdN s1)).2
  have kl : lkL.length = 3 := rfl
  obtain ⟨ix, hix⟩ : ∃ ix, ix = ixB lkL (hdN s1) := ⟨_, rfl⟩
  rw [← hix] at kb kt CI HK
  have HI := Lib.hid hix
  clear hix
  have kt3 : ix ≤ 3 := by rw [kl] at kt; exact kt
  clear kt kl
  obtain ⟨hd, hhd⟩ : ∃ hd, hd = hdN s1 := ⟨_, rfl⟩
  rw [← hhd] at CI
  have NX := Lib.hid (fun W (h : Rd W b s1 (.slice (some ⟨g, 0, none⟩) l1.length cap) l1) => show Calls Try.prog 73 #[.pointer (some ⟨b, 0, none⟩)] W fun e w' => e = .returned (.int .u8 hd) ∧ Rd w' b s1.tail (.slice (some ⟨g, 0, none⟩) l1.length cap) l1 ∧ Below b W w' from by rw [hhd]; exact NX.out W h)
  clear hhd
  go_wp2
  go_region_law (first | (go_simp; go_at_call 73; (with_reducible refine (NX.out _ X2.out).mono ?_); rintro e w3 ⟨rfl, hr3, hb3⟩; have R3 := Lib.hid hr3; have T3 := Lib.hid (TB.out.trans hb3); (have c1e : w3.cell? ⟨b, 1, none⟩ = some (.slice (some ⟨g, 0, none⟩) l1.length cap) := hr3.2.2.1); obtain ⟨⟨u3, kc3⟩, kf3⟩ := KR.out _ _ hr3; clear hr3 hb3) | (go_simp; go_at_call 76; (with_reducible refine (CI.out _).mono ?_); rintro e w4 ⟨rfl, rfl⟩))
  all_goals
    have hw : IntKind.i64.wrap (4 + ix) = 4 + ix := by rw [IntKind.wrap_i64]; omega
    rw [hw, ← HK.out]
    obtain ⟨q1, q2⟩ := R3.out.putK hgb m hml k
    have R5 := Lib.hid q1
    have T5 := Lib.hid (T3.out.trans q2)
    clear q1 q2
    go_wp2_with fail
    refine (I2.out _ _ R5.out).mono ?_
    rintro e w6 ⟨v6, rfl, hr6, hb6⟩
    have R6 := Lib.hid hr6
    have T6 := Lib.hid (T5.out.trans hb6)
    clear hr6 hb6
    go_wp2_with fail
    refine (prNext_any _ b s2 v6 l2 hs2l R6.out).mono ?_
    obtain ⟨q, hq⟩ : ∃ q, q = hdN s2 := ⟨_, rfl⟩
    rw [← hq]
    clear hq
    rintro e w7 ⟨rfl, hr7, hb7⟩
    have R7 := Lib.hid hr7
    have T7 := Lib.hid (T6.out.trans hb7)
    clear hr7 hb7
    go_wp2
    go_end0
    exact ⟨_, rfl, R7.out, T7.out⟩

end Go.Proofs.Ytfkdefmafhlmnaa
