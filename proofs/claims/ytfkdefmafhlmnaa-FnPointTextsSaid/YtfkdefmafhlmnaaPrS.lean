/- The program's reader of point formulas: read, at every text. Conditions: those in the theorems. -/
import Derived.Test.YtfkdefmafhlmnaaPrR
namespace Go.Proofs.Ytfkdefmafhlmnaa
open Go.RowKit

theorem rd_full {n : Nat} {s : List UInt8} {ls : List Pd} (h : 120 < ls.length) : rd n s ls = (s, ls) := by
  cases n with
  | zero => rfl
  | succ n => rw [rd, if_pos h]

set_option maxHeartbeats 2000000 in
theorem prRead_big (n : Nat) (w : World) (b : Nat) (s : List UInt8) (v : Value) (ls : List Pd) (hl : ls.length ≤ 300) (h : Rd w b s v ls) (hbig : 120 < ls.length) :
    Calls Try.prog 39 #[.pointer (some ⟨b, 0, none⟩)] w fun e w' => ∃ v', e = .returned (.tuple #[]) ∧ Rd w' b (rd n s ls).1 v' (rd n s ls).2 ∧ Below b w w' := by
  have H := Lib.hid h
  have h2 := h.1
  obtain ⟨a0, c0, hv, -⟩ := h.2.2.2.2.2.at
  have c1 := h.2.2.1
  rw [hv] at c1
  clear h hv
  rw [rd_full hbig]
  go_enter Try.func39, Try.ntmps39
  go_wp2
  (try simp only [Exit.inBlock, Exit.then])
  refine bodyPost_ret (results_none rfl _ _ _) rfl ?_
  exact ⟨_, rfl, H.out, Below.refl _ _⟩

set_option maxHeartbeats 8000000 in
theorem prRead_step {n : Nat} (hn : n + 1 ≤ 122) (IH : RdC n) : RdC (n + 1) := by
  intro w b s v ls hr hs hl h
  have H := Lib.hid h
  have h2 := h.1
  obtain ⟨a0, c0, hv, -⟩ := h.2.2.2.2.2.at
  have c1 := h.2.2.1
  rw [hv] at c1
  clear h hv
  by_cases hbig : 120 < ls.length
  · exact prRead_big (n + 1) w b s v ls hl H.out hbig
  have hsm : ls.length ≤ 120 := by omega
  have hc := hdN_lt s
  have ht1 : s.tail.length ≤ 1048576 := by simp; omega
  have ht2 : s.tail.tail.length ≤ 1048576 := by simp; omega
  obtain ⟨s1, hs1⟩ : ∃ s1, s1 = s.tail := ⟨_, rfl⟩
  have NX := Lib.hid (fun W (h : Rd W b s v ls) => prNext_any W b s v ls hs h)
  have RE := Lib.hid (show rd (n + 1) s ls = _ from by rw [rd, if_neg hbig])
  obtain ⟨c, hcc⟩ : ∃ c, c = hdN s := ⟨_, rfl⟩
  rw [← hcc] at NX RE hc
  rw [← hs1] at NX RE ht1 ht2
  clear hs1 hcc
  go_enter Try.func39, Try.ntmps39
  go_wp2_with fail
  refine (NX.out _ H.out).mono ?_
  rintro e w1 ⟨rfl, hr1, hb1⟩
  have R1 := Lib.hid hr1
  have B1 := Lib.hid hb1
  clear hr1 hb1 c1
  by_cases e1 : c = 82
  · have ec : (c : Int) = 82 := by omega
    have RF := Lib.hid (show rd (n + 1) s ls = (s1.tail.tail, ls ++ [(0, ptN s1, ptN s1.tail)]) by rw [RE.out]; simp only [if_pos e1])
    rw [ec]
    clear RE
    have ht2 := ht2
    obtain ⟨p1, hp1⟩ : ∃ p, p = ptN s1 := ⟨_, rfl⟩
    rw [← hp1] at RF
    go_wp2_with fail
    refine (prPoint_any _ b s1 v ls ht1 R1.out).mono ?_
    rw [← hp1]
    clear hp1
    rintro e w2 ⟨rfl, hr, hb⟩
    have R2 := Lib.hid hr
    have B2 := Lib.hid (B1.out.trans hb)
    clear hr hb
    obtain ⟨p2, hp2⟩ : ∃ p, p = ptN s1.tail := ⟨_, rfl⟩
    rw [← hp2] at RF
    go_wp2_with fail
    refine (prPoint_any _ b s1.tail v ls ht2 R2.out).mono ?_
    rw [← hp2]
    clear hp2
    rintro e w3 ⟨rfl, hr, hb⟩
    have R3 := Lib.hid hr
    have B3 := Lib.hid (B2.out.trans hb)
    clear hr hb
    go_wp2_with fail
    refine (prAdd_any 0 p1 p2 _ b s1.tail.tail _ ls (by omega) R3.out).mono ?_
    rintro e w4 ⟨v4, rfl, hr, hb⟩
    have R4 := Lib.hid hr
    have B4 := Lib.hid (B3.out.trans hb)
    clear hr hb
    go_wp2
    first | go_end0 | ((try simp only [Exit.inBlock, Exit.then]); refine bodyPost_ret (results_none rfl _ _ _) rfl ?_)
    exact ⟨_, rfl, by rw [RF.out]; exact R4.out, B4.out⟩
  have n1 : ¬ (c : Int) = 82 := by omega
  by_cases e2 : c = 70
  · have ec : (c : Int) = 70 := by omega
    have RF := Lib.hid (show rd (n + 1) s ls = (s1, ls ++ [(3, 0, 0)]) by rw [RE.out]; simp only [if_neg e1, if_pos e2])
    rw [ec]
    clear RE
    go_wp2_with fail
    refine (prAdd_any 3 0 0 _ b s1 _ ls (by omega) R1.out).mono ?_
    rintro e w2 ⟨v2, rfl, hr, hb⟩
    have R2 := Lib.hid hr
    have B2 := Lib.hid (B1.out.trans hb)
    clear hr hb
    go_wp2
    first | go_end0 | ((try simp only [Exit.inBlock, Exit.then]); refine bodyPost_ret (results_none rfl _ _ _) rfl ?_)
    exact ⟨_, rfl, by rw [RF.out]; exact R2.out, B2.out⟩
  have n2 : ¬ (c : Int) = 70 := by omega
  by_cases e3 : c = 65
  · have ec : (c : Int) = 65 := by omega
    have RF := Lib.hid (show rd (n + 1) s ls = rd n s1.tail (ls ++ [(7 + ixB qtL c, ptN s1, 0)]) by rw [RE.out]; simp only [if_neg e1, if_neg e2, if_pos (show c = 65 ∨ c = 69 from .inl e3)])
    rw [ec]
    clear RE
    obtain ⟨ix, hix⟩ : ∃ ix, ix = ixB qtL c := ⟨_, rfl⟩
    have kb := ixB_bd qtL c
    have CI := Lib.hid (fun W => show Calls Try.prog 76 #[.string ⟨#[65, 69]⟩, .int .u8 (c : Int)] W fun e w' => e = .returned (.int .i64 (ixB qtL c)) ∧ w' = W from indexByte_any qtL c W)
    rw [← hix] at RF CI kb
    rw [ec] at CI
    obtain ⟨kb1, kb2⟩ := kb
    have kb3 : ix ≤ 2 := kb2
    clear kb2 hix
    have hw : IntKind.i64.wrap (7 + ix) = 7 + ix := by rw [IntKind.wrap_i64]; omega
    go_wp2_with fail
    refine (CI.out _).mono ?_
    rintro e w9 ⟨rfl, rfl⟩
    obtain ⟨p1, hp1⟩ : ∃ p, p = ptN s1 := ⟨_, rfl⟩
    rw [← hp1] at RF
    go_wp2_with fail
    refine (prPoint_any _ b s1 v ls ht1 R1.out).mono ?_
    rw [← hp1]
    clear hp1
    rintro e w2 ⟨rfl, hr, hb⟩
    have R2 := Lib.hid hr
    have B2 := Lib.hid (B1.out.trans hb)
    clear hr hb
    go_wp2_with fail
    refine (prAdd_any (7 + ix) p1 0 _ b s1.tail _ ls (by omega) R2.out).mono ?_
    rintro e w3 ⟨v3, rfl, hr, hb⟩
    have R3 := Lib.hid hr
    have B3 := Lib.hid (B2.out.trans hb)
    clear hr hb
    go_wp2_with fail
    refine (IH _ b s1.tail _ (ls ++ [(7 + ix, p1, 0)]) (by simp; omega) ht2 (by simp; omega) R3.out).mono ?_
    rintro e w4 ⟨v4, rfl, hr, hb⟩
    have R4 := Lib.hid hr
    have B4 := Lib.hid (B3.out.trans hb)
    clear hr hb
    go_wp2
    first | go_end0 | ((try simp only [Exit.inBlock, Exit.then]); refine bodyPost_ret (results_none rfl _ _ _) rfl ?_)
    exact ⟨_, rfl, by rw [RF.out]; exact R4.out, B4.out⟩
  have n3 : ¬ (c : Int) = 65 := by omega
  by_cases e4 : c = 69
  · have ec : (c : Int) = 69 := by omega
    have RF := Lib.hid (show rd (n + 1) s ls = rd n s1.tail (ls ++ [(7 + ixB qtL c, ptN s1, 0)]) by rw [RE.out]; simp only [if_neg e1, if_neg e2, if_pos (show c = 65 ∨ c = 69 from .inr e4)])
    rw [ec]
    clear RE
    obtain ⟨ix, hix⟩ : ∃ ix, ix = ixB qtL c := ⟨_, rfl⟩
    have kb := ixB_bd qtL c
    have CI := Lib.hid (fun W => show Calls Try.prog 76 #[.string ⟨#[65, 69]⟩, .int .u8 (c : Int)] W fun e w' => e = .returned (.int .i64 (ixB qtL c)) ∧ w' = W from indexByte_any qtL c W)
    rw [← hix] at RF CI kb
    rw [ec] at CI
    obtain ⟨kb1, kb2⟩ := kb
    have kb3 : ix ≤ 2 := kb2
    clear kb2 hix
    have hw : IntKind.i64.wrap (7 + ix) = 7 + ix := by rw [IntKind.wrap_i64]; omega
    go_wp2_with fail
    refine (CI.out _).mono ?_
    rintro e w9 ⟨rfl, rfl⟩
    obtain ⟨p1, hp1⟩ : ∃ p, p = ptN s1 := ⟨_, rfl⟩
    rw [← hp1] at RF
    go_wp2_with fail
    refine (prPoint_any _ b s1 v ls ht1 R1.out).mono ?_
    rw [← hp1]
    clear hp1
    rintro e w2 ⟨rfl, hr, hb⟩
    have R2 := Lib.hid hr
    have B2 := Lib.hid (B1.out.trans hb)
    clear hr hb
    go_wp2_with fail
    refine (prAdd_any (7 + ix) p1 0 _ b s1.tail _ ls (by omega) R2.out).mono ?_
    rintro e w3 ⟨v3, rfl, hr, hb⟩
    have R3 := Lib.hid hr
    have B3 := Lib.hid (B2.out.trans hb)
    clear hr hb
    go_wp2_with fail
    refine (IH _ b s1.tail _ (ls ++ [(7 + ix, p1, 0)]) (by simp; omega) ht2 (by simp; omega) R3.out).mono ?_
    rintro e w4 ⟨v4, rfl, hr, hb⟩
    have R4 := Lib.hid hr
    have B4 := Lib.hid (B3.out.trans hb)
    clear hr hb
    go_wp2
    first | go_end0 | ((try simp only [Exit.inBlock, Exit.then]); refine bodyPost_ret (results_none rfl _ _ _) rfl ?_)
    exact ⟨_, rfl, by rw [RF.out]; exact R4.out, B4.out⟩
  have n4 : ¬ (c : Int) = 69 := by omega
  have e34 : ¬ (c = 65 ∨ c = 69) := by omega
  by_cases e5 : c = 126
  · have ec : (c : Int) = 126 := by omega
    have RF := Lib.hid (show rd (n + 1) s ls = ((rd n s1 (ls ++ [(6, 0, 0)])).1, (rd n s1 (ls ++ [(6, 0, 0)])).2 ++ [(3, 0, 0)]) by rw [RE.out]; simp only [if_neg e1, if_neg e2, if_neg e34, if_pos e5])
    rw [ec]
    clear RE
    have gl := rd_le n s1 (ls ++ [(6, 0, 0)])
    have gm : (rd n s1 (ls ++ [(6, 0, 0)])).2.length ≤ 300 := by simp at gl; omega
    clear gl
    go_wp2_with fail
    refine (prAdd_any 6 0 0 _ b s1 _ ls (by omega) R1.out).mono ?_
    rintro e w2 ⟨v2, rfl, hr, hb⟩
    have R2 := Lib.hid hr
    have B2 := Lib.hid (B1.out.trans hb)
    clear hr hb
    have CR := Lib.hid (fun W v' h => IH W b s1 v' (ls ++ [(6, 0, 0)]) (by simp; omega) ht1 (by simp; omega) h)
    obtain ⟨s2, hs2⟩ : ∃ x, x = (rd n s1 (ls ++ [(6, 0, 0)])).1 := ⟨_, rfl⟩
    obtain ⟨l2, hl2⟩ : ∃ x, x = (rd n s1 (ls ++ [(6, 0, 0)])).2 := ⟨_, rfl⟩
    rw [← hs2, ← hl2] at CR RF
    rw [← hl2] at gm
    clear hs2 hl2
    go_wp2_with fail
    refine (CR.out _ _ R2.out).mono ?_
    rintro e w3 ⟨v3, rfl, hr, hb⟩
    have R3 := Lib.hid hr
    have B3 := Lib.hid (B2.out.trans hb)
    clear hr hb
    go_wp2_with fail
    refine (prAdd_any 3 0 0 _ b s2 _ l2 (by omega) R3.out).mono ?_
    rintro e w4 ⟨v4, rfl, hr, hb⟩
    have R4 := Lib.hid hr
    have B4 := Lib.hid (B3.out.trans hb)
    clear hr hb
    go_wp2
    first | go_end0 | ((try simp only [Exit.inBlock, Exit.then]); refine bodyPost_ret (results_none rfl _ _ _) rfl ?_)
    exact ⟨_, rfl, by rw [RF.out]; exact R4.out, B4.out⟩
  have n5 : ¬ (c : Int) = 126 := by omega
  by_cases e6 : c = 40
  · have ec : (c : Int) = 40 := by omega
    have RF := Lib.hid (show rd (n + 1) s ls = ((rd n (rd n s1 (ls ++ [(0, 0, 0)])).1.tail (kdS (rd n s1 (ls ++ [(0, 0, 0)])).2 ls.length (4 + ixB lkL (hdN (rd n s1 (ls ++ [(0, 0, 0)])).1)))).1.tail, (rd n (rd n s1 (ls ++ [(0, 0, 0)])).1.tail (kdS (rd n s1 (ls ++ [(0, 0, 0)])).2 ls.length (4 + ixB lkL (hdN (rd n s1 (ls ++ [(0, 0, 0)])).1)))).2) by rw [RE.out]; simp only [if_neg e1, if_neg e2, if_neg e34, if_neg e5, if_pos e6])
    rw [ec]
    clear RE
    go_wp2_with fail
    refine (prLink_of (by omega) IH _ b s1 _ ls (by omega) ht1 hsm R1.out).mono ?_
    rintro e w2 ⟨v2, rfl, hr, hb⟩
    have R2 := Lib.hid hr
    have B2 := Lib.hid (B1.out.trans hb)
    clear hr hb
    go_wp2
    first | go_end0 | ((try simp only [Exit.inBlock, Exit.then]); refine bodyPost_ret (results_none rfl _ _ _) rfl ?_)
    exact ⟨_, rfl, by rw [RF.out]; exact R2.out, B2.out⟩
  have n6 : ¬ (c : Int) = 40 := by omega
  have RF := Lib.hid (show rd (n + 1) s ls = if 0 ≤ ixB vaB c then (s1.tail, ls ++ [(2, ixB vaB c, ptN s1)]) else (s1.tail.tail, ls ++ [(1, (c : Int) - 48, ptN s1.tail)]) by rw [RE.out]; simp only [if_neg e1, if_neg e2, if_neg e34, if_neg e5, if_neg e6])
  clear RE
  go_wp2_with fail
  refine (prOther_any c hc _ b s1 _ ls ht1 hl R1.out).mono ?_
  rintro e w2 ⟨v2, rfl, hr, hb⟩
  have R2 := Lib.hid hr
  have B2 := Lib.hid (B1.out.trans hb)
  clear hr hb
  go_wp2
  first | go_end0 | ((try simp only [Exit.inBlock, Exit.then]); refine bodyPost_ret (results_none rfl _ _ _) rfl ?_)
  refine ⟨v2, rfl, ?_, B2.out⟩
  have hr := R2.out
  rw [RF.out]
  split at hr
  · rename_i hq; rw [if_pos hq]; exact hr
  · rename_i hq; rw [if_neg hq]; exact hr

theorem prRead_all : ∀ n, n ≤ 122 → RdC n
  | 0, _ => fun w b s v ls hr hs hl h => prRead_big 0 w b s v ls hl h (by omega)
  | n + 1, hn => prRead_step hn (prRead_all n (by omega))

end Go.Proofs.Ytfkdefmafhlmnaa
