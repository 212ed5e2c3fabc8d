/- The model's reader of point formulas: l10Read. Conditions: those in the theorems. -/
import Derived.Test.YtfkdefmafhlmnaaPmN
import Derived.Test.YtfkdefmafhlmnaaTrf
namespace Go.Proofs.Ytfkdefmafhlmnaa
open Go.RowKit

theorem OwnP.keptM {w w' : World} {B b : Nat} {v : Value} {xs : List Pd} (h : OwnP w B v xs) (hg : w.grownBy w' (some b)) (hb : b < B) : OwnP w' B v xs := by
  refine World.ownsRow.kept h hg ?_
  cases hv : v.ownBlock with
  | none => exact .inl rfl
  | some k => exact .inr (fun e => by injection e with e; have := (World.ownsRow.lt h k hv).1; omega)
theorem AtP.own {w : World} {B : Nat} {v : Value} {xs : List Pd} (h : OwnP w B v xs) : ∃ a cap, v = .slice a xs.length cap ∧ AtP w a xs.length xs := by
  obtain ⟨a, cap, e, hat, -⟩ := h.at
  exact ⟨a, cap, e, hat⟩
theorem OwnP.atP {w : World} {B : Nat} {a : Option Addr} {len cap : Nat} {xs : List Pd} (h : OwnP w B (.slice a len cap) xs) : AtP w a len xs := by
  obtain ⟨a', c', e, hat, -⟩ := h.at
  injection e with e1 e2 e3
  subst e1 e2
  exact hat
theorem wrap_u8n (n : Nat) (h : n < 256) : IntKind.u8.wrap (n : Int) = n := by
  have := Nat.lt_of_lt_of_le h (Nat.le_refl _)
  rw [IntKind.wrap_u8]; omega
/-- What l10Read keeps to, with so much room. -/
def RmC (n : Nat) : Prop := ∀ (w : World) (b : Nat) (T : ByteArray) (s : List UInt8) (fl : Bool), s.length < n → T.size ≤ 480 → Rm w b T s fl →
  Calls Try.prog 43 #[.pointer (some ⟨b, 0, none⟩)] w fun e w' => ∃ v, e = .returned v ∧ OwnP w' w.heap.size v (mr n s fl).2.2 ∧ Rm w' b T (mr n s fl).1 (mr n s fl).2.1 ∧ w.grownBy w' (some b)

set_option maxHeartbeats 16000000 in
set_option maxRecDepth 100000 in
theorem l10Read_step {n : Nat} (IH : RmC n) : RmC (n + 1) := by
  intro w b T s fl hn hT h
  have H := Lib.hid h
  have hbw := h.1
  have hsT : s.length ≤ 480 := by have := h.2.2.2.2.2.1; omega
  have hc := hdN_lt s
  have NX := Lib.hid (l10Next_any w b T s fl (by omega) h)
  have RE := Lib.hid (show mr (n + 1) s fl = _ from by rw [mr])
  clear h
  cases hf : (fl || s.isEmpty) with
  | true =>
    have RF := Lib.hid (show mr (n + 1) s fl = (s.tail, true, [(3, 0, 0)]) by rw [RE.out]; simp only [hf, if_true])
    rw [hf] at NX
    clear RE hf
    obtain ⟨c, hcc⟩ : ∃ c, c = hdN s := ⟨_, rfl⟩
    rw [← hcc] at NX
    clear hcc hc
    go_enter Try.func43, Try.ntmps43
    go_wp2_with fail
    refine NX.out.mono ?_
    rintro e w1 ⟨rfl, hr, hg⟩
    have R1 := Lib.hid hr
    have G1 := Lib.hid hg
    obtain ⟨r1, -, -, r4, -⟩ := hr
    have s1 := hg.size
    clear hg
    go_wp2_with fail
    refine (l10False_any _).mono ?_
    rintro e w2 ⟨v2, rfl, ho, hb⟩
    have O2 := Lib.hid (ho.mono s1)
    have R2 := Lib.hid (R1.out.keep hb)
    have G2 := Lib.hid (grown_trans G1.out (below_grown hb))
    clear ho hb
    go_wp2
    go_ret
    exact ⟨_, rfl, by rw [RF.out]; exact O2.out, by rw [RF.out]; exact R2.out, G2.out⟩
  | false =>
    have hs0 : 0 < s.length := by cases s with | nil => simp at hf | cons c s => simp
    have RG := Lib.hid (show mr (n + 1) s fl = _ from by rw [RE.out, if_neg (by rw [hf]; decide)])
    rw [hf] at NX
    clear RE hf
    have hl1 : s.tail.length + 1 = s.length := by simp; omega
    obtain ⟨s1, hs1⟩ : ∃ s1, s1 = s.tail := ⟨_, rfl⟩
    obtain ⟨c, hcc⟩ : ∃ c, c = hdN s := ⟨_, rfl⟩
    rw [← hcc, ← hs1] at NX RG
    rw [← hcc] at hc
    rw [← hs1] at hl1
    clear hcc hs1
    have hn1 : s1.length < n := by omega
    have hq1 : s1.tail.length < n := by simp; omega
    go_enter Try.func43, Try.ntmps43
    go_wp2_with fail
    refine NX.out.mono ?_
    rintro e w1 ⟨rfl, hr, hg⟩
    have R1 := Lib.hid hr
    have G1 := Lib.hid hg
    obtain ⟨r1, -, -, r4, -⟩ := hr
    have z1 : w.heap.size ≤ w1.heap.size := hg.size
    clear hg NX
    by_cases e1 : c = 82
    · have RF := Lib.hid (show mr (n + 1) s fl = (s1.tail.tail, !(dgB s1 && dgB s1.tail), [(0, dvN s1, dvN s1.tail)]) by rw [RG.out]; simp only [if_pos e1])
      clear RG
      have ec : (c : Int) = 82 := by omega
      rw [ec]
      obtain ⟨p1, hp1⟩ : ∃ p, p = dvN s1 := ⟨_, rfl⟩
      rw [← hp1] at RF
      go_wp2_with fail
      refine (l10Digit_any _ b T s1 false (by omega) R1.out).mono ?_
      rw [← hp1]
      clear hp1
      rintro e w2 ⟨rfl, hr, hg⟩
      have R2 := Lib.hid hr
      have G2 := Lib.hid (grown_trans G1.out hg)
      have z2 : w.heap.size ≤ w2.heap.size := G2.out.size
      clear hr hg
      obtain ⟨p2, hp2⟩ : ∃ p, p = dvN s1.tail := ⟨_, rfl⟩
      rw [← hp2] at RF
      go_wp2_with fail
      refine (l10Digit_any _ b T s1.tail (false || !dgB s1) (by omega) R2.out).mono ?_
      rw [← hp2]
      clear hp2
      rintro e w3 ⟨rfl, hr, hg⟩
      have R3 := Lib.hid hr
      have G3 := Lib.hid (grown_trans G2.out hg)
      have z3 : w.heap.size ≤ w3.heap.size := G3.out.size
      clear hr hg
      have ef : ((false || !dgB s1) || !dgB s1.tail) = !(dgB s1 && dgB s1.tail) := by cases dgB s1 <;> cases dgB s1.tail <;> rfl
      rw [ef] at R3
      clear ef
      go_wp2_with fail
      refine (l10One_any 0 p1 p2 _).mono ?_
      rintro e w4 ⟨v4, rfl, ho, hb⟩
      have Oq_4 := Lib.hid (ho.mono (B' := w.heap.size) z3)
      have R4 := Lib.hid (R3.out.keep hb)
      have G4 := Lib.hid (grown_trans G3.out (below_grown hb))
      have z4 : w.heap.size ≤ w4.heap.size := G4.out.size
      clear ho hb
      go_wp2
      go_ret
      exact ⟨_, rfl, by rw [RF.out]; exact Oq_4.out, by rw [RF.out]; exact R4.out, G4.out⟩
    have n1 : ¬ (c : Int) = 82 := by omega
    by_cases e2 : c = 70
    · have RF := Lib.hid (show mr (n + 1) s fl = (s1, false, [(3, 0, 0)]) by rw [RG.out]; simp only [if_neg e1, if_pos e2])
      clear RG
      have ec : (c : Int) = 70 := by omega
      rw [ec]
      go_wp2_with fail
      refine (l10False_any _).mono ?_
      rintro e w2 ⟨v2, rfl, ho, hb⟩
      have Oq_2 := Lib.hid (ho.mono (B' := w.heap.size) z1)
      have R2 := Lib.hid (R1.out.keep hb)
      have G2 := Lib.hid (grown_trans G1.out (below_grown hb))
      have z2 : w.heap.size ≤ w2.heap.size := G2.out.size
      clear ho hb
      go_wp2
      go_ret
      exact ⟨_, rfl, by rw [RF.out]; exact Oq_2.out, by rw [RF.out]; exact R2.out, G2.out⟩
    have n2 : ¬ (c : Int) = 70 := by omega
    by_cases e3 : c = 126
    · have RF := Lib.hid (show mr (n + 1) s fl = ((mr n s1 false).1, (mr n s1 false).2.1, (6, 0, 0) :: ((mr n s1 false).2.2 ++ [(3, 0, 0)])) by rw [RG.out]; simp only [if_neg e1, if_neg e2, if_pos e3])
      clear RG
      have ec : (c : Int) = 126 := by omega
      rw [ec]
      have Lx := mr_len n s1 false
      have CRx := Lib.hid (fun W h => IH W b T s1 false hn1 hT h)
      obtain ⟨sx, hsx⟩ : ∃ x, x = (mr n s1 false).1 := ⟨_, rfl⟩
      obtain ⟨fx, hfx⟩ : ∃ x, x = (mr n s1 false).2.1 := ⟨_, rfl⟩
      obtain ⟨lx, hlx⟩ : ∃ x, x = (mr n s1 false).2.2 := ⟨_, rfl⟩
      rw [← hsx, ← hfx, ← hlx] at CRx RF
      rw [← hsx, ← hlx] at Lx
      clear hsx hfx hlx
      go_wp2_with fail
      refine (CRx.out _ R1.out).mono ?_
      rintro e w2 ⟨v2, rfl, ho, hr, hg⟩
      obtain ⟨ax, cx, rfl, -⟩ := AtP.own ho
      have Ox_2 := Lib.hid (ho.mono (B' := w.heap.size) z1)
      have R2 := Lib.hid hr
      have G2 := Lib.hid (grown_trans G1.out hg)
      have z2 : w.heap.size ≤ w2.heap.size := G2.out.size
      clear ho hr hg
      go_wp2_with fail
      refine (l10False_any _).mono ?_
      rintro e w3 ⟨v3, rfl, ho, hb⟩
      obtain ⟨ay, cy, rfl, -⟩ := AtP.own ho
      have Oy_3 := Lib.hid (ho.mono (B' := w.heap.size) z2)
      have R3 := Lib.hid (R2.out.keep hb)
      have G3 := Lib.hid (grown_trans G2.out (below_grown hb))
      have Ox_3 := Lib.hid ((Ox_2.out.inn.below hb (Nat.le_refl _)).1)
      have z3 : w.heap.size ≤ w3.heap.size := G3.out.size
      clear ho hb
      go_wp2_with fail
      refine (l10Pair_any 6 lx [(3, 0, 0)] _ _ _ _ _ _ _ (by have := Lx.2; simp; omega) (by have := Lx.1; omega) (by simp) Ox_3.out.atP Oy_3.out.atP).mono ?_
      rintro e w4 ⟨v4, rfl, ho, hb⟩
      have Oq_4 := Lib.hid (ho.mono (B' := w.heap.size) z3)
      have R4 := Lib.hid (R3.out.keep hb)
      have G4 := Lib.hid (grown_trans G3.out (below_grown hb))
      have Ox_4 := Lib.hid ((Ox_3.out.inn.below hb (Nat.le_refl _)).1)
      have Oy_4 := Lib.hid ((Oy_3.out.inn.below hb (Nat.le_refl _)).1)
      have z4 : w.heap.size ≤ w4.heap.size := G4.out.size
      clear ho hb
      go_wp2
      go_ret
      exact ⟨_, rfl, by rw [RF.out]; exact Oq_4.out, by rw [RF.out]; exact R4.out, G4.out⟩
    have n3 : ¬ (c : Int) = 126 := by omega
    by_cases e4 : c = 65
    · have RF := Lib.hid (show mr (n + 1) s fl = ((mr n s1.tail (!dgB s1)).1, (mr n s1.tail (!dgB s1)).2.1, (7, dvN s1, 0) :: (mr n s1.tail (!dgB s1)).2.2) by rw [RG.out]; simp only [if_neg e1, if_neg e2, if_neg e3, if_pos (show c = 65 ∨ c = 69 from .inl e4), if_pos e4])
      clear RG
      have ec : (c : Int) = 65 := by omega
      rw [ec]
      have eb : (false || !dgB s1) = !dgB s1 := rfl
      have Lx := mr_len n s1.tail (!dgB s1)
      have CRx := Lib.hid (fun W h => IH W b T s1.tail (!dgB s1) hq1 hT h)
      obtain ⟨sx, hsx⟩ : ∃ x, x = (mr n s1.tail (!dgB s1)).1 := ⟨_, rfl⟩
      obtain ⟨fx, hfx⟩ : ∃ x, x = (mr n s1.tail (!dgB s1)).2.1 := ⟨_, rfl⟩
      obtain ⟨lx, hlx⟩ : ∃ x, x = (mr n s1.tail (!dgB s1)).2.2 := ⟨_, rfl⟩
      rw [← hsx, ← hfx, ← hlx] at CRx RF
      rw [← hsx, ← hlx] at Lx
      clear hsx hfx hlx
      obtain ⟨p1, hp1⟩ : ∃ p, p = dvN s1 := ⟨_, rfl⟩
      rw [← hp1] at RF
      go_wp2_with fail
      refine (l10Digit_any _ b T s1 false (by omega) R1.out).mono ?_
      rw [← hp1]
      clear hp1
      rintro e w2 ⟨rfl, hr, hg⟩
      have R2 := Lib.hid hr
      have G2 := Lib.hid (grown_trans G1.out hg)
      have z2 : w.heap.size ≤ w2.heap.size := G2.out.size
      clear hr hg
      rw [eb] at R2
      go_wp2_with fail
      refine (CRx.out _ R2.out).mono ?_
      rintro e w3 ⟨v3, rfl, ho, hr, hg⟩
      obtain ⟨ax, cx, rfl, -⟩ := AtP.own ho
      have Ox_3 := Lib.hid (ho.mono (B' := w.heap.size) z2)
      have R3 := Lib.hid hr
      have G3 := Lib.hid (grown_trans G2.out hg)
      have z3 : w.heap.size ≤ w3.heap.size := G3.out.size
      clear ho hr hg
      go_wp2_with fail
      refine (l10Bind_any 7 p1 lx _ _ _ _ (by have := Lx.2; simp at this; omega) (by have := Lx.1; omega) Ox_3.out.atP).mono ?_
      rintro e w4 ⟨v4, rfl, ho, hb⟩
      have Oq_4 := Lib.hid (ho.mono (B' := w.heap.size) z3)
      have R4 := Lib.hid (R3.out.keep hb)
      have G4 := Lib.hid (grown_trans G3.out (below_grown hb))
      have Ox_4 := Lib.hid ((Ox_3.out.inn.below hb (Nat.le_refl _)).1)
      have z4 : w.heap.size ≤ w4.heap.size := G4.out.size
      clear ho hb
      go_wp2
      go_ret
      exact ⟨_, rfl, by rw [RF.out]; exact Oq_4.out, by rw [RF.out]; exact R4.out, G4.out⟩
    have n4 : ¬ (c : Int) = 65 := by omega
    by_cases e5 : c = 69
    · have RF := Lib.hid (show mr (n + 1) s fl = ((mr n s1.tail (!dgB s1)).1, (mr n s1.tail (!dgB s1)).2.1, (8, dvN s1, 0) :: (mr n s1.tail (!dgB s1)).2.2) by rw [RG.out]; simp only [if_neg e1, if_neg e2, if_neg e3, if_pos (show c = 65 ∨ c = 69 from .inr e5), if_neg e4])
      clear RG
      have ec : (c : Int) = 69 := by omega
      rw [ec]
      have eb : (false || !dgB s1) = !dgB s1 := rfl
      have Lx := mr_len n s1.tail (!dgB s1)
      have CRx := Lib.hid (fun W h => IH W b T s1.tail (!dgB s1) hq1 hT h)
      obtain ⟨sx, hsx⟩ : ∃ x, x = (mr n s1.tail (!dgB s1)).1 := ⟨_, rfl⟩
      obtain ⟨fx, hfx⟩ : ∃ x, x = (mr n s1.tail (!dgB s1)).2.1 := ⟨_, rfl⟩
      obtain ⟨lx, hlx⟩ : ∃ x, x = (mr n s1.tail (!dgB s1)).2.2 := ⟨_, rfl⟩
      rw [← hsx, ← hfx, ← hlx] at CRx RF
      rw [← hsx, ← hlx] at Lx
      clear hsx hfx hlx
      obtain ⟨p1, hp1⟩ : ∃ p, p = dvN s1 := ⟨_, rfl⟩
      rw [← hp1] at RF
      go_wp2_with fail
      refine (l10Digit_any _ b T s1 false (by omega) R1.out).mono ?_
      rw [← hp1]
      clear hp1
      rintro e w2 ⟨rfl, hr, hg⟩
      have R2 := Lib.hid hr
      have G2 := Lib.hid (grown_trans G1.out hg)
      have z2 : w.heap.size ≤ w2.heap.size := G2.out.size
      clear hr hg
      rw [eb] at R2
      go_wp2_with fail
      refine (CRx.out _ R2.out).mono ?_
      rintro e w3 ⟨v3, rfl, ho, hr, hg⟩
      obtain ⟨ax, cx, rfl, -⟩ := AtP.own ho
      have Ox_3 := Lib.hid (ho.mono (B' := w.heap.size) z2)
      have R3 := Lib.hid hr
      have G3 := Lib.hid (grown_trans G2.out hg)
      have z3 : w.heap.size ≤ w3.heap.size := G3.out.size
      clear ho hr hg
      go_wp2_with fail
      refine (l10Bind_any 8 p1 lx _ _ _ _ (by have := Lx.2; simp at this; omega) (by have := Lx.1; omega) Ox_3.out.atP).mono ?_
      rintro e w4 ⟨v4, rfl, ho, hb⟩
      have Oq_4 := Lib.hid (ho.mono (B' := w.heap.size) z3)
      have R4 := Lib.hid (R3.out.keep hb)
      have G4 := Lib.hid (grown_trans G3.out (below_grown hb))
      have Ox_4 := Lib.hid ((Ox_3.out.inn.below hb (Nat.le_refl _)).1)
      have z4 : w.heap.size ≤ w4.heap.size := G4.out.size
      clear ho hb
      go_wp2
      go_ret
      exact ⟨_, rfl, by rw [RF.out]; exact Oq_4.out, by rw [RF.out]; exact R4.out, G4.out⟩
    have n5 : ¬ (c : Int) = 69 := by omega
    have e45 : ¬ (c = 65 ∨ c = 69) := by omega
    have b45 : ((c : Int) == 65 || (c : Int) == 69) = false := by simp [n4, n5]
    by_cases e6 : 112 ≤ c ∧ c ≤ 117
    · have RF := Lib.hid (show mr (n + 1) s fl = (s1.tail, !dgB s1, [(2, (c : Int) - 112, dvN s1)]) by rw [RG.out]; simp only [if_neg e1, if_neg e2, if_neg e3, if_neg e45, if_pos e6])
      clear RG
      have i1 : (112 : Int) ≤ c := by omega
      have i2 : (c : Int) ≤ 117 := by omega
      have eb : (false || !dgB s1) = !dgB s1 := rfl
      have hw : IntKind.u8.wrap ((c : Int) - 112) = (c : Int) - 112 := by rw [show (c : Int) - 112 = ((c - 112 : Nat) : Int) by omega]; exact wrap_u8n _ (by omega)
      obtain ⟨p1, hp1⟩ : ∃ p, p = dvN s1 := ⟨_, rfl⟩
      rw [← hp1] at RF
      go_wp2_with fail
      refine (l10Digit_any _ b T s1 false (by omega) R1.out).mono ?_
      rw [← hp1]
      clear hp1
      rintro e w2 ⟨rfl, hr, hg⟩
      have R2 := Lib.hid hr
      have G2 := Lib.hid (grown_trans G1.out hg)
      have z2 : w.heap.size ≤ w2.heap.size := G2.out.size
      clear hr hg
      rw [eb] at R2
      go_wp2_with fail
      refine (l10One_any 2 ((c : Int) - 112) p1 _).mono ?_
      rintro e w3 ⟨v3, rfl, ho, hb⟩
      have Oq_3 := Lib.hid (ho.mono (B' := w.heap.size) z2)
      have R3 := Lib.hid (R2.out.keep hb)
      have G3 := Lib.hid (grown_trans G2.out (below_grown hb))
      have z3 : w.heap.size ≤ w3.heap.size := G3.out.size
      clear ho hb
      go_wp2
      go_ret
      exact ⟨_, rfl, by rw [RF.out]; exact Oq_3.out, by rw [RF.out]; exact R3.out, G3.out⟩
    have n6 : (c : Int) < 112 ∨ 117 < (c : Int) := by omega
    by_cases e7 : 48 ≤ c ∧ c ≤ 57
    · have RF := Lib.hid (show mr (n + 1) s fl = (s1.tail.tail, !(decide (hdN s1 = 61) && dgB s1.tail), [(1, (c : Int) - 48, dvN s1.tail)]) by rw [RG.out]; simp only [if_neg e1, if_neg e2, if_neg e3, if_neg e45, if_neg e6, if_pos e7])
      clear RG
      have i0 : ¬ (112 : Int) ≤ c := by omega
      have i1 : (48 : Int) ≤ c := by omega
      have i2 : (c : Int) ≤ 57 := by omega
      have hw : IntKind.u8.wrap ((c : Int) - 48) = (c : Int) - 48 := by rw [show (c : Int) - 48 = ((c - 48 : Nat) : Int) by omega]; exact wrap_u8n _ (by omega)
      have em1 : s1.isEmpty = true → ¬ hdN s1 = 61 := fun e => by cases s1 with | nil => decide | cons x s1 => simp at e
      obtain ⟨d, hd⟩ : ∃ d, d = hdN s1 := ⟨_, rfl⟩
      rw [← hd] at RF em1
      have hdl := hdN_lt s1
      rw [← hd] at hdl
      go_wp2_with fail
      refine (l10Next_any _ b T s1 false (by omega) R1.out).mono ?_
      rw [← hd]
      clear hd
      rintro e w2 ⟨rfl, hr, hg⟩
      have R2 := Lib.hid hr
      have G2 := Lib.hid (grown_trans G1.out hg)
      have z2 : w.heap.size ≤ w2.heap.size := G2.out.size
      clear hr hg
      by_cases e9 : d = 61
      · have ed : (d : Int) = 61 := by omega
        have es : (false || s1.isEmpty) = false := by cases he : s1.isEmpty with | false => rfl | true => exact absurd e9 (em1 he)
        rw [es] at R2
        rw [ed]
        have ef : (false || !dgB s1.tail) = !(decide (d = 61) && dgB s1.tail) := by rw [decide_eq_true e9]; cases dgB s1.tail <;> rfl
        obtain ⟨p1, hp1⟩ : ∃ p, p = dvN s1.tail := ⟨_, rfl⟩
        rw [← hp1] at RF
        go_wp2_with fail
        refine (l10Digit_any _ b T s1.tail false (by omega) R2.out).mono ?_
        rw [← hp1]
        clear hp1
        rintro e w3 ⟨rfl, hr, hg⟩
        have R3 := Lib.hid hr
        have G3 := Lib.hid (grown_trans G2.out hg)
        have z3 : w.heap.size ≤ w3.heap.size := G3.out.size
        clear hr hg
        rw [ef] at R3
        go_wp2_with fail
        refine (l10One_any 1 ((c : Int) - 48) p1 _).mono ?_
        rintro e w4 ⟨v4, rfl, ho, hb⟩
        have Oq_4 := Lib.hid (ho.mono (B' := w.heap.size) z3)
        have R4 := Lib.hid (R3.out.keep hb)
        have G4 := Lib.hid (grown_trans G3.out (below_grown hb))
        have z4 : w.heap.size ≤ w4.heap.size := G4.out.size
        clear ho hb
        go_wp2
        go_ret
        exact ⟨_, rfl, by rw [RF.out]; exact Oq_4.out, by rw [RF.out]; exact R4.out, G4.out⟩
      · have ed : ¬ (d : Int) = 61 := by omega
        have RT := Lib.hid R2.out.fail
        obtain ⟨q1, -, -, q4, ⟨-, q6⟩, -⟩ := R2.out
        have GT := Lib.hid (grown_trans G2.out (grown_setM w2 b 2 (.bool true)))
        have zT : w.heap.size ≤ (w2.setCell ⟨b, 2, none⟩ (.bool true)).heap.size := GT.out.size
        have ef : (true || !dgB s1.tail) = !(decide (d = 61) && dgB s1.tail) := by rw [decide_eq_false e9]; cases dgB s1.tail <;> rfl
        obtain ⟨p1, hp1⟩ : ∃ p, p = dvN s1.tail := ⟨_, rfl⟩
        rw [← hp1] at RF
        go_wp2_with fail
        refine (l10Digit_any _ b T s1.tail true (by omega) RT.out).mono ?_
        rw [← hp1]
        clear hp1
        rintro e w3 ⟨rfl, hr, hg⟩
        have R3 := Lib.hid hr
        have G3 := Lib.hid (grown_trans GT.out hg)
        have z3 : w.heap.size ≤ w3.heap.size := G3.out.size
        clear hr hg
        rw [ef] at R3
        go_wp2_with fail
        refine (l10One_any 1 ((c : Int) - 48) p1 _).mono ?_
        rintro e w4 ⟨v4, rfl, ho, hb⟩
        have Oq_4 := Lib.hid (ho.mono (B' := w.heap.size) z3)
        have R4 := Lib.hid (R3.out.keep hb)
        have G4 := Lib.hid (grown_trans G3.out (below_grown hb))
        have z4 : w.heap.size ≤ w4.heap.size := G4.out.size
        clear ho hb
        go_wp2
        go_ret
        exact ⟨_, rfl, by rw [RF.out]; exact Oq_4.out, by rw [RF.out]; exact R4.out, G4.out⟩
    have n7 : (c : Int) < 48 ∨ 57 < (c : Int) := by omega
    by_cases e8 : c = 40
    · have RF := Lib.hid (show mr (n + 1) s fl = ((mr n (mr n s1 false).1.tail ((mr n s1 false).2.1 || (mr n s1 false).1.isEmpty)).1.tail, ((mr n (mr n s1 false).1.tail ((mr n s1 false).2.1 || (mr n s1 false).1.isEmpty)).2.1 || (mr n (mr n s1 false).1.tail ((mr n s1 false).2.1 || (mr n s1 false).1.isEmpty)).1.isEmpty) || !(decide (hdN (mr n (mr n s1 false).1.tail ((mr n s1 false).2.1 || (mr n s1 false).1.isEmpty)).1 = 41) && sgB (hdN (mr n s1 false).1)), (sgK (hdN (mr n s1 false).1), 0, 0) :: ((mr n s1 false).2.2 ++ (mr n (mr n s1 false).1.tail ((mr n s1 false).2.1 || (mr n s1 false).1.isEmpty)).2.2)) by rw [RG.out]; simp only [if_neg e1, if_neg e2, if_neg e3, if_neg e45, if_neg e6, if_neg e7, if_pos e8])
      clear RG
      have ec : (c : Int) = 40 := by omega
      rw [ec]
      have Lx := mr_len n s1 false
      have CRx := Lib.hid (fun W h => IH W b T s1 false hn1 hT h)
      obtain ⟨sx, hsx⟩ : ∃ x, x = (mr n s1 false).1 := ⟨_, rfl⟩
      obtain ⟨fx, hfx⟩ : ∃ x, x = (mr n s1 false).2.1 := ⟨_, rfl⟩
      obtain ⟨lx, hlx⟩ : ∃ x, x = (mr n s1 false).2.2 := ⟨_, rfl⟩
      rw [← hsx, ← hfx, ← hlx] at CRx RF
      rw [← hsx, ← hlx] at Lx
      clear hsx hfx hlx
      have Ly := mr_len n sx.tail (fx || sx.isEmpty)
      have CRy := Lib.hid (fun W h => IH W b T sx.tail (fx || sx.isEmpty) (by have := Lx.1; have := Lx.2; simp; omega) hT h)
      obtain ⟨sy, hsy⟩ : ∃ x, x = (mr n sx.tail (fx || sx.isEmpty)).1 := ⟨_, rfl⟩
      obtain ⟨fy, hfy⟩ : ∃ x, x = (mr n sx.tail (fx || sx.isEmpty)).2.1 := ⟨_, rfl⟩
      obtain ⟨ly, hly⟩ : ∃ x, x = (mr n sx.tail (fx || sx.isEmpty)).2.2 := ⟨_, rfl⟩
      rw [← hsy, ← hfy, ← hly] at CRy RF
      rw [← hsy, ← hly] at Ly
      clear hsy hfy hly
      go_wp2_with fail
      refine (CRx.out _ R1.out).mono ?_
      rintro e w2 ⟨v2, rfl, ho, hr, hg⟩
      obtain ⟨ax, cx, rfl, -⟩ := AtP.own ho
      have Ox_2 := Lib.hid (ho.mono (B' := w.heap.size) z1)
      have R2 := Lib.hid hr
      have G2 := Lib.hid (grown_trans G1.out hg)
      have z2 : w.heap.size ≤ w2.heap.size := G2.out.size
      clear ho hr hg
      obtain ⟨sg, hsg⟩ : ∃ d, d = hdN sx := ⟨_, rfl⟩
      rw [← hsg] at RF
      have hgl := hdN_lt sx
      rw [← hsg] at hgl
      go_wp2_with fail
      refine (l10Next_any _ b T sx fx (by omega) R2.out).mono ?_
      rw [← hsg]
      clear hsg
      rintro e w3 ⟨rfl, hr, hg⟩
      have R3 := Lib.hid hr
      have G3 := Lib.hid (grown_trans G2.out hg)
      have Ox_3 := Lib.hid (Ox_2.out.keptM hg hbw)
      have z3 : w.heap.size ≤ w3.heap.size := G3.out.size
      clear hr hg
      go_wp2_with fail
      refine (CRy.out _ R3.out).mono ?_
      rintro e w4 ⟨v4, rfl, ho, hr, hg⟩
      obtain ⟨ay, cy, rfl, -⟩ := AtP.own ho
      have Oy_4 := Lib.hid (ho.mono (B' := w.heap.size) z3)
      have R4 := Lib.hid hr
      have G4 := Lib.hid (grown_trans G3.out hg)
      have Ox_4 := Lib.hid (Ox_3.out.keptM hg hbw)
      have z4 : w.heap.size ≤ w4.heap.size := G4.out.size
      clear ho hr hg
      obtain ⟨d, hd⟩ : ∃ d, d = hdN sy := ⟨_, rfl⟩
      rw [← hd] at RF
      have hdl := hdN_lt sy
      rw [← hd] at hdl
      go_wp2_with fail
      refine (l10Next_any _ b T sy fy (by omega) R4.out).mono ?_
      rw [← hd]
      clear hd
      rintro e w5 ⟨rfl, hr, hg⟩
      have R5 := Lib.hid hr
      have G5 := Lib.hid (grown_trans G4.out hg)
      have Ox_5 := Lib.hid (Ox_4.out.keptM hg hbw)
      have Oy_5 := Lib.hid (Oy_4.out.keptM hg hbw)
      have z5 : w.heap.size ≤ w5.heap.size := G5.out.size
      clear hr hg
      have hlx := Lx.2
      have hly := Ly.2
      have px := Lx.1
      have py := Ly.1
      have hxy : lx.length + ly.length ≤ 1048576 := by simp at hly; omega
      by_cases e41 : d = 41
      · have ed : (d : Int) = 41 := by omega
        rw [ed]
        by_cases g38 : sg = 38
        · have eg : (sg : Int) = 38 := by omega
          have kq : sgK sg = 4 := by rw [g38]; rfl
          have sq : sgB sg = true := by rw [g38]; rfl
          have v1 : ((sg : Int) == 38) = true := by rw [eg]; rfl
          clear v1
          have fq : ((fy || sy.isEmpty) || !(decide (d = 41) && sgB sg)) = (fy || sy.isEmpty) := by rw [decide_eq_true e41, sq]; simp
          rw [kq, fq] at RF
          rw [eg]
          go_wp2_with fail
          refine (l10Pair_any 4 lx ly _ _ _ _ _ _ _ hxy px py Ox_5.out.atP Oy_5.out.atP).mono ?_
          rintro e w6 ⟨v6, rfl, ho, hb⟩
          have OQ := Lib.hid (ho.mono (B' := w.heap.size) z5)
          have RQ := Lib.hid (R5.out.keep hb)
          have GQ := Lib.hid (grown_trans G5.out (below_grown hb))
          clear ho hb
          go_wp2
          go_ret
          exact ⟨_, rfl, by rw [RF.out]; exact OQ.out, by rw [RF.out]; exact RQ.out, GQ.out⟩
        by_cases g124 : sg = 124
        · have eg : (sg : Int) = 124 := by omega
          have kq : sgK sg = 5 := by rw [g124]; rfl
          have sq : sgB sg = true := by rw [g124]; rfl
          have v1 : ((sg : Int) == 38) = false := by rw [eg]; rfl
          clear v1
          have fq : ((fy || sy.isEmpty) || !(decide (d = 41) && sgB sg)) = (fy || sy.isEmpty) := by rw [decide_eq_true e41, sq]; simp
          rw [kq, fq] at RF
          rw [eg]
          go_wp2_with fail
          refine (l10Pair_any 5 lx ly _ _ _ _ _ _ _ hxy px py Ox_5.out.atP Oy_5.out.atP).mono ?_
          rintro e w6 ⟨v6, rfl, ho, hb⟩
          have OQ := Lib.hid (ho.mono (B' := w.heap.size) z5)
          have RQ := Lib.hid (R5.out.keep hb)
          have GQ := Lib.hid (grown_trans G5.out (below_grown hb))
          clear ho hb
          go_wp2
          go_ret
          exact ⟨_, rfl, by rw [RF.out]; exact OQ.out, by rw [RF.out]; exact RQ.out, GQ.out⟩
        by_cases g62 : sg = 62
        · have eg : (sg : Int) = 62 := by omega
          have kq : sgK sg = 6 := by rw [g62]; rfl
          have sq : sgB sg = true := by rw [g62]; rfl
          have v1 : ((sg : Int) == 38) = false := by rw [eg]; rfl
          clear v1
          have fq : ((fy || sy.isEmpty) || !(decide (d = 41) && sgB sg)) = (fy || sy.isEmpty) := by rw [decide_eq_true e41, sq]; simp
          rw [kq, fq] at RF
          rw [eg]
          go_wp2_with fail
          refine (l10Pair_any 6 lx ly _ _ _ _ _ _ _ hxy px py Ox_5.out.atP Oy_5.out.atP).mono ?_
          rintro e w6 ⟨v6, rfl, ho, hb⟩
          have OQ := Lib.hid (ho.mono (B' := w.heap.size) z5)
          have RQ := Lib.hid (R5.out.keep hb)
          have GQ := Lib.hid (grown_trans G5.out (below_grown hb))
          clear ho hb
          go_wp2
          go_ret
          exact ⟨_, rfl, by rw [RF.out]; exact OQ.out, by rw [RF.out]; exact RQ.out, GQ.out⟩
        have x1 : ¬ (sg : Int) = 38 := by omega
        have x2 : ¬ (sg : Int) = 124 := by omega
        have kq : sgK sg = 6 := by unfold sgK; rw [if_neg g38, if_neg g124]
        have x3 : ¬ (sg : Int) = 62 := by omega
        have y1 : ((sg : Int) == 38) = false := by simp [x1]
        have y2 : ((sg : Int) == 124) = false := by simp [x2]
        have y3 : ((sg : Int) == 62) = false := by simp [x3]
        have y4 : ((((sg : Int) != 38) && ((sg : Int) != 124)) && ((sg : Int) != 62)) = true := by simp [x1, x2, x3]
        have sq : sgB sg = false := by unfold sgB; simp [g38, g124, g62]
        have fq : ((fy || sy.isEmpty) || !(decide (d = 41) && sgB sg)) = true := by rw [decide_eq_true e41, sq]; simp
        rw [kq, fq] at RF
        have RT := Lib.hid R5.out.fail
        obtain ⟨q1, -, -, q4, ⟨-, q6⟩, -⟩ := R5.out
        have GT := Lib.hid (grown_trans G5.out (grown_setM w5 b 2 (.bool true)))
        have zT : w.heap.size ≤ (w5.setCell ⟨b, 2, none⟩ (.bool true)).heap.size := GT.out.size
        have OxT := Lib.hid (Ox_5.out.keptM (grown_setM w5 b 2 (.bool true)) hbw)
        have OyT := Lib.hid (Oy_5.out.keptM (grown_setM w5 b 2 (.bool true)) hbw)
        go_wp2_with fail
        refine (l10Pair_any 6 lx ly _ _ _ _ _ _ _ hxy px py OxT.out.atP OyT.out.atP).mono ?_
        rintro e w6 ⟨v6, rfl, ho, hb⟩
        have OQ := Lib.hid (ho.mono (B' := w.heap.size) zT)
        have RQ := Lib.hid (RT.out.keep hb)
        have GQ := Lib.hid (grown_trans GT.out (below_grown hb))
        clear ho hb
        go_wp2
        go_ret
        exact ⟨_, rfl, by rw [RF.out]; exact OQ.out, by rw [RF.out]; exact RQ.out, GQ.out⟩
      · have ed : ¬ (d : Int) = 41 := by omega
        by_cases g38 : sg = 38
        · have eg : (sg : Int) = 38 := by omega
          have kq : sgK sg = 4 := by rw [g38]; rfl
          have sq : sgB sg = true := by rw [g38]; rfl
          have v1 : ((sg : Int) == 38) = true := by rw [eg]; rfl
          clear v1
          have fq : ((fy || sy.isEmpty) || !(decide (d = 41) && sgB sg)) = true := by rw [decide_eq_false e41]; simp
          rw [kq, fq] at RF
          have RT := Lib.hid R5.out.fail
          obtain ⟨q1, -, -, q4, ⟨-, q6⟩, -⟩ := R5.out
          have GT := Lib.hid (grown_trans G5.out (grown_setM w5 b 2 (.bool true)))
          have zT : w.heap.size ≤ (w5.setCell ⟨b, 2, none⟩ (.bool true)).heap.size := GT.out.size
          have OxT := Lib.hid (Ox_5.out.keptM (grown_setM w5 b 2 (.bool true)) hbw)
          have OyT := Lib.hid (Oy_5.out.keptM (grown_setM w5 b 2 (.bool true)) hbw)
          rw [eg]
          go_wp2_with fail
          refine (l10Pair_any 4 lx ly _ _ _ _ _ _ _ hxy px py OxT.out.atP OyT.out.atP).mono ?_
          rintro e w6 ⟨v6, rfl, ho, hb⟩
          have OQ := Lib.hid (ho.mono (B' := w.heap.size) zT)
          have RQ := Lib.hid (RT.out.keep hb)
          have GQ := Lib.hid (grown_trans GT.out (below_grown hb))
          clear ho hb
          go_wp2
          go_ret
          exact ⟨_, rfl, by rw [RF.out]; exact OQ.out, by rw [RF.out]; exact RQ.out, GQ.out⟩
        by_cases g124 : sg = 124
        · have eg : (sg : Int) = 124 := by omega
          have kq : sgK sg = 5 := by rw [g124]; rfl
          have sq : sgB sg = true := by rw [g124]; rfl
          have v1 : ((sg : Int) == 38) = false := by rw [eg]; rfl
          clear v1
          have fq : ((fy || sy.isEmpty) || !(decide (d = 41) && sgB sg)) = true := by rw [decide_eq_false e41]; simp
          rw [kq, fq] at RF
          have RT := Lib.hid R5.out.fail
          obtain ⟨q1, -, -, q4, ⟨-, q6⟩, -⟩ := R5.out
          have GT := Lib.hid (grown_trans G5.out (grown_setM w5 b 2 (.bool true)))
          have zT : w.heap.size ≤ (w5.setCell ⟨b, 2, none⟩ (.bool true)).heap.size := GT.out.size
          have OxT := Lib.hid (Ox_5.out.keptM (grown_setM w5 b 2 (.bool true)) hbw)
          have OyT := Lib.hid (Oy_5.out.keptM (grown_setM w5 b 2 (.bool true)) hbw)
          rw [eg]
          go_wp2_with fail
          refine (l10Pair_any 5 lx ly _ _ _ _ _ _ _ hxy px py OxT.out.atP OyT.out.atP).mono ?_
          rintro e w6 ⟨v6, rfl, ho, hb⟩
          have OQ := Lib.hid (ho.mono (B' := w.heap.size) zT)
          have RQ := Lib.hid (RT.out.keep hb)
          have GQ := Lib.hid (grown_trans GT.out (below_grown hb))
          clear ho hb
          go_wp2
          go_ret
          exact ⟨_, rfl, by rw [RF.out]; exact OQ.out, by rw [RF.out]; exact RQ.out, GQ.out⟩
        have x1 : ¬ (sg : Int) = 38 := by omega
        have x2 : ¬ (sg : Int) = 124 := by omega
        have kq : sgK sg = 6 := by unfold sgK; rw [if_neg g38, if_neg g124]
        have fq : ((fy || sy.isEmpty) || !(decide (d = 41) && sgB sg)) = true := by rw [decide_eq_false e41]; simp
        rw [kq, fq] at RF
        have RT := Lib.hid R5.out.fail
        obtain ⟨q1, -, -, q4, ⟨-, q6⟩, -⟩ := R5.out
        have GT := Lib.hid (grown_trans G5.out (grown_setM w5 b 2 (.bool true)))
        have zT : w.heap.size ≤ (w5.setCell ⟨b, 2, none⟩ (.bool true)).heap.size := GT.out.size
        have OxT := Lib.hid (Ox_5.out.keptM (grown_setM w5 b 2 (.bool true)) hbw)
        have OyT := Lib.hid (Oy_5.out.keptM (grown_setM w5 b 2 (.bool true)) hbw)
        go_wp2_with fail
        refine (l10Pair_any 6 lx ly _ _ _ _ _ _ _ hxy px py OxT.out.atP OyT.out.atP).mono ?_
        rintro e w6 ⟨v6, rfl, ho, hb⟩
        have OQ := Lib.hid (ho.mono (B' := w.heap.size) zT)
        have RQ := Lib.hid (RT.out.keep hb)
        have GQ := Lib.hid (grown_trans GT.out (below_grown hb))
        clear ho hb
        go_wp2
        go_ret
        exact ⟨_, rfl, by rw [RF.out]; exact OQ.out, by rw [RF.out]; exact RQ.out, GQ.out⟩
    have n8 : ¬ (c : Int) = 40 := by omega
    have RF := Lib.hid (show mr (n + 1) s fl = (s1, true, [(3, 0, 0)]) by rw [RG.out]; simp only [if_neg e1, if_neg e2, if_neg e3, if_neg e45, if_neg e6, if_neg e7, if_neg e8])
    clear RG
    have n9 : (c : Int) < 48 ∨ (57 < (c : Int) ∧ (c : Int) < 112) ∨ 117 < (c : Int) := by omega
    have RT := Lib.hid R1.out.fail
    obtain ⟨q1, -, -, q4, ⟨-, q6⟩, -⟩ := R1.out
    have GT := Lib.hid (grown_trans G1.out (grown_setM w1 b 2 (.bool true)))
    have zT : w.heap.size ≤ (w1.setCell ⟨b, 2, none⟩ (.bool true)).heap.size := GT.out.size
    rcases n9 with n9 | ⟨n9, n9'⟩ | n9
    · have h9 := n9
      have h10 : ¬ (48 : Int) ≤ c := by omega
      have h11 : ¬ (112 : Int) ≤ c := by omega
      go_wp2_with fail
      refine (l10False_any _).mono ?_
      rintro e w2 ⟨v2, rfl, ho, hb⟩
      have OQ := Lib.hid (ho.mono (B' := w.heap.size) zT)
      have RQ := Lib.hid (RT.out.keep hb)
      have GQ := Lib.hid (grown_trans GT.out (below_grown hb))
      clear ho hb
      go_wp2
      go_ret
      exact ⟨_, rfl, by rw [RF.out]; exact OQ.out, by rw [RF.out]; exact RQ.out, GQ.out⟩
    · have h9 := n9
      have h10 : ¬ (c : Int) ≤ 57 := by omega
      have h11 : ¬ (112 : Int) ≤ c := by omega
      have h12 : (48 : Int) ≤ c := by omega
      go_wp2_with fail
      refine (l10False_any _).mono ?_
      rintro e w2 ⟨v2, rfl, ho, hb⟩
      have OQ := Lib.hid (ho.mono (B' := w.heap.size) zT)
      have RQ := Lib.hid (RT.out.keep hb)
      have GQ := Lib.hid (grown_trans GT.out (below_grown hb))
      clear ho hb
      go_wp2
      go_ret
      exact ⟨_, rfl, by rw [RF.out]; exact OQ.out, by rw [RF.out]; exact RQ.out, GQ.out⟩
    · have h9 := n9
      have h10 : ¬ (c : Int) ≤ 57 := by omega
      have h11 : ¬ (c : Int) ≤ 117 := by omega
      have h12 : (48 : Int) ≤ c := by omega
      have h13 : (112 : Int) ≤ c := by omega
      go_wp2_with fail
      refine (l10False_any _).mono ?_
      rintro e w2 ⟨v2, rfl, ho, hb⟩
      have OQ := Lib.hid (ho.mono (B' := w.heap.size) zT)
      have RQ := Lib.hid (RT.out.keep hb)
      have GQ := Lib.hid (grown_trans GT.out (below_grown hb))
      clear ho hb
      go_wp2
      go_ret
      exact ⟨_, rfl, by rw [RF.out]; exact OQ.out, by rw [RF.out]; exact RQ.out, GQ.out⟩

end Go.Proofs.Ytfkdefmafhlmnaa
