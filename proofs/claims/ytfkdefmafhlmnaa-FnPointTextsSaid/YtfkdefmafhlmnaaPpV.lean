/- ParsePoint of both sides. Conditions: those in the theorems. -/
import Derived.Test.YtfkdefmafhlmnaaPrS
import Derived.Test.YtfkdefmafhlmnaaPmR
import Derived.Test.YtfkdefmafhlmnaaPtW
import Derived.Test.YtfkdefmafhlmnaaLawPtx
namespace Go.Proofs.Ytfkdefmafhlmnaa
open Go.RowKit

theorem mr_all : ∀ n, RmC n
  | 0 => fun _ _ _ _ _ h => absurd h (by omega)
  | n + 1 => l10Read_step (mr_all n)

/-- A string is the text of a point formula. -/
def pqP (T : ByteArray) : Prop := ∃ f : Pt, f.ok ∧ f.sz ≤ 120 ∧ T = str f.wr
open Classical in
noncomputable def pqR (T : ByteArray) : List Pd := if h : pqP T then (Classical.choose h).enc else []
open Classical in
noncomputable def pqC (T : ByteArray) : Int := if pqP T then 0 else 6
theorem str_data (T : ByteArray) : stq T.data.toList = T := by
  apply ByteArray.ext; simp [stq]
theorem bs_noP {a b : ByteArray} (h : ¬ a = b) : (a.toList == b.toList) = false := by
  rw [ByteArray.toList_eq, ByteArray.toList_eq, beq_eq_false_iff_ne]
  intro e
  exact h (ByteArray.ext (Array.toList_inj.1 e))
theorem pp_rd {T : ByteArray} {f : Pt} (hf : f.ok) (hz : f.sz ≤ 120) (h : T = str f.wr) : rd 122 T.data.toList [] = ([], f.enc) := by
  have := rd_wr f hf 122 [] [] (by simpa using hz) (by simp)
  rw [h]
  simpa [str] using this
theorem pp_mr {T : ByteArray} {f : Pt} (hf : f.ok) (h : T = str f.wr) : mr (T.size + 1) T.data.toList false = ([], false, f.enc) := by
  have := mr_wr f hf (T.size + 1) [] (by rw [h]; simp [str, ByteArray.size])
  rw [h] at this ⊢
  simpa [str] using this
theorem pp_yes {T : ByteArray} {f : Pt} (hf : f.ok) (hz : f.sz ≤ 120) (h : T = str f.wr) : pqR T = f.enc ∧ pqC T = 0 := by
  have hp : pqP T := ⟨f, hf, hz, h⟩
  refine ⟨?_, by unfold pqC; rw [if_pos hp]⟩
  unfold pqR
  rw [dif_pos hp]
  obtain ⟨g1, g2, g3⟩ := Classical.choose_spec hp
  have e1 := pp_rd g1 g2 g3
  rw [pp_rd hf hz h] at e1
  exact (Prod.mk.inj e1).2.symm
theorem pp_no {T : ByteArray} (h : ¬ pqP T) : pqR T = [] ∧ pqC T = 6 := by
  unfold pqR pqC; rw [dif_neg h, if_neg h]; exact ⟨rfl, rfl⟩
theorem ParsePoint_len (T : ByteArray) : (pqR T).length ≤ 1048576 := by
  unfold pqR
  split
  · rename_i h
    have := (Classical.choose_spec h).2.1
    rw [Pt.enc_len]; omega
  · simp
theorem toPt_enc (f : Pt) (hf : f.ok) (hz : f.sz ≤ 120) : toPt f.enc = f := by
  obtain ⟨g1, g2, -⟩ := toPt_of (pt_is f hf hz)
  exact (encP_inj _ g1 f [] [] hf (by rw [← g2])).1

set_option maxHeartbeats 4000000 in
theorem implParsePoint_v (T : ByteArray) (w : World) (hT : (T.size : Int) ≤ 1048576) :
    Calls Try.prog 11 #[.string T] w fun e w' => ∃ v, e = .returned (.tuple #[v, .int .i64 (pqC T)]) ∧ OwnP w' w.heap.size v (pqR T) ∧ Below w.heap.size w w' := by
  have PP := Lib.hid (fun (f : Pt) (h1 : f.ok) (h2 : f.sz ≤ 120) (h3 : T = str f.wr) => pp_rd h1 h2 h3)
  have RL := rd_le 122 T.data.toList []
  obtain ⟨s1, hs1⟩ : ∃ x, x = (rd 122 T.data.toList []).1 := ⟨_, rfl⟩
  obtain ⟨ls, hls⟩ : ∃ x, x = (rd 122 T.data.toList []).2 := ⟨_, rfl⟩
  have PQ := Lib.hid (show ∀ f : Pt, f.ok → f.sz ≤ 120 → T = str f.wr → ls = f.enc from fun f h1 h2 h3 => by rw [hls, PP.out f h1 h2 h3])
  have hl3 : ls.length ≤ 243 := by rw [hls]; simpa using RL
  clear RL PP
  have CR := Lib.hid (fun W b v (h : Rd W b T.data.toList v []) => prRead_all 122 (by omega) W b T.data.toList v [] (by simp) (by show T.data.size ≤ 1048576; have : T.size = T.data.size := rfl; omega) (by simp) h)
  rw [← hs1, ← hls] at CR
  clear hs1 hls
  obtain ⟨W, hW⟩ : ∃ W, W = w.alloc (.cells #[.string T, .slice none 0 0] 59) := ⟨_, rfl⟩
  have HB := Lib.hid (show Below w.heap.size w W by rw [hW]; exact (Below.refl _ _).alloc (Nat.le_refl _) _)
  have R0 := Lib.hid (show Rd W w.heap.size T.data.toList (.slice none 0 0) [] by
    rw [hW]
    exact ⟨by simp, by rw [str_data]; exact World.cell?_alloc_at _ _ _ _ rfl, World.cell?_alloc_at _ _ _ _ rfl, by simp, by simp, World.ownsRow_nil _ _ _ _⟩)
  have HW := Lib.hid hW
  clear hW
  go_enter Try.func11, Try.ntmps11
  go_wp2_with fail
  rw [← HW.out]
  refine (CR.out _ _ _ R0.out).mono ?_
  rintro e w1 ⟨v1, rfl, hr, hb⟩
  have B1 := Lib.hid (HB.out.trans hb)
  obtain ⟨q1, -, q3, -, -, q6⟩ := hr
  obtain ⟨a, cap, rfl, hat, hc1, hc2⟩ := q6.inn.at'
  have O1 := Lib.hid q6
  have A1 := Lib.hid hat
  have D := Lib.hid (fun h : isP ls ls.length = true => hat.pformula h hc1 hc2)
  clear hb q6 hat hc1 hc2
  cases hp : isP ls ls.length with
  | false =>
    have N := Lib.hid (pp_no (T := T) (fun ⟨f, h1, h2, h3⟩ => by rw [PQ.out f h1 h2 h3, pt_is f h1 h2] at hp; cases hp))
    go_wp2_with fail
    refine (implIsP_any ls a _ _ _ (by omega) A1.out).mono ?_
    rw [hp]
    rintro e w2 ⟨rfl, hb2⟩
    have B2 := Lib.hid (B1.out.trans (hb2.mono B1.out.size))
    clear hb2 q3
    go_wp2
    go_ret2
    exact ⟨_, by rw [N.out.2]; rfl, by rw [N.out.1]; exact World.ownsRow_nil _ _ _ _, B2.out⟩
  | true =>
    obtain ⟨b, off, rfl, hf⟩ := D.out hp
    obtain ⟨k1, k2, k3⟩ := toPt_of hp
    have F := Lib.hid hf
    have KO := Lib.hid k1
    have KE := Lib.hid k2
    obtain ⟨f, hff⟩ : ∃ f, f = toPt ls := ⟨_, rfl⟩
    rw [← hff] at F KO KE k3
    clear hf k1 k2 hff D
    go_wp2_with fail
    refine (implIsP_any ls _ _ _ _ (by omega) A1.out).mono ?_
    rw [hp]
    rintro e w2 ⟨rfl, hb2⟩
    have B2 := Lib.hid (B1.out.trans (hb2.mono B1.out.size))
    have q3' := (hb2.cell (p := ⟨w.heap.size, 1, none⟩) q1).trans q3
    have q1' := Nat.lt_of_lt_of_le q1 hb2.size
    have O2 := Lib.hid ((O1.out.inn.below hb2 (Nat.le_refl _)).1)
    have CT := Lib.hid (pointText_any f KO.out k3 b off ls.length cap w2 (by omega) (F.out.keep hb2 (Nat.le_refl _)))
    clear hb2 q3 q1
    obtain ⟨S, hS⟩ : ∃ S, S = str f.wr := ⟨_, rfl⟩
    rw [← hS] at CT
    by_cases e : S = T
    · have Y := Lib.hid (pp_yes (T := T) KO.out k3 (by rw [← e, hS]))
      clear hS
      subst e
      go_wp2_with (go_at_call 36; refine CT.out.mono ?_; rintro e w3 ⟨rfl, hb3⟩; have B3 := Lib.hid (B2.out.trans (hb3.mono B2.out.size)); have q3'' := (hb3.cell (p := ⟨w.heap.size, 1, none⟩) q1').trans q3'; have O3 := Lib.hid ((O2.out.inn.below hb3 (Nat.le_refl _)).1); clear hb3)
      go_ret2
      exact ⟨_, by rw [Y.out.2]; rfl, by rw [Y.out.1, ← KE.out]; exact O3.out.mono (by omega), B3.out⟩
    · have N := Lib.hid (pp_no (T := T) (fun ⟨g, h1, h2, h3⟩ => by
        have := PQ.out g h1 h2 h3
        rw [KE.out] at this
        have hg : f = g := (encP_inj f KO.out g [] [] h1 (by rw [this])).1
        exact e (by rw [hS, hg, h3])))
      have en := bs_noP e
      clear hS
      go_wp2_with (go_at_call 36; refine CT.out.mono ?_; rintro e w3 ⟨rfl, hb3⟩; have B3 := Lib.hid (B2.out.trans (hb3.mono B2.out.size)); clear hb3)
      go_ret2
      exact ⟨_, by rw [N.out.2]; rfl, by rw [N.out.1]; exact World.ownsRow_nil _ _ _ _, B3.out⟩


set_option maxHeartbeats 8000000 in
theorem specParsePoint_v (T : ByteArray) (w : World) (hT : (T.size : Int) ≤ 1048576) :
    Calls Try.prog 14 #[.string T] w fun e w' => ∃ v, e = .returned (.tuple #[v, .int .i64 (pqC T)]) ∧ OwnP w' w.heap.size v (pqR T) ∧ Below w.heap.size w w' := by
  obtain ⟨W, hW⟩ : ∃ W, W = w.alloc (.cells #[.string T, .int .i64 0, .bool false] 67) := ⟨_, rfl⟩
  have HB := Lib.hid (show Below w.heap.size w W by rw [hW]; exact (Below.refl _ _).alloc (Nat.le_refl _) _)
  have hsz : T.data.toList.length = T.size := by rw [Array.length_toList]; rfl
  by_cases hbig : 480 < T.size
  · have N := Lib.hid (pp_no (T := T) (fun ⟨f, h1, h2, h3⟩ => by
      have := f.wr_len
      have : T.size = f.wr.length := by rw [h3]; simp [str, ByteArray.size]
      omega))
    have HW := Lib.hid hW
    clear hW
    go_enter Try.func14, Try.ntmps14
    go_wp2
    go_ret2
    exact ⟨_, by rw [N.out.2]; rfl, by rw [N.out.1]; exact World.ownsRow_nil _ _ _ _, by rw [← HW.out]; exact HB.out⟩
  have R0 := Lib.hid (show Rm W w.heap.size T T.data.toList false by
    rw [hW]
    have e0 : ((T.size - T.data.toList.length : Nat) : Int) = 0 := by rw [hsz]; omega
    refine ⟨by simp, World.cell?_alloc_at _ _ _ _ rfl, by rw [e0]; exact World.cell?_alloc_at _ _ _ _ rfl, World.cell?_alloc_at _ _ _ _ rfl, ⟨by simp, by simp⟩, by omega, ?_⟩
    rw [hsz, Nat.sub_self]; rfl)
  have PP := Lib.hid (fun (f : Pt) (h1 : f.ok) (h3 : T = str f.wr) => pp_mr h1 h3)
  have ML := (mr_len (T.size + 1) T.data.toList false).2
  have CR := Lib.hid (fun W b (h : Rm W b T T.data.toList false) => mr_all (T.size + 1) W b T T.data.toList false (by omega) (by omega) h)
  obtain ⟨s1, hs1⟩ : ∃ x, x = (mr (T.size + 1) T.data.toList false).1 := ⟨_, rfl⟩
  obtain ⟨f1, hf1⟩ : ∃ x, x = (mr (T.size + 1) T.data.toList false).2.1 := ⟨_, rfl⟩
  obtain ⟨ls, hls⟩ : ∃ x, x = (mr (T.size + 1) T.data.toList false).2.2 := ⟨_, rfl⟩
  have PQ := Lib.hid (show ∀ f : Pt, f.ok → T = str f.wr → s1 = [] ∧ f1 = false ∧ ls = f.enc from fun f h1 h3 => by rw [hs1, hf1, hls, PP.out f h1 h3]; exact ⟨rfl, rfl, rfl⟩)
  rw [← hs1, ← hf1, ← hls] at CR
  rw [← hs1, ← hls, hsz] at ML
  have hll : ls.length ≤ 2000 := by omega
  clear hs1 hf1 hls PP ML
  have HW := Lib.hid hW
  clear hW
  go_enter Try.func14, Try.ntmps14
  go_wp2_with fail
  rw [← HW.out]
  refine (CR.out _ _ R0.out).mono ?_
  rintro e w1 ⟨v1, rfl, ho, hr, hg⟩
  have B1 := Lib.hid (show Below w.heap.size w w1 from HB.out.trans ⟨hg.os, hg.tape, hg.output, hg.size, fun i hi => hg.block i (Nat.lt_of_lt_of_le hi HB.out.size) (fun e => by injection e with e; omega)⟩)
  have O1 := Lib.hid (ho.mono HB.out.size)
  obtain ⟨q1, -, q3, q4, -, q6, -⟩ := hr
  obtain ⟨a, cap, rfl, hat, hc1, hc2⟩ := ho.inn.at'
  have A1 := Lib.hid hat
  have D := Lib.hid (fun h : isP ls ls.length = true => hat.pformula h hc1 hc2)
  clear ho hg hat hc1 hc2
  cases f1 with
  | true =>
    have N := Lib.hid (pp_no (T := T) (fun ⟨f, h1, h2, h3⟩ => by have := (PQ.out f h1 h3).2.1; cases this))
    go_wp2
    go_ret2
    exact ⟨_, by rw [N.out.2]; rfl, by rw [N.out.1]; exact World.ownsRow_nil _ _ _ _, B1.out⟩
  | false =>
    cases s1 with
    | cons c s1 =>
      have N := Lib.hid (pp_no (T := T) (fun ⟨f, h1, h2, h3⟩ => by have := (PQ.out f h1 h3).1; cases this))
      obtain ⟨k, hk⟩ : ∃ k, k = T.size - (c :: s1).length := ⟨_, rfl⟩
      rw [← hk] at q3
      have hkn : ¬ (k : Int) = (T.size : Int) := by simp only [List.length_cons] at hk q6; omega
      clear hk q6
      go_wp2
      go_ret2
      exact ⟨_, by rw [N.out.2]; rfl, by rw [N.out.1]; exact World.ownsRow_nil _ _ _ _, B1.out⟩
    | nil =>
      have e0 : ((T.size - ([] : List UInt8).length : Nat) : Int) = (T.size : Int) := by simp
      rw [e0] at q3
      clear e0 q6
      cases hp : isP ls ls.length with
      | false =>
        have N := Lib.hid (pp_no (T := T) (fun ⟨f, h1, h2, h3⟩ => by rw [(PQ.out f h1 h3).2.2, pt_is f h1 h2] at hp; cases hp))
        have CI := Lib.hid (specIsP_any ls a ls.length cap w1 (by omega) A1.out)
        rw [hp] at CI
        clear hp
        go_wp2_with (go_at_call 37; refine CI.out.mono ?_; rintro e w2 ⟨rfl, hb2⟩; have B2 := Lib.hid (B1.out.trans (hb2.mono B1.out.size)); clear hb2)
        go_ret2
        exact ⟨_, by rw [N.out.2]; rfl, by rw [N.out.1]; exact World.ownsRow_nil _ _ _ _, B2.out⟩
      | true =>
        obtain ⟨b, off, rfl, hf⟩ := D.out hp
        obtain ⟨k1, k2, k3⟩ := toPt_of hp
        have F := Lib.hid hf
        have KO := Lib.hid k1
        have KE := Lib.hid k2
        obtain ⟨f, hff⟩ : ∃ f, f = toPt ls := ⟨_, rfl⟩
        rw [← hff] at F KO KE k3
        have CI := Lib.hid (specIsP_any ls (some ⟨b, off, none⟩) ls.length cap w1 (by omega) A1.out)
        rw [hp] at CI
        clear hf k1 k2 hff D hp
        have CT := Lib.hid (fun W (hW : Below w1.heap.size w1 W) => l10Text_any f KO.out (by omega) b off ls.length cap W (by omega) (F.out.keep hW (Nat.le_refl _)))
        obtain ⟨S, hS⟩ : ∃ S, S = str f.wr := ⟨_, rfl⟩
        rw [← hS] at CT
        by_cases e : S = T
        · have Y := Lib.hid (pp_yes (T := T) KO.out k3 (by rw [← e, hS]))
          clear hS
          subst e
          go_wp2_with (first | (go_at_call 37; refine CI.out.mono ?_; rintro e w2 ⟨rfl, hb2⟩; have B2 := Lib.hid (B1.out.trans (hb2.mono B1.out.size)); have K2 := Lib.hid hb2; have O2 := Lib.hid ((O1.out.inn.below hb2 (Nat.le_refl _)).1); clear hb2) | (go_at_call 38; refine (CT.out _ K2.out).mono ?_; rintro e w3 ⟨rfl, hb3⟩; have B3 := Lib.hid (B2.out.trans (hb3.mono B2.out.size)); have O3 := Lib.hid ((O2.out.inn.below hb3 (Nat.le_refl _)).1); clear hb3))
          go_ret2
          exact ⟨_, by rw [Y.out.2]; rfl, by rw [Y.out.1, ← KE.out]; exact O3.out, B3.out⟩
        · have N := Lib.hid (pp_no (T := T) (fun ⟨g, h1, h2, h3⟩ => by
            have := (PQ.out g h1 h3).2.2
            rw [KE.out] at this
            have hg : f = g := (encP_inj f KO.out g [] [] h1 (by rw [this])).1
            exact e (by rw [hS, hg, h3])))
          have en := bs_noP e
          clear hS
          go_wp2_with (first | (go_at_call 37; refine CI.out.mono ?_; rintro e w2 ⟨rfl, hb2⟩; have B2 := Lib.hid (B1.out.trans (hb2.mono B1.out.size)); have K2 := Lib.hid hb2; clear hb2) | (go_at_call 38; refine (CT.out _ K2.out).mono ?_; rintro e w3 ⟨rfl, hb3⟩; have B3 := Lib.hid (B2.out.trans (hb3.mono B2.out.size)); clear hb3))
          go_ret2
          exact ⟨_, by rw [N.out.2]; rfl, by rw [N.out.1]; exact World.ownsRow_nil _ _ _ _, B3.out⟩

end Go.Proofs.Ytfkdefmafhlmnaa
