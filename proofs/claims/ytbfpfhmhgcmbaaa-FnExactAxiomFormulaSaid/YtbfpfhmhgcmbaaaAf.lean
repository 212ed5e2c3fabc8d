/- What both sides answer for AxiomFormula. Conditions: those in the theorems. -/
import Derived.Test.YtbfpfhmhgcmbaaaAv
import Derived.Test.YtbfpfhmhgcmbaaaFp
namespace Go.Proofs.Ytbfpfhmhgcmbaaa
open Go.RowKit

def afR (s : ByteArray) : List Nd := if fdV nmA s = -1 then [] else pZ (nthS txA (fdV nmA s).toNat)
def afC (s : ByteArray) : Int := if fdV nmA s = -1 then 4 else 0
theorem AxiomFormula_len (s : ByteArray) : (afR s).length ≤ 1048576 := by
  unfold afR
  split
  · simp
  · have := pZ_len (nthS txA (fdV nmA s).toNat); omega
theorem tx_read (i : Nat) (h : i < 13) : ∃ f, readF (nthS txA i) = some f ∧ f.sz ≤ 40 := by
  have hh : i = 0 ∨ i = 1 ∨ i = 2 ∨ i = 3 ∨ i = 4 ∨ i = 5 ∨ i = 6 ∨ i = 7 ∨ i = 8 ∨ i = 9 ∨ i = 10 ∨ i = 11 ∨ i = 12 := by omega
  rcases hh with rfl | rfl | rfl | rfl | rfl | rfl | rfl | rfl | rfl | rfl | rfl | rfl | rfl <;> exact ⟨_, rfl, by decide⟩
theorem tx_ascii (i : Nat) (h : i < 13) : (∀ c ∈ nthS txA i, c.toNat < 128) ∧ (nthS txA i).length ≤ 200 := (by decide : ∀ i, i < 13 → (∀ c ∈ nthS txA i, c.toNat < 128) ∧ (nthS txA i).length ≤ 200) i h
theorem tx_p (i : Nat) (h : i < 13) : pA (nthS txA i) = 0 ∧ pC (nthS txA i) = 0 ∧ ∃ f, readF (nthS txA i) = some f ∧ pZ (nthS txA i) = f.enc := by
  obtain ⟨f, hf, hs⟩ := tx_read i h
  obtain ⟨e1, e2, e3⟩ := p_ok (by have := (tx_ascii i h).2; omega) hf (by omega)
  exact ⟨e2, e3, f, hf, e1⟩

set_option maxHeartbeats 1000000 in
theorem l09Texts_any (w : World) : Calls Try.prog 27 #[] w fun e w' => ∃ v, e = .returned v ∧ OwnS w' w.heap.size v txA ∧ Below w.heap.size w w' := by
  go_enter Try.func27, Try.ntmps27
  go_wp2
  go_ret
  exact ⟨_, rfl, World.ownsRow_lit w _ 13 (Nat.le_refl _) (by unfold maxLen; omega) rfl, (Below.refl _ _).alloc (Nat.le_refl _) _⟩

set_option maxHeartbeats 2000000 in
theorem l09Formula_any (s : ByteArray) (i : Nat) (hi : i < 13) (hf : fdV nmA s = i) (w : World) :
    Calls Try.prog 19 #[.string s] w fun e w' => ∃ v, e = .returned v ∧ OwnN w' w.heap.size v (pZ (nthS txA i)) ∧ Below w.heap.size w w' := by
  have HF := Lib.hid hf
  have hi2 : (i : Int) < 13 := by omega
  clear hf
  go_enter Try.func19, Try.ntmps19
  go_wp2_with fail
  refine (l09Texts_any _).mono ?_
  rintro e w1 ⟨v, rfl, ho, hb⟩
  obtain ⟨a, cap, rfl, hat, -⟩ := ho.at
  have B1 := Lib.hid hb
  have A1 := Lib.hid hat
  clear ho hb hat
  go_wp2_with fail
  refine (l09Names_any _).mono ?_
  rintro e w2 ⟨v, rfl, ho, hb⟩
  obtain ⟨a2, cap2, rfl, hat, -⟩ := ho.at
  have B2 := Lib.hid (B1.out.trans (hb.mono B1.out.size))
  have A2 := Lib.hid hat
  have A1' := Lib.hid (A1.out.keep hb (Nat.le_refl _))
  clear ho hb hat
  go_wp2_with fail
  refine (l09Find_any nmA s a2 cap2 w2 (by decide) A2.out).mono ?_
  rw [HF.out]
  rintro e w3 ⟨rfl, hb⟩
  have B3 := Lib.hid (B2.out.trans (hb.mono B2.out.size))
  obtain ⟨b, off, rfl, hlt, hc⟩ := A1'.out.2.resolve_left (by decide)
  have g1 : w3.cell? ⟨b, off + i, none⟩ = some (.string (sx (nthS txA i))) := (hb.cell (p := ⟨b, off + i, none⟩) hlt).trans (hc i (by show i < 13; exact hi))
  rw [show txA.length = 13 from rfl]
  obtain ⟨t, ht⟩ : ∃ t, t = sx (nthS txA i) := ⟨_, rfl⟩
  have RD := Lib.hid (fun w' => l02Read_any (nthS txA i) (by have := (tx_ascii i hi).2; omega) w')
  have TP := Lib.hid (tx_p i hi)
  rw [← ht] at g1 RD
  clear hb hc ht
  go_wp2_with fail
  refine (RD.out _).mono ?_
  rintro e w4 ⟨v, zs, ho, hb, ⟨f, hr, rfl, fo, fs, rfl⟩ | ⟨hr, rfl, hk, rfl⟩⟩
  · have B4 := Lib.hid (B3.out.trans (hb.mono B3.out.size))
    have O4 := Lib.hid (show OwnN w4 w.heap.size v (pZ (nthS txA i)) by
      obtain ⟨-, -, f2, h1, h2⟩ := TP.out
      rw [h1] at hr
      cases hr
      rw [h2]
      exact ownsRow_mono ho B3.out.size)
    clear ho hb hr fo fs
    go_wp2
    go_ret
    exact ⟨_, rfl, O4.out, B4.out⟩
  · obtain ⟨-, -, f2, h1, h2⟩ := TP.out
    rw [h1] at hr
    cases hr

set_option maxHeartbeats 2000000 in
theorem specAxiomFormula_v (s : ByteArray) (w : World) :
    Calls Try.prog 10 #[.string s] w fun e w' => ∃ v, e = .returned (.tuple #[v, .int .i64 (afC s)]) ∧ OwnN w' w.heap.size v (afR s) ∧ Below w.heap.size w w' := by
  rcases fd_cases nmA s with e0 | ⟨i, hi, hs, e0⟩
  · have E0 := Lib.hid e0
    have E3 := Lib.hid (show afR s = [] by rw [afR, if_pos e0])
    have E4 := Lib.hid (show afC s = 4 by rw [afC, if_pos e0])
    clear e0
    go_enter Try.func10, Try.ntmps10
    go_wp2_with fail
    refine (l09Names_any _).mono ?_
    rintro e w1 ⟨v, rfl, ho, hb⟩
    obtain ⟨a, cap, rfl, hat, -⟩ := ho.at
    have hat2 := Lib.hid hat
    have B1 := Lib.hid hb
    clear ho hb hat
    go_wp2_with fail
    refine (l09Find_any nmA s a cap w1 (by decide) hat2.out).mono ?_
    rw [E0.out]
    rintro e w2 ⟨rfl, hb2⟩
    have B2 := Lib.hid (B1.out.trans (hb2.mono B1.out.size))
    clear hb2
    go_wp2
    go_ret2
    exact ⟨_, by rw [E4.out]; rfl, by rw [E3.out]; exact ownN_nil _ _, B2.out⟩
  · have hi2 : i < 13 := hi
    have hi3 : (i : Int) < 13 := by omega
    have E0 := Lib.hid e0
    have E3 := Lib.hid (show afR s = pZ (nthS txA i) by rw [afR, if_neg (by rw [e0]; omega), e0]; rfl)
    have E4 := Lib.hid (show afC s = 0 by rw [afC, if_neg (by rw [e0]; omega)])
    clear e0 hs hi
    go_enter Try.func10, Try.ntmps10
    go_wp2_with fail
    refine (l09Names_any _).mono ?_
    rintro e w1 ⟨v, rfl, ho, hb⟩
    obtain ⟨a, cap, rfl, hat, -⟩ := ho.at
    have hat2 := Lib.hid hat
    have B1 := Lib.hid hb
    clear ho hb hat
    go_wp2_with fail
    refine (l09Find_any nmA s a cap w1 (by decide) hat2.out).mono ?_
    rw [E0.out]
    rintro e w2 ⟨rfl, hb2⟩
    have B2 := Lib.hid (B1.out.trans (hb2.mono B1.out.size))
    clear hb2
    go_wp2_with fail
    refine (l09Formula_any s i hi2 E0.out _).mono ?_
    rintro e w3 ⟨v, rfl, ho, hb⟩
    have B3 := Lib.hid (B2.out.trans (hb.mono B2.out.size))
    have HO := Lib.hid (ownsRow_mono ho B2.out.size)
    clear ho hb
    go_wp2
    go_ret2
    exact ⟨_, by rw [E4.out]; rfl, by rw [E3.out]; exact HO.out, B3.out⟩

set_option maxHeartbeats 2000000 in
theorem implAxiomFormula_v (s : ByteArray) (w : World) :
    Calls Try.prog 11 #[.string s] w fun e w' => ∃ v, e = .returned (.tuple #[v, .int .i64 (afC s)]) ∧ OwnN w' w.heap.size v (afR s) ∧ Below w.heap.size w w' := by
  rcases fd_cases nmA s with e0 | ⟨i, hi, hs, e0⟩
  · have E0 := Lib.hid e0
    have E3 := Lib.hid (show afR s = [] by rw [afR, if_pos e0])
    have E4 := Lib.hid (show afC s = 4 by rw [afC, if_pos e0])
    clear e0
    go_enter Try.func11, Try.ntmps11
    go_wp2_with fail
    refine (axiomTable_any _).mono ?_
    rintro e w1 ⟨b, rfl, ht, hb⟩
    have T1 := Lib.hid hb
    have HT := Lib.hid ht
    clear hb ht
    go_wp2_with fail
    refine (entryA_no s E0.out b w1 HT.out).mono ?_
    rintro e w2 ⟨rfl, hb⟩
    have T2 := Lib.hid (T1.out.trans (hb.mono T1.out.size))
    clear hb
    go_wp2
    go_ret2
    exact ⟨_, by rw [E4.out]; rfl, by rw [E3.out]; exact ownN_nil _ _, T2.out.alloc T2.out.size _⟩
  · have hi2 : i < 13 := hi
    have E0 := Lib.hid e0
    have E3 := Lib.hid (show afR s = pZ (nthS txA i) by rw [afR, if_neg (by rw [e0]; omega), e0]; rfl)
    have E4 := Lib.hid (show afC s = 0 by rw [afC, if_neg (by rw [e0]; omega)])
    have PF := Lib.hid (fun w' => implParse_any (nthS txA i) w' (.inl (tx_ascii i hi2).1) (by have := (tx_ascii i hi2).2; omega))
    have TP := Lib.hid (tx_p i hi2)
    clear e0 hs hi
    go_enter Try.func11, Try.ntmps11
    go_wp2_with fail
    refine (axiomTable_any _).mono ?_
    rintro e w1 ⟨b, rfl, ht, hb⟩
    have T1 := Lib.hid hb
    have HT := Lib.hid ht
    clear hb ht
    go_wp2_with fail
    refine (entryA_any s i hi2 E0.out b w1 HT.out).mono ?_
    rintro e w2 ⟨v, rfl, hc, hb⟩
    have T2 := Lib.hid (T1.out.trans (hb.mono T1.out.size))
    obtain ⟨f, cp, hv⟩ : ∃ f cp, v = .func (.func f) #[] cp := by
      rcases hc with ⟨-, -, B, rfl, -⟩ | ⟨-, rfl⟩ | ⟨-, rfl⟩
      · exact ⟨_, _, rfl⟩
      · exact ⟨_, _, rfl⟩
      · exact ⟨_, _, rfl⟩
    subst hv
    obtain ⟨t, ht⟩ : ∃ t, t = sx (nthS txA i) := ⟨_, rfl⟩
    rw [← ht] at PF
    have ht2 : stx (nthS txA i) = t := ht.symm
    rw [ht2]
    have T3 := Lib.hid (T2.out.alloc T2.out.size (.cells #[.string t, .func (.func f) #[] cp] 48))
    clear hb hc ht ht2
    go_wp2_with fail
    refine (PF.out _).mono ?_
    rw [TP.out.1, TP.out.2.1]
    rintro e w3 ⟨v, rfl, ho, hb⟩
    have T4 := Lib.hid (T3.out.trans (hb.mono T3.out.size))
    have O4 := Lib.hid (ownsRow_mono ho T3.out.size)
    clear ho hb
    go_wp2
    go_ret2
    exact ⟨_, by rw [E4.out]; rfl, by rw [E3.out]; exact O4.out, T4.out⟩

end Go.Proofs.Ytbfpfhmhgcmbaaa
