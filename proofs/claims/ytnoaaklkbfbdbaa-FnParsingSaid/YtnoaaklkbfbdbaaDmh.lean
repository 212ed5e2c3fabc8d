/- What the model's DrawParseFormula draws: some text that is not long. Conditions: those in the theorems. -/
import Derived.Test.YtnoaaklkbfbdbaaJn04
import Derived.Test.YtnoaaklkbfbdbaaDrawO
import Derived.Test.YtnoaaklkbfbdbaaJn06
namespace Go.Proofs.Ytnoaaklkbfbdbaa
open Go.RowKit

def sizeOf (v : Value) : Nat := match v with | .string s => s.size | _ => 0

set_option maxHeartbeats 4000000 in
theorem DrawParseFormula_any (a : Option Addr) (len cap : Nat) (w : World) (hc : Code w.heap.size w a len) :
    Calls Try.prog 24 #[.slice a len cap] w fun e w' => (∃ t : ByteArray, e = .returned (.string t) ∧ t.size ≤ 1000) ∧ Below w.heap.size w w' := by
  have HC0 := Lib.hid hc
  clear hc
  go_enter Try.func24, Try.ntmps24
  go_wp2_with fail
  refine (l01From_any a len cap w HC0.out).mono ?_
  rintro e w1 ⟨rfl, hs1, hb1⟩
  have S1 := Lib.hid hs1
  have HC := Lib.hid (HC0.out.below hb1)
  have hB1 : w.heap.size ≤ w1.heap.size := hb1.size
  have hB2 : w.heap.size < w1.heap.size := hs1.lt
  have HB := Lib.hid hb1
  clear hs1 hb1 HC0
  go_wp2_with fail
  refine (l02DrawF_any true 6 w.heap.size a len cap w.heap.size (Nat.le_refl _) 16 16 _ (by omega) (by omega) hB1 S1.out HC.out (by omega)).mono ?_
  rintro e w2 ⟨⟨va, za, rfl, hoa, hpa, hqa, f, hf, rfl⟩, hs, hg⟩
  have G2 := Lib.hid hg
  have S2 := Lib.hid hs
  have hz : f.sz ≤ 16 := by rw [Fm.enc_len] at hqa; have : max 1 (16 : Int).toNat = 16 := rfl; omega
  obtain ⟨ad, cd, rfl, hat, hc1, hc2⟩ := hoa.inn.at'
  obtain ⟨fb, fo, rfl, haf⟩ := hat.fm hc1 hc2
  have AF := Lib.hid haf
  have HF := Lib.hid hf
  have hel : f.enc.length ≤ 262144 := by rw [Fm.enc_len]; omega
  obtain ⟨fl, hfl⟩ : ∃ fl, fl = f.enc.length := ⟨_, rfl⟩
  rw [← hfl] at AF hel ⊢
  clear hs hg hoa hpa hqa hat haf hf hfl hc1 hc2
  go_wp2_with fail
  refine (l02Text_any f HF.out fb fo fl cd _ hel AF.out).mono ?_
  rintro e w3 ⟨rfl, hb⟩
  obtain ⟨t, ht⟩ : ∃ t, t = str (f.wr 0) := ⟨_, rfl⟩
  have hts : t.size ≤ 64 := by
    rw [ht]
    have := f.wr_len 0
    show (f.wr 0).toArray.size ≤ 64
    simp
    omega
  rw [← ht]
  have G3 := Lib.hid (grown_trans G2.out (grown_of_below hb (some w.heap.size)))
  have S3 := Lib.hid (S2.out.below hb (Nat.le_refl _))
  clear hb ht AF
  go_wp2_with fail
  refine (l01Next_any w.heap.size a len cap 4 _ w.heap.size (Nat.le_refl _) S3.out (HC.out.grown G3.out (Nat.le_refl _) hB1)).mono ?_
  rintro e w4 ⟨n4, rfl, hn4, hs, hg⟩
  have G4 := Lib.hid (grown_trans G3.out hg)
  have S4 := Lib.hid hs
  clear hs hg S3 G3 G2 S2
  by_cases h0 : n4 = 0
  · subst h0
    go_wp2
    go_ret
    exact ⟨⟨_, rfl, by omega⟩, grown_below G4.out (Nat.le_refl _) HB.out hB1⟩
  have h01 : ((n4 : Int) == 0) = false := by simpa using h0
  by_cases h1 : n4 = 1
  · subst h1
    have hA : ¬ 9223372036854775807 < 1 + t.size := by omega
    have hA1 : ¬ 9223372036854775807 < 1 + t.size + 1 := by omega
    go_wp2
    go_ret
    exact ⟨⟨_, rfl, by rw [ByteArray.size_append, ByteArray.size_append, show (⟨#[40]⟩ : ByteArray).size = 1 from rfl, show (⟨#[41]⟩ : ByteArray).size = 1 from rfl]; omega⟩, grown_below G4.out (Nat.le_refl _) HB.out hB1⟩
  have h11 : ((n4 : Int) == 1) = false := by simp; omega
  clear hn4 h0 h1
  go_wp2_with fail
  refine (l01Next_any w.heap.size a len cap 20 _ w.heap.size (Nat.le_refl _) S4.out (HC.out.grown G4.out (Nat.le_refl _) hB1)).mono ?_
  rintro e w5 ⟨m, rfl, hm, hs, hg⟩
  have G5 := Lib.hid (grown_trans G4.out hg)
  have S5 := Lib.hid hs
  clear hs hg S4 G4 hm
  by_cases h2 : m = 0
  · subst h2
    obtain ⟨c1, hc1⟩ : ∃ c1 : Unit, c1 = () := ⟨_, rfl⟩
    go_wp2
    go_loopw [5] (fun v wr => ∃ s : ByteArray, v = .string s ∧ s.size ≤ 450 ∧ Hid (Src wr w.heap.size a len cap) ∧ Hid (w1.grownBy wr (some w.heap.size))) (fun v _ => 201 - sizeOf v)
    case atStart => exact ⟨t, rfl, by omega, S5, G5⟩
    case round =>
      obtain ⟨s, rfl, hs450, SR, GR⟩ := hrel
      clear S5 G5 hts
      by_cases h200 : s.size ≤ 200
      · have h200' : (s.size : Int) ≤ 200 := by omega
        have hd : decide ((s.size : Int) ≤ 200) = true := decide_eq_true h200'
        go_wp2_with fail
        refine (l01Next_any w.heap.size a len cap 100 _ w.heap.size (Nat.le_refl _) SR.out (HC.out.grown GR.out (Nat.le_refl _) hB1)).mono ?_
        rintro e w6 ⟨n, rfl, hn, hs, hg⟩
        have G6 := Lib.hid (grown_trans GR.out hg)
        have S6 := Lib.hid hs
        clear hs hg hn SR GR
        by_cases hn0 : n = 0
        · subst hn0
          go_wp2_with fail
          refine (l01Damage_any w.heap.size a len cap s _ w.heap.size (Nat.le_refl _) (Nat.le_trans hB1 G6.out.size) (by omega) S6.out (HC.out.grown G6.out (Nat.le_refl _) hB1)).mono ?_
          rintro e w8 ⟨⟨u, rfl, hu⟩, hs, hg⟩
          have G8 := Lib.hid (grown_trans G6.out hg)
          clear hs hg
          go_wp2
          go_ret
          exact ⟨⟨_, rfl, by omega⟩, grown_below G8.out (Nat.le_refl _) HB.out hB1⟩
        · have hn1 : (0 : Int) < (n : Int) := by omega
          have hA : ¬ 9223372036854775807 < s.size + 1 := by omega
          have hA1 : ¬ 9223372036854775807 < s.size + 1 + s.size := by omega
          have hsz : (s ++ ⟨#[38]⟩ ++ s).size = s.size + 1 + s.size := by rw [ByteArray.size_append, ByteArray.size_append, show (⟨#[38]⟩ : ByteArray).size = 1 from rfl]
          have HZ := Lib.hid hsz
          clear hn0 hsz
          go_wp2
          go_roundw
          case rel => exact ⟨_, rfl, by rw [HZ.out]; omega, S6, G6⟩
          case measure => simp only [sizeOf]; rw [HZ.out]; omega
      · have h200' : ¬ (s.size : Int) ≤ 200 := by omega
        have hd : decide ((s.size : Int) ≤ 200) = false := decide_eq_false h200'
        go_wp2_with fail
        refine (l01Damage_any w.heap.size a len cap s _ w.heap.size (Nat.le_refl _) (Nat.le_trans hB1 GR.out.size) (by omega) SR.out (HC.out.grown GR.out (Nat.le_refl _) hB1)).mono ?_
        rintro e w8 ⟨⟨u, rfl, hu⟩, hs, hg⟩
        have G8 := Lib.hid (grown_trans GR.out hg)
        clear hs hg
        go_wp2
        go_ret
        exact ⟨⟨_, rfl, by omega⟩, grown_below G8.out (Nat.le_refl _) HB.out hB1⟩
  have h21 : ((m : Int) == 0) = false := by simpa using h2
  clear h2
  go_wp2_with fail
  refine (l01Damage_any w.heap.size a len cap t _ w.heap.size (Nat.le_refl _) (Nat.le_trans hB1 G5.out.size) (by omega) S5.out (HC.out.grown G5.out (Nat.le_refl _) hB1)).mono ?_
  rintro e w6 ⟨⟨u, rfl, hu⟩, hs, hg⟩
  have G6 := Lib.hid (grown_trans G5.out hg)
  clear hs hg
  go_wp2
  go_ret
  exact ⟨⟨_, rfl, by omega⟩, grown_below G6.out (Nat.le_refl _) HB.out hB1⟩

end Go.Proofs.Ytnoaaklkbfbdbaa
