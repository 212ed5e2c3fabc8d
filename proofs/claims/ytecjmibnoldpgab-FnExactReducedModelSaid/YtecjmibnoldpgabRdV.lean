/- Contracts of ReducedModel of the program. Conditions: those in the theorems. -/
import Derived.Test.YtecjmibnoldpgabJn24
namespace Go.Proofs.Ytecjmibnoldpgab
open Go.RowKit

def rdS (xs : List Int) (k : Nat) : List Int := memTo (nth (rcL xs) k).toNat xs.length
noncomputable def rdC (n : Int) (xs ys : List Int) (w : Int) : Int := if isM n xs ys then (if wlB n w then 0 else 2) else 1
noncomputable def rdL (n : Int) (xs ys : List Int) (w : Int) : List Int := if isM n xs ys && wlB n w then qmL (rdS xs w.toNat).length (arV xs (rdS xs w.toNat)) (mvV ys (rdS xs w.toNat)) else []
noncomputable def rdV (n : Int) (xs ys : List Int) (w : Int) : List Int := if isM n xs ys && wlB n w then qmV (rdS xs w.toNat).length (arV xs (rdS xs w.toNat)) (mvV ys (rdS xs w.toNat)) else []
noncomputable def rdA (n : Int) (xs ys : List Int) (w : Int) : Int := if isM n xs ys && wlB n w then nth (cLs (rdS xs w.toNat).length (arV xs (rdS xs w.toNat)) (mvV ys (rdS xs w.toNat)) 16) (memTo (nth (rcL xs) w.toNat).toNat w.toNat).length else 0
theorem rd_bad {n : Int} {xs ys : List Int} {w : Int} (h : isM n xs ys = false) : rdC n xs ys w = 1 ∧ rdL n xs ys w = [] ∧ rdV n xs ys w = [] ∧ rdA n xs ys w = 0 := by
  rw [rdC, rdL, rdV, rdA, h]; exact ⟨rfl, rfl, rfl, rfl⟩
theorem rd_out {n : Int} {xs ys : List Int} {w : Int} (h : isM n xs ys = true) (h2 : wlB n w = false) : rdC n xs ys w = 2 ∧ rdL n xs ys w = [] ∧ rdV n xs ys w = [] ∧ rdA n xs ys w = 0 := by
  rw [rdC, rdL, rdV, rdA, h, h2]; exact ⟨rfl, rfl, rfl, rfl⟩
theorem rd_ok {n : Int} {xs ys : List Int} {k : Nat} (h : isM n xs ys = true) (h2 : wlB n k = true) : rdC n xs ys k = 0 ∧ rdL n xs ys k = qmL (rdS xs k).length (arV xs (rdS xs k)) (mvV ys (rdS xs k)) ∧ rdV n xs ys k = qmV (rdS xs k).length (arV xs (rdS xs k)) (mvV ys (rdS xs k)) ∧ rdA n xs ys k = nth (cLs (rdS xs k).length (arV xs (rdS xs k)) (mvV ys (rdS xs k)) 16) (memTo (nth (rcL xs) k).toNat k).length := by
  rw [rdC, rdL, rdV, rdA, h, h2]; exact ⟨rfl, rfl, rfl, rfl⟩
theorem ReducedModel_len (n : Int) (xs ys : List Int) (w : Int) : (rdL n xs ys w).length ≤ 1048576 ∧ (rdV n xs ys w).length ≤ 1048576 := by
  rw [rdL, rdV]
  split
  · exact QuotientModel_len _ _ _
  · simp

theorem wlB_at' {n : Nat} {x : Int} (h : wlB n x = true) : ∃ k : Nat, x = k ∧ k < n := by
  unfold wlB at h
  simp at h
  exact ⟨x.toNat, by omega, by omega⟩

/-- What the part on the worlds that are reached is. -/
structure Rd (xs ys : List Int) (k r : Nat) (pX pY : List Int) : Prop where
  hr : nth (rcL xs) k = (r : Int)
  r30 : r < 1073741824
  rin : InMk xs.length (r : Int)
  hX : pX = arV xs (rdS xs k)
  hY : pY = mvV ys (rdS xs k)
  len : pX.length = (rdS xs k).length
  x8 : pX.length ≤ 8
  y6 : pY.length = 6
  is : isM pX.length pX pY = true
  mem : memTo r 30 = rdS xs k
  at1 : (memTo r k).length < pX.length
  at2 : nth (rdS xs k) (memTo r k).length = (k : Int)
  at3 : ∀ j, j < (memTo r k).length → nth (rdS xs k) j ≠ (k : Int)
theorem Rd.of {n : Int} {xs ys : List Int} {k : Nat} (h : isM n xs ys = true) (hk : k < xs.length) : ∃ r pX pY, Rd xs ys k r pX pY ∧ pmC n xs ys (nth (rcL xs) k) = 0 ∧ pmL n xs ys (nth (rcL xs) k) = pX ∧ pmV n xs ys (nth (rcL xs) k) = pY := by
  obtain ⟨e1, e2, e3, e4⟩ := isM_rel h
  obtain ⟨-, -, -, -, y6, -⟩ := isM_ok h
  obtain ⟨c1, c2⟩ := rc_T (by omega) e3
  obtain ⟨r, hr⟩ := Int.eq_ofNat_of_zero_le (c1 k).1
  have hin := c1 k
  have hbd := hin.bd (by omega)
  have hnat := hin.nat
  rw [hr] at hin hbd hnat
  rw [Int.toNat_natCast] at hnat
  have hC : pmC n xs ys (nth (rcL xs) k) = 0 := pmC_0 h (by rw [e1]; exact (mskB_InN (by omega) _).2 (c1 k))
  have hP := pm_ok hC
  have hl : (rdS xs k).length ≤ 8 := Nat.le_trans (memTo_len _ _) e2
  have hX : (arV xs (rdS xs k)).length = (rdS xs k).length := tab_len _ _
  have hm : memTo r 30 = rdS xs k := by
    rw [rdS, hr, Int.toNat_natCast]
    exact memTo_high hnat 30 (by omega)
  have hb : bitN r k = true := by
    have q := (c2 k k hk).2 (.inl rfl)
    rw [hr, T, Int.toNat_natCast] at q
    unfold bitN
    rw [← Nat.testBit_eq_decide_div_mod_eq]
    exact q
  obtain ⟨m1, m2, m3⟩ := mem_at hb (by omega)
  rw [hm] at m1 m2 m3
  refine ⟨r, _, _, ⟨hr, by omega, hin, rfl, rfl, hX, by omega, by rw [mvV_len, y6], by rw [hX]; exact part_is hl y6, hm, by rw [hX]; exact m1, m2, m3⟩, hC, hP.1, hP.2⟩

theorem contestL_any (xs ys : List Int) (a2 : Option Addr) (c2 : Nat) (b2 : Option Addr) (d2 : Nat) (w2 : World) (hM : isM xs.length xs ys = true) (hs1 : At w2 a2 xs.length xs) (hs2 : At w2 b2 ys.length ys) :
    Calls Try.prog 36 #[.agg #[.int .i64 xs.length, .slice a2 xs.length c2, .slice b2 ys.length d2]] w2 fun e w3 => ∃ vC, e = .returned vC ∧ Calls Try.prog 37 #[vC] w3 (fun e w' => ∃ a c, e = .returned (.slice a xs.length c) ∧ At w' a xs.length (cLs xs.length xs ys 16) ∧ (∀ p, a = some p → w2.heap.size ≤ p.block) ∧ Below w3.heap.size w3 w') ∧ Below w2.heap.size w2 w3 := by
  have SM := isM_sm hM
  obtain ⟨-, -, h8, -, y6, -⟩ := isM_ok hM
  refine (contestIn_any xs.length xs ys _ _ _ _ _ SM rfl y6 hs1 hs2).mono ?_
  rintro e w3 ⟨K, vR, us, rfl, hr, hst, hne, hb⟩
  obtain ⟨aR, cR, rfl, hg⟩ := hr.form
  obtain ⟨g, rfl, hg1, hg2, hgc⟩ := hg.resolve_left (by omega)
  obtain ⟨aj, cj, euj, hoj⟩ := hr.2 K (by omega)
  have UJ := (hgc K (by omega)).trans euj
  have hK := stop_le SM hne
  have E16 : cLs xs.length xs ys 16 = cLs xs.length xs ys K := cLs_far hst (by omega)
  obtain ⟨a', c', e', hat, -, -, hblk⟩ := hoj.at
  cases e'
  rw [cLs_len] at UJ hat
  refine ⟨_, rfl, ?_, hb⟩
  refine (last_any _ _ _ _ _ _ _ g K cR _ w3 (by omega) hg2 UJ).mono ?_
  rintro e w4 ⟨rfl, hb4⟩
  exact ⟨aj, cj, rfl, by rw [E16]; exact hat.keep hb4 (Nat.le_refl _), fun p hp => (hblk p hp).1, hb4⟩

end Go.Proofs.Ytecjmibnoldpgab
