/- Substitution: a formula matches its own image; an image of an image is the image under the composition. Conditions: those in the theorems. -/
import Derived.Test.YtbhgedabcclimaaComp2
import Derived.Test.YtbhgedabcclimaaSubW
import Derived.Test.YtbhgedabcclimaaMtS
import Derived.Test.YtbhgedabcclimaaSubC
import Derived.Test.YtbhgedabcclimaaUf
namespace Go.Proofs.Ytbhgedabcclimaa
open Go.RowKit

theorem flat_app (s : Int → List Nd) (xs ys : List Nd) : flat s (xs ++ ys) = flat s xs ++ flat s ys := by simp [flat]
theorem flat_drop {s : Int → List Nd} {xs : List Nd} {k : Nat} (hk : k ≤ xs.length) : (flat s xs).drop (subTo s xs k).length = flat s (xs.drop k) := by
  rw [subTo_flat s xs k hk]
  have e : flat s xs = flat s (xs.take k) ++ flat s (xs.drop k) := by rw [← flat_app, List.take_append_drop]
  rw [e, List.drop_left]
theorem flat_cons (s : Int → List Nd) (k v : Int) (xs : List Nd) : flat s ((k, v) :: xs) = (if k = 0 then s v else [(k, v)]) ++ flat s xs := by
  simp [flat]
theorem cut_of {ys : List Nd} {i : Nat} {g : Fm} {r : List Nd} (hg : g.ok) (he : ys.drop i = g.enc ++ r) : cut ys i = g.enc := by
  rw [cut, pe_end g hg he, he, Int.toNat_natCast, show i + g.sz - i = g.enc.length by rw [Fm.enc_len]; omega, List.take_left]

/-- What is matched when a formula stands against its own image. -/
structure MtS (xs : List Nd) (im : List (List Nd)) (k : Nat) (ps : List (List Nd)) : Prop where
  some : ∀ q : Nat, q ≤ 5 → nthL ps q = [] ∨ nthL ps q = nthL im q
  all : ∀ j, j < k → ∀ q : Nat, kd xs j = 0 → sy xs j = q → q ≤ 5 → nthL ps q = nthL im q

theorem mt_own {xs : List Nd} {im : List (List Nd)} (hx : isB xs xs.length = true) (hs : sOK (sgI im)) (hl : (subTo (sgI im) xs xs.length).length ≤ 40) : ∀ k, k ≤ xs.length →
    ∃ ps o, MtI xs (subTo (sgI im) xs xs.length) k (subTo (sgI im) xs k).length ps o ∧ MtS xs im k ps := by
  have hb := sub_is hs hx hl
  have hflat := sub_flat (sgI im) xs
  generalize hB : subTo (sgI im) xs xs.length = b at hl hb hflat ⊢
  have ht := is_treeTo hx
  intro k
  induction k with
  | zero =>
    intro _
    refine ⟨_, _, mt_start hx hb, fun q hq => .inl (nthL_rep q), fun j hj => by omega⟩
  | succ k ih =>
    intro hk
    obtain ⟨ps, o, hI, hM⟩ := ih (by omega)
    have hkl : k < xs.length := by omega
    have hd : b.drop (subTo (sgI im) xs k).length = (if kd xs k = 0 then sgI im (sy xs k) else [(kd xs k, sy xs k)]) ++ flat (sgI im) (xs.drop (k + 1)) := by
      rw [hflat, flat_drop (by omega), drop_cons hkl, flat_cons]
    by_cases h0 : kd xs k = 0
    · obtain ⟨q, hq, hq5⟩ := sy_six ht hkl
      have hI2 := hI.part hkl hl h0 hq hq5
      obtain ⟨e, -, he1, -, -, hcl, -, -, hgo⟩ := hI2
      obtain ⟨g1, g2, -⟩ := toFm_of (hs q hq5)
      have hsq : sgI im (q : Int) = nthL im q := by rw [sgI, Int.toNat_natCast]
      have hcut : cut b (subTo (sgI im) xs k).length = nthL im q := by
        rw [if_pos h0, hq, g2] at hd
        rw [cut_of g1 hd, ← g2, hsq]
      rw [hcut] at hcl hgo
      have hM2 := hgo (hM.some q hq5)
      have hlen : (subTo (sgI im) xs (k + 1)).length = e := by
        rw [sub_var h0, List.length_append, hq, hsq]; omega
      rw [hlen]
      refine ⟨_, _, hM2, fun p hp => ?_, fun j hj p hp0 hp1 hp5 => ?_⟩
      · rw [nthL_set (by rw [hI.six]; omega)]
        split
        · rename_i hpq; subst hpq; exact .inr rfl
        · exact hM.some p hp
      · rw [nthL_set (by rw [hI.six]; omega)]
        split
        · rename_i hpq; subst hpq; rfl
        · rename_i hpq
          refine hM.all j ?_ p hp0 hp1 hp5
          by_cases hjk : j = k
          · subst hjk; omega
          · omega
    · rw [if_neg h0] at hd
      have hlt : (subTo (sgI im) xs k).length < b.length := (hI.lt hkl).1
      rw [drop_cons hlt] at hd
      simp only [List.singleton_append, List.cons.injEq, Prod.mk.injEq] at hd
      have hM2 := (hI.node hkl h0).2 ⟨hd.1.1.symm, hd.1.2.symm⟩
      have hlen : (subTo (sgI im) xs (k + 1)).length = (subTo (sgI im) xs k).length + 1 := by
        rw [sub_else h0, List.length_append]; rfl
      rw [hlen]
      refine ⟨_, _, hM2, hM.some, fun j hj p hp0 hp1 hp5 => hM.all j ?_ p hp0 hp1 hp5⟩
      by_cases hjk : j = k
      · subst hjk; exact absurd hp0 h0
      · omega

theorem sub_congr {s t : Int → List Nd} {xs : List Nd} : ∀ k, (∀ j, j < k → kd xs j = 0 → s (sy xs j) = t (sy xs j)) → subTo s xs k = subTo t xs k := by
  intro k
  induction k with
  | zero => intro _; rfl
  | succ k ih =>
    intro h
    by_cases h0 : kd xs k = 0
    · rw [sub_var h0, sub_var h0, ih (fun j hj => h j (by omega)), h k (by omega) h0]
    · rw [sub_else h0, sub_else h0, ih (fun j hj => h j (by omega))]
theorem fms_isS {im : List (List Nd)} (h : fms im) (h6 : im.length = 6) : isS im = true := by
  simp only [isS, Bool.and_eq_true, decide_eq_true_eq]
  exact ⟨h6, List.all_eq_true.2 fun j hj => h j (List.mem_range.1 hj)⟩
theorem isS_sOK {im : List (List Nd)} (h : isS im = true) : sOK (sgI im) := fun q hq => by
  rw [sgI, Int.toNat_natCast]
  exact isS_fms h q (by have := (isS_six h).1; omega)
theorem one_is (q : Nat) (hq : q < 6) : isB [((0 : Int), (q : Int))] [((0 : Int), (q : Int))].length = true := by
  have hh : q = 0 ∨ q = 1 ∨ q = 2 ∨ q = 3 ∨ q = 4 ∨ q = 5 := by omega
  rcases hh with rfl | rfl | rfl | rfl | rfl | rfl <;> rfl

/-- A formula matches its own image, by a substitution that makes the image again. -/
theorem mt_image {xs : List Nd} {im : List (List Nd)} (hx : isB xs xs.length = true) (hi : isS im = true) (hl : (suL xs im).length ≤ 40) :
    mtC xs (suL xs im) = 0 ∧ isS (mtR xs (suL xs im)) = true ∧ suL xs (mtR xs (suL xs im)) = suL xs im := by
  have hs := isS_sOK hi
  have hb := sub_is hs hx hl
  obtain ⟨ps, o, hI, hM⟩ := mt_own hx hs hl xs.length (Nat.le_refl _)
  have ht := is_treeTo hx
  have hR := mtR_of (xs := xs) (ys := suL xs im) (by rw [hx]; exact hb)
  have hY := mtL_yes hI.to
  have hL : mtR xs (suL xs im) = fill ps := hR.1.trans hY.1
  have hC : mtC xs (suL xs im) = 0 := by rw [hR.2]; exact if_pos hY.2
  refine ⟨hC, ?_, ?_⟩
  · rw [hL]
    refine fms_isS (fun j hj => ?_) (fill_len ps)
    rw [fill_len] at hj
    rw [fill_at hj]
    split
    · exact one_is j hj
    · rename_i hne
      exact (hI.ok j hj).resolve_left hne
  · rw [hL]
    refine sub_congr _ (fun j hj h0 => ?_)
    obtain ⟨q, hq, hq5⟩ := sy_six ht hj
    have h1 := hM.all j hj q h0 hq hq5
    have h2 := hs q hq5
    rw [sgI, Int.toNat_natCast] at h2
    rw [hq, sgI, sgI, Int.toNat_natCast, fill_at (by omega), if_neg, h1]
    rw [h1]
    intro hn
    have := (is_pos' h2).1
    rw [hn] at this
    simp at this

/-- The law's second substitution. -/
def sec : List (List Nd) := [[(0, 1)], [(0, 0)], [(1, 0)], [(0, 3)], [(0, 4)], [(0, 5)]]
theorem sec_is : isS sec = true := rfl
theorem sec_one : ∀ q : Nat, q ≤ 5 → (sgI sec q).length = 1 := by
  intro q hq
  have hh : q = 0 ∨ q = 1 ∨ q = 2 ∨ q = 3 ∨ q = 4 ∨ q = 5 := by omega
  rcases hh with rfl | rfl | rfl | rfl | rfl | rfl <;> rfl
theorem sub_len1 {s : Int → List Nd} {xs : List Nd} {len : Nat} (ht : treeTo xs len = true) (h : ∀ q : Nat, q ≤ 5 → (s q).length = 1) : ∀ k, k ≤ len → (subTo s xs k).length = k := by
  intro k
  induction k with
  | zero => intro _; rfl
  | succ k ih =>
    intro hk
    by_cases h0 : kd xs k = 0
    · obtain ⟨q, hq, hq5⟩ := sy_six ht (show k < len by omega)
      rw [sub_var h0, List.length_append, ih (by omega), hq, h q hq5]
    · rw [sub_else h0, List.length_append, ih (by omega)]; rfl
theorem suL_sec {xs : List Nd} (hx : isB xs xs.length = true) : (suL xs sec).length = xs.length := sub_len1 (is_treeTo hx) sec_one _ (Nat.le_refl _)
theorem th_sec {im : List (List Nd)} (hi : isS im = true) : fms (thTo (sgI sec) im 6) ∧ limB (thTo (sgI sec) im 6) 6 = true := by
  have h6 := (isS_six hi).1
  have hf := isS_fms hi
  have hlen : ∀ j, j < 6 → (subTo (sgI sec) (nthL im j) (nthL im j).length).length = (nthL im j).length := fun j hj => suL_sec (hf j (by omega))
  refine ⟨fun j hj => ?_, List.all_eq_true.2 fun j hj => ?_⟩
  · rw [thTo_len] at hj
    rw [thTo_at hj]
    exact sub_is (isS_sOK sec_is) (hf j (by omega)) (by rw [hlen j hj]; exact (is_pos' (hf j (by omega))).2)
  · have hj6 := List.mem_range.1 hj
    rw [thTo_at hj6, hlen j hj6]
    exact decide_eq_true (is_pos' (hf j (by omega))).2
theorem su_ok {xs : List Nd} {im : List (List Nd)} (hx : isB xs xs.length = true) (hi : isS im = true) (hl : (suL xs im).length ≤ 40) : suR xs im = suL xs im ∧ suC xs im = 0 := by
  obtain ⟨e1, e2⟩ := su_good (xs := xs) (xss := im) (by rw [hx, hi]; rfl)
  have hn : ¬ 40 < (suL xs im).length := by omega
  rw [e1, e2]
  exact ⟨if_neg hn, if_neg hn⟩
/-- All that the law FnSubstitutions asks of the answers. -/
theorem su_all {xs : List Nd} {im : List (List Nd)} (h : suC xs im = 0) :
    mtC xs (suR xs im) = 0 ∧ (mtR xs (suR xs im)).length = 6 ∧ suC xs (mtR xs (suR xs im)) = 0 ∧ suR xs (mtR xs (suR xs im)) = suR xs im ∧
      cmC im sec = 0 ∧ suC (suR xs im) sec = 0 ∧ suC xs (cmR im sec) = 0 ∧ suR xs (cmR im sec) = suR (suR xs im) sec := by
  have hg : (isB xs xs.length && isS im) = true := by
    cases hg : (isB xs xs.length && isS im) with
    | true => rfl
    | false => rw [(su_bad hg).2] at h; simp at h
  obtain ⟨hx, hi⟩ := Bool.and_eq_true_iff.1 hg
  have hl : (suL xs im).length ≤ 40 := by
    rcases Nat.lt_or_ge 40 (suL xs im).length with hh | hh
    · rw [(su_good hg).2, limC, if_pos hh] at h; simp at h
    · exact hh
  obtain ⟨e1, -⟩ := su_ok hx hi hl
  have hb : isB (suL xs im) (suL xs im).length = true := sub_is (isS_sOK hi) hx hl
  obtain ⟨m1, m2, m3⟩ := mt_image hx hi hl
  obtain ⟨t1, t2⟩ := th_sec hi
  have hc := cm_good (xss := im) (yss := sec) (by rw [hi, sec_is]; rfl)
  have ha := al_ok (xss := cmL im sec) (by
    show limB (thTo (sgI sec) im 6) (thTo (sgI sec) im 6).length = true
    rw [thTo_len]; exact t2)
  have e6 : cmL im sec = thTo (sgI sec) im 6 := rfl
  have hcr : cmR im sec = thTo (sgI sec) im 6 := by rw [hc.1, ha.1, e6]
  have hco : suL xs (thTo (sgI sec) im 6) = suL (suL xs im) sec := subTo_sub (is_treeTo hx) _ (Nat.le_refl _)
  have hls : (suL (suL xs im) sec).length ≤ 40 := by rw [suL_sec hb]; exact hl
  obtain ⟨f1, f2⟩ := su_ok hb sec_is hls
  obtain ⟨k1, k2⟩ := su_ok hx m2 (by rw [m3]; exact hl)
  obtain ⟨l1, l2⟩ := su_ok hx (fms_isS t1 (thTo_len _ _ _)) (by rw [hco]; exact hls)
  rw [e1]
  refine ⟨m1, (isS_six m2).1, k2, by rw [k1, m3], by rw [hc.2, ha.2], f2, by rw [hcr]; exact l2, by rw [hcr, l1, hco, f1]⟩

end Go.Proofs.Ytbhgedabcclimaa
