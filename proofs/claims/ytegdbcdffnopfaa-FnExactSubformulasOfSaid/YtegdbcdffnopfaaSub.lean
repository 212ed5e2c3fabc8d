/- Contracts of the model's functions that list the texts of all parts of a formula. Conditions: those in the theorems. -/
import Derived.Test.YtegdbcdffnopfaaStrL
import Derived.Test.YtegdbcdffnopfaaApS
import Derived.Test.YtegdbcdffnopfaaUniq
import Derived.Test.YtegdbcdffnopfaaWrite3
import Derived.Sort.Walk0
import Derived.Lib.Walk
namespace Go.Proofs.Ytegdbcdffnopfaa
open Go.RowKit

open Classical in
/-- The formula at an index of a list of nodes. -/
noncomputable def fmAt (xs : List Nd) (j : Nat) : Fm := if h : ∃ f : Fm, f.ok ∧ ∃ r, xs.drop j = f.enc ++ r then Classical.choose h else .fa
theorem fmAt_of {xs : List Nd} (h : isB xs xs.length = true) {j : Nat} (hj : j < xs.length) : (fmAt xs j).ok ∧ ∃ r, xs.drop j = (fmAt xs j).enc ++ r := by
  obtain ⟨f, r, hf, he⟩ := sub_at h hj
  have hx : ∃ f : Fm, f.ok ∧ ∃ r, xs.drop j = f.enc ++ r := ⟨f, hf, r, he⟩
  rw [fmAt, dif_pos hx]
  exact Classical.choose_spec hx
noncomputable def txAt (xs : List Nd) (j : Nat) : List UInt8 := (fmAt xs j).wr 0
theorem AtN.part {w : World} {b off len cap : Nat} {xs : List Nd} (h : AtN w (some ⟨b, off, none⟩) len xs) (hc : len ≤ cap) (hm : cap ≤ maxLen) {j : Nat} {f : Fm} {r : List Nd} (he : xs.drop j = f.enc ++ r) :
    j + f.sz ≤ len ∧ AtF w b (off + j * 2) f.sz (cap - j) f := by
  have hl := h.1
  have hsz := congrArg List.length he
  have hp := f.sz_pos
  simp [Fm.enc_len] at hsz
  have hjl : j + f.sz ≤ len := by omega
  have hs := h.sub j f.sz hjl
  have e : (xs.drop j).take f.sz = f.enc := by rw [he, ← Fm.enc_len]; simp
  rw [e] at hs
  exact ⟨hjl, hs, by omega, by omega⟩

theorem lt_ne (x y : List UInt8) (h : ¬ y < x) (k : x ≠ y) : x < y := by
  by_cases e : x < y
  · exact e
  · exact absurd (List.le_antisymm (List.not_lt.1 h) (List.not_lt.1 e)) k
theorem less_lt (x y : List UInt8) : Op.bytesLess x y = decide (x < y) := Go.Proofs.bytesLess_eq x y

/-- A list in strictly ascending order, with one element put in. -/
theorem ins_up {l : List (List UInt8)} {t : List UInt8} (hl : l.Pairwise (· < ·)) {k : Nat} (hk : k ≤ l.length) (h1 : ∀ j, j < k → nthS l j < t) (h2 : k < l.length → t < nthS l k) :
    (l.take k ++ [t] ++ l.drop k).Pairwise (· < ·) ∧ ∀ x, x ∈ l.take k ++ [t] ++ l.drop k ↔ x ∈ l ∨ x = t := by
  have hT : ∀ x ∈ l.take k, x < t := by
    intro x hx
    obtain ⟨j, hj, e⟩ := List.getElem_of_mem hx
    have hj' : j < k := by simp at hj; omega
    have := h1 j hj'
    have e2 : nthS l j = x := by simp [nthS, List.getD_eq_getElem?_getD, show j < l.length by omega]; rw [← e]; simp
    rwa [e2] at this
  have hD : ∀ x ∈ l.drop k, t < x := by
    intro x hx
    obtain ⟨j, hj, e⟩ := List.getElem_of_mem hx
    have hkl : k < l.length := by simp at hj; omega
    have hkj : k + j < l.length := by simp at hj; omega
    have h3 := h2 hkl
    have e2 : nthS l k = l[k] := by simp [nthS, List.getD_eq_getElem?_getD, hkl]
    have e3 : x = l[k + j] := by rw [← e]; simp
    rw [e2] at h3
    by_cases h0 : j = 0
    · subst h0; rw [e3]; exact h3
    · rw [List.pairwise_iff_getElem] at hl
      have h4 := hl k (k + j) hkl hkj (by omega)
      rw [e3]
      exact List.lt_trans h3 h4
  have hP := hl
  rw [← List.take_append_drop k l, List.pairwise_append] at hP
  refine ⟨?_, fun x => ?_⟩
  · rw [List.append_assoc, List.pairwise_append]
    refine ⟨hP.1, ?_, fun x hx y hy => ?_⟩
    · rw [List.singleton_append, List.pairwise_cons]
      exact ⟨hD, hP.2.1⟩
    · rcases List.mem_cons.1 hy with rfl | hy
      · exact hT x hx
      · exact hP.2.2 x hx y hy
  · have : x ∈ l ↔ x ∈ l.take k ∨ x ∈ l.drop k := by
      conv => lhs; rw [← List.take_append_drop k l]
      exact List.mem_append
    rw [this]
    simp
    constructor
    · rintro (h | h | h)
      · exact .inl (.inl h)
      · exact .inr h
      · exact .inl (.inr h)
    · rintro ((h | h) | h)
      · exact .inl h
      · exact .inr (.inr h)
      · exact .inr (.inl h)

theorem AtS.sub {w : World} {b off len : Nat} {l : List (List UInt8)} (h : AtS w (some ⟨b, off, none⟩) len l) (i n : Nat) (hi : i + n ≤ len) : AtS w (some ⟨b, off + i, none⟩) n ((l.drop i).take n) := by
  have hl := h.1
  refine ⟨by simp; omega, ?_⟩
  by_cases hn : n = 0
  · exact .inl hn
  · obtain ⟨b', off', ha, hb, hc⟩ := h.2.resolve_left (by omega)
    cases ha
    refine .inr ⟨b, off + i, rfl, hb, fun j hj => ?_⟩
    have e1 : nthS ((l.drop i).take n) j = nthS l (i + j) := by simp [nthS, List.getD_eq_getElem?_getD, hj, List.getElem?_drop]
    have := hc (i + j) (by omega)
    rw [e1, Nat.add_assoc]
    exact this
theorem AtS.news0 {w : World} {ad : Addr} {m : Nat} {ys : List (List UInt8)} (h : AtS w (some ad) m ys) : ∀ j u, (cS ys)[j]? = some u → w.cell? (ad.add j) = some u := by
  intro j u hu
  by_cases h0 : m = 0
  · have : ys = [] := List.eq_nil_of_length_eq_zero (by rw [← h.1]; exact h0)
    subst this
    simp [cS] at hu
  · obtain ⟨b, off, ha, -, -⟩ := h.2.resolve_left h0
    cases ha
    exact h.news j u hu

/-- What l02Insert leaves. -/
def InsR (B : Nat) (w : World) (l : List (List UInt8)) (t : List UInt8) (e : Ending) (w' : World) : Prop :=
  ∃ g c l', e = .returned (.slice (some ⟨g, 0, none⟩) l'.length c) ∧ OwnS w' B (.slice (some ⟨g, 0, none⟩) l'.length c) l' ∧ l'.Pairwise (· < ·) ∧ (∀ x, x ∈ l' ↔ x ∈ l ∨ x = t) ∧ l'.length ≤ l.length + 1 ∧ Below B w w'

set_option maxHeartbeats 4000000 in
theorem l02Insert_any (l : List (List UInt8)) (t : List UInt8) (b len cap : Nat) (B : Nat) (w : World) (hlen : len = l.length) (hl : len ≤ 1048576) (hB : B ≤ w.heap.size) (hp : l.Pairwise (· < ·)) (h : OwnS w B (.slice (some ⟨b, 0, none⟩) len cap) l) :
    Calls Try.prog 101 #[.slice (some ⟨b, 0, none⟩) len cap, .string (stx t)] w (InsR B w l t) := by
  have hh := h
  rw [hlen] at hh
  have hbl : b < w.heap.size ∧ len ≤ cap ∧ cap ≤ maxLen := by
    rcases h.2 with ⟨h2, -⟩ | ⟨g, c2, cur, h2, hg, hcur, hc, hm, -⟩
    · cases h2
    · cases h2; exact ⟨(Array.getElem?_eq_some_iff.1 hcur).1, by omega, hm⟩
  obtain ⟨hb, hcap, hcm⟩ := hbl
  obtain ⟨a0, c0, hv, hat, -⟩ := hh.at
  have hat2 : AtS w (some ⟨b, 0, none⟩) len l := by
    rw [hlen]
    injection hv with h1
    rw [h1]; exact hat
  have H := Lib.hid hat2
  have O := Lib.hid hh
  have LN := Lib.hid hlen
  have PW := Lib.hid hp
  obtain ⟨T, hT⟩ : ∃ T, T = stx t := ⟨_, rfl⟩
  have HT := Lib.hid hT
  rw [← hT]
  unfold maxLen at hcm
  clear h hh hat hat2 hlen hp hT hv
  go_enter Try.func101, Try.ntmps101
  go_wp2
  go_loop [5] (fun i => ∃ k : Nat, k ≤ len ∧ i = .int .i64 k ∧ (∀ j, j < k → nthS l j < t)) (fun i => len - (intOf i).toNat)
  case atStart => exact ⟨0, Nat.zero_le _, rfl, fun j hj => absurd hj (by omega)⟩
  case round =>
    obtain ⟨k, hk, rfl, hall⟩ := hrel
    have A := Lib.hid hall
    clear hall
    by_cases hlt : k < len
    · obtain ⟨b', off, he, hb', hc⟩ := H.out.2.resolve_left (by omega)
      cases he
      obtain ⟨S, hS⟩ : ∃ S, S = stx (nthS l k) := ⟨_, rfl⟩
      have g1 := hc k hlt
      rw [← hS, Nat.zero_add] at g1
      have hless : Op.bytesLess S.toList T.toList = decide (nthS l k < t) := by
        rw [hS, HT.out, less_lt, Lib.toList_data, Lib.toList_data]
        rfl
      have hsame : (S.toList == T.toList) = decide (nthS l k = t) := by
        rw [hS, HT.out, Lib.toList_data, Lib.toList_data]
        show ((nthS l k == t) = _)
        by_cases e : nthS l k = t <;> simp [e]
      clear hc
      by_cases hl1 : nthS l k < t
      · rw [decide_eq_true hl1] at hless
        have A2 : Hid (∀ j, j < k + 1 → nthS l j < t) := by
          show ∀ j, j < k + 1 → nthS l j < t
          intro j hj
          by_cases e : j = k
          · subst e; exact hl1
          · exact A.out j (by omega)
        clear hl1 hS hsame
        go_wp2
        go_round
        case rel => exact ⟨k + 1, hlt, by go_num, A2.out⟩
        case measure => simp [intOf]; omega
      · rw [decide_eq_false hl1] at hless
        by_cases he : nthS l k = t
        · rw [decide_eq_true he] at hsame
          have MEM : Hid (t ∈ l) := by
            show t ∈ l
            have hkl : k < l.length := by rw [← LN.out]; exact hlt
            rw [← he]
            simp [nthS, List.getD_eq_getElem?_getD, hkl]
          clear hl1 hS he
          go_wp2
          go_ret
          refine ⟨b, cap, l, by rw [← LN.out]; rfl, by have := O.out; rw [← LN.out] at this ⊢; exact this, PW.out, fun x => ?_, by omega, Below.refl _ _⟩
          constructor
          · exact .inl
          · rintro (h | h)
            · exact h
            · rw [h]; exact MEM.out
        · rw [decide_eq_false he] at hsame
          have hgt : t < nthS l k := lt_ne t (nthS l k) hl1 (fun e => he e.symm)
          have IU := Lib.hid (ins_up PW.out (by rw [← LN.out]; exact hk) A.out (fun _ => hgt))
          clear hl1 hS he hgt
          have hk' : k ≤ cap := by omega
          have B0 := Lib.hid ((Below.refl w.heap.size w).alloc (Nat.le_refl _) (.cells #[] 9))
          have L0 : Hid (OwnS (w.alloc (.cells #[] 9)) w.heap.size (.slice (some ⟨w.heap.size, 0, none⟩) 0 0) []) := World.ownsRow_lit w #[] 0 (Nat.le_refl _) (by decide) rfl
          have S1 := Lib.hid ((H.out.sub 0 k (by omega)).keep B0.out (Nat.le_refl _))
          go_wp2_with (at_builtin; refine list_appS rfl _ _ rfl w.heap.size (.slice (some ⟨w.heap.size, 0, none⟩) 0 0) [] rfl L0.out ((l.drop 0).take k) ⟨b, 0, none⟩ k cap rfl S1.out.1 S1.out.news0 (by simp; omega) B0.out.size ?_)
          intro v1 w1 ho1 hg1
          have B1 := Lib.hid (B0.out.grown hg1 B0.out.size (fun k hk => OwnS.ge L0.out k hk))
          have O1 := Lib.hid ho1
          clear ho1 hg1
          have B1a := Lib.hid (B1.out.alloc B1.out.size (.cells #[.string T] 9))
          have S2 : Hid (AtS (w1.alloc (.cells #[.string T] 9)) (some ⟨w1.heap.size, 0, none⟩) 1 [t]) := ⟨rfl, .inr ⟨w1.heap.size, 0, rfl, by simp, fun j hj => by obtain rfl : j = 0 := (by omega); rw [show stx (nthS [t] 0) = T from HT.out.symm]; exact World.cell?_alloc_at _ _ _ _ rfl⟩⟩
          have O1a := Lib.hid (show OwnS (w1.alloc (.cells #[.string T] 9)) w.heap.size v1 _ from World.ownsRow.alloc O1.out _)
          go_wp2_with (at_builtin; refine list_appS rfl _ _ rfl w.heap.size v1 _ rfl O1a.out [t] ⟨w1.heap.size, 0, none⟩ 1 1 rfl S2.out.1 S2.out.news0 (by simp; omega) B1a.out.size ?_)
          intro v2 w2 ho2 hg2
          have B2 := Lib.hid (B1a.out.grown hg2 B1a.out.size (fun k hk => OwnS.ge O1a.out k hk))
          have O2 := Lib.hid ho2
          clear ho2 hg2 B1a S2 O1a O1 B1 S1 L0 B0
          have S3 := Lib.hid ((H.out.sub k (len - k) (by omega)).keep B2.out (Nat.le_refl _))
          have hne : ¬ cap = k := by omega
          have S4 : Hid (AtS w2 (some ⟨b, k, none⟩) (len - k) ((l.drop k).take (len - k))) := by have := S3.out; rwa [Nat.zero_add] at this
          go_wp2_with (at_builtin; refine list_appS rfl _ _ rfl w.heap.size v2 _ rfl O2.out ((l.drop k).take (len - k)) ⟨b, k, none⟩ _ _ rfl S4.out.1 S4.out.news0 (by simp; omega) B2.out.size ?_)
          intro v3 w3 ho3 hg3
          have B3 := Lib.hid (B2.out.grown hg3 B2.out.size (fun k hk => OwnS.ge O2.out k hk))
          have e0 : (l.drop k).take (len - k) = l.drop k := List.take_of_length_le (by rw [List.length_drop]; have := LN.out; omega)
          have e3 : ([] ++ (l.drop 0).take k ++ [t]) ++ (l.drop k).take (len - k) = l.take k ++ [t] ++ l.drop k := by rw [e0, List.drop_zero, List.nil_append]
          have O3 : Hid (OwnS w3 w.heap.size v3 (l.take k ++ [t] ++ l.drop k)) := by show OwnS _ _ _ _; rw [← e3]; first | exact ho3 | (simp only [List.nil_append, List.append_assoc] at ho3 ⊢; exact ho3)
          have hl3 : (l.take k ++ [t] ++ l.drop k).length = l.length + 1 := by simp; have := LN.out; omega
          have L3 := Lib.hid hl3
          obtain ⟨g3, c3, hv3⟩ : ∃ g c, v3 = .slice (some ⟨g, 0, none⟩) (l.take k ++ [t] ++ l.drop k).length c := by
            rcases O3.out.2 with ⟨-, h2⟩ | ⟨g, c2, cur, h2, -⟩
            · rw [hl3] at h2; omega
            · exact ⟨g, c2, h2⟩
          clear ho3 hg3 e3 hl3
          obtain ⟨l3, hl4⟩ : ∃ l3, l3 = l.take k ++ [t] ++ l.drop k := ⟨_, rfl⟩
          rw [← hl4] at O3 IU L3 hv3
          clear hl4
          subst hv3
          go_wp2
          go_ret
          exact ⟨g3, c3, l3, rfl, O3.out.mono hB, IU.out.1, IU.out.2, by rw [L3.out]; omega, B3.out.mono hB⟩
    · obtain rfl : k = len := by omega
      have IU := Lib.hid (ins_up PW.out (by rw [← LN.out]; exact Nat.le_refl _) A.out (fun h => absurd h (by rw [← LN.out]; omega)))
      have hk' : k ≤ cap := by omega
      have B0 := Lib.hid ((Below.refl w.heap.size w).alloc (Nat.le_refl _) (.cells #[] 9))
      have L0 : Hid (OwnS (w.alloc (.cells #[] 9)) w.heap.size (.slice (some ⟨w.heap.size, 0, none⟩) 0 0) []) := World.ownsRow_lit w #[] 0 (Nat.le_refl _) (by decide) rfl
      have S1 := Lib.hid ((H.out.sub 0 k (by omega)).keep B0.out (Nat.le_refl _))
      go_wp2_with (at_builtin; refine list_appS rfl _ _ rfl w.heap.size (.slice (some ⟨w.heap.size, 0, none⟩) 0 0) [] rfl L0.out ((l.drop 0).take k) ⟨b, 0, none⟩ k cap rfl S1.out.1 S1.out.news0 (by simp; omega) B0.out.size ?_)
      intro v1 w1 ho1 hg1
      have B1 := Lib.hid (B0.out.grown hg1 B0.out.size (fun k hk => OwnS.ge L0.out k hk))
      have O1 := Lib.hid ho1
      clear ho1 hg1
      have B1a := Lib.hid (B1.out.alloc B1.out.size (.cells #[.string T] 9))
      have S2 : Hid (AtS (w1.alloc (.cells #[.string T] 9)) (some ⟨w1.heap.size, 0, none⟩) 1 [t]) := ⟨rfl, .inr ⟨w1.heap.size, 0, rfl, by simp, fun j hj => by obtain rfl : j = 0 := (by omega); rw [show stx (nthS [t] 0) = T from HT.out.symm]; exact World.cell?_alloc_at _ _ _ _ rfl⟩⟩
      have O1a := Lib.hid (show OwnS (w1.alloc (.cells #[.string T] 9)) w.heap.size v1 _ from World.ownsRow.alloc O1.out _)
      go_wp2_with (at_builtin; refine list_appS rfl _ _ rfl w.heap.size v1 _ rfl O1a.out [t] ⟨w1.heap.size, 0, none⟩ 1 1 rfl S2.out.1 S2.out.news0 (by simp; omega) B1a.out.size ?_)
      intro v2 w2 ho2 hg2
      have B2 := Lib.hid (B1a.out.grown hg2 B1a.out.size (fun k hk => OwnS.ge O1a.out k hk))
      have O2 := Lib.hid ho2
      clear ho2 hg2 B1a S2 O1a O1 B1 S1 L0 B0
      have S3 : Hid (∀ ad : Addr, AtS w2 (some ad) 0 []) := fun ad => ⟨rfl, .inl rfl⟩
      by_cases hck : cap = k
      · skip
        go_wp2_with (at_builtin; refine list_appS rfl _ _ rfl w.heap.size v2 _ rfl O2.out [] ⟨b, 0, none⟩ _ _ rfl (S3.out ⟨b, 0, none⟩).1 (S3.out ⟨b, 0, none⟩).news0 (by simp; omega) B2.out.size ?_)
        intro v3 w3 ho3 hg3
        have B3 := Lib.hid (B2.out.grown hg3 B2.out.size (fun k hk => OwnS.ge O2.out k hk))
        have e0 : l.drop k = [] := List.drop_eq_nil_of_le (by have := LN.out; omega)
        have e3 : ([] ++ (l.drop 0).take k ++ [t]) ++ [] = l.take k ++ [t] ++ l.drop k := by rw [e0, List.drop_zero, List.nil_append]
        have O3 : Hid (OwnS w3 w.heap.size v3 (l.take k ++ [t] ++ l.drop k)) := by show OwnS _ _ _ _; rw [← e3]; first | exact ho3 | simpa using ho3
        have hl3 : (l.take k ++ [t] ++ l.drop k).length = l.length + 1 := by simp; have := LN.out; omega
        have L3 := Lib.hid hl3
        obtain ⟨g3, c3, hv3⟩ : ∃ g c, v3 = .slice (some ⟨g, 0, none⟩) (l.take k ++ [t] ++ l.drop k).length c := by
          rcases O3.out.2 with ⟨-, h2⟩ | ⟨g, c2, cur, h2, -⟩
          · rw [hl3] at h2; omega
          · exact ⟨g, c2, h2⟩
        clear ho3 hg3 e3 hl3
        obtain ⟨l3, hl4⟩ : ∃ l3, l3 = l.take k ++ [t] ++ l.drop k := ⟨_, rfl⟩
        rw [← hl4] at O3 IU L3 hv3
        clear hl4
        subst hv3
        go_wp2
        go_ret
        exact ⟨g3, c3, l3, rfl, O3.out.mono hB, IU.out.1, IU.out.2, by rw [L3.out]; omega, B3.out.mono hB⟩
      · skip
        go_wp2_with (at_builtin; refine list_appS rfl _ _ rfl w.heap.size v2 _ rfl O2.out [] ⟨b, k, none⟩ _ _ rfl (S3.out ⟨b, k, none⟩).1 (S3.out ⟨b, k, none⟩).news0 (by simp; omega) B2.out.size ?_)
        intro v3 w3 ho3 hg3
        have B3 := Lib.hid (B2.out.grown hg3 B2.out.size (fun k hk => OwnS.ge O2.out k hk))
        have e0 : l.drop k = [] := List.drop_eq_nil_of_le (by have := LN.out; omega)
        have e3 : ([] ++ (l.drop 0).take k ++ [t]) ++ [] = l.take k ++ [t] ++ l.drop k := by rw [e0, List.drop_zero, List.nil_append]
        have O3 : Hid (OwnS w3 w.heap.size v3 (l.take k ++ [t] ++ l.drop k)) := by show OwnS _ _ _ _; rw [← e3]; first | exact ho3 | simpa using ho3
        have hl3 : (l.take k ++ [t] ++ l.drop k).length = l.length + 1 := by simp; have := LN.out; omega
        have L3 := Lib.hid hl3
        obtain ⟨g3, c3, hv3⟩ : ∃ g c, v3 = .slice (some ⟨g, 0, none⟩) (l.take k ++ [t] ++ l.drop k).length c := by
          rcases O3.out.2 with ⟨-, h2⟩ | ⟨g, c2, cur, h2, -⟩
          · rw [hl3] at h2; omega
          · exact ⟨g, c2, h2⟩
        clear ho3 hg3 e3 hl3
        obtain ⟨l3, hl4⟩ : ∃ l3, l3 = l.take k ++ [t] ++ l.drop k := ⟨_, rfl⟩
        rw [← hl4] at O3 IU L3 hv3
        clear hl4
        subst hv3
        go_wp2
        go_ret
        exact ⟨g3, c3, l3, rfl, O3.out.mono hB, IU.out.1, IU.out.2, by rw [L3.out]; omega, B3.out.mono hB⟩

end Go.Proofs.Ytegdbcdffnopfaa
