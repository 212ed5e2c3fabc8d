/- Contracts of SubformulasOf of the model and of the program, at every list of nodes. Conditions: those in the theorems. -/
import Derived.Test.YtegdbcdffnopfaaSub
import Derived.Test.YtegdbcdffnopfaaText4
import Derived.Test.YtegdbcdffnopfaaVars
namespace Go.Proofs.Ytegdbcdffnopfaa
open Go.RowKit Go.Sort Go.Lib

noncomputable def tls (xs : List Nd) (k : Nat) : List (List UInt8) := (List.range k).map (txAt xs)
theorem tls_len (xs : List Nd) (k : Nat) : (tls xs k).length = k := by simp [tls]
theorem tls_succ (xs : List Nd) (k : Nat) : tls xs (k + 1) = tls xs k ++ [txAt xs k] := by simp [tls, List.range_succ]
noncomputable def srt (xs : List Nd) (k : Nat) : List (List UInt8) := (tls xs k).mergeSort fun x y => decide (x ≤ y)
theorem srt_len (xs : List Nd) (k : Nat) : (srt xs k).length = k := by rw [srt, List.length_mergeSort, tls_len]
noncomputable def suL (xs : List Nd) (k : Nat) : List (List UInt8) := compactUpTo (srt xs k).toArray k
theorem srt_up (xs : List Nd) (k : Nat) : ∀ i, i + 1 < k → ¬ ((srt xs k).toArray[i + 1]! < (srt xs k).toArray[i]!) := by
  intro i hi
  have hp := List.pairwise_mergeSort (le := fun x y : List UInt8 => decide (x ≤ y)) (fun a b c h1 h2 => by simp only [decide_eq_true_eq] at h1 h2 ⊢; exact List.le_trans h1 h2) (fun a b => by simp only [Bool.or_eq_true, decide_eq_true_eq]; exact List.le_total a b) (tls xs k)
  have hl := srt_len xs k
  rw [List.pairwise_iff_getElem] at hp
  have := hp i (i + 1) (by show i < (srt xs k).length; omega) (by show i + 1 < (srt xs k).length; omega) (by omega)
  simp only [decide_eq_true_eq] at this
  rw [getElem!_pos _ _ (by simp; omega), getElem!_pos _ _ (by simp; omega)]
  simp only [List.getElem_toArray]
  exact List.not_lt.2 this
theorem suL_facts (xs : List Nd) (k : Nat) : (suL xs k).Pairwise (· < ·) ∧ ∀ x, x ∈ suL xs k ↔ ∃ j, j < k ∧ x = txAt xs j := by
  obtain ⟨h1, h2, -⟩ := compact_up (· < ·) (fun x y z a b => List.lt_trans a b) lt_ne (srt xs k).toArray k (srt_up xs k) k (Nat.le_refl _)
  refine ⟨h1, fun x => ?_⟩
  rw [show (x ∈ suL xs k ↔ _) from h2 x]
  have hm : x ∈ srt xs k ↔ x ∈ tls xs k := List.mem_mergeSort
  have hmem : (∃ j, j < k ∧ (srt xs k).toArray[j]! = x) ↔ x ∈ srt xs k := by
    have hl := srt_len xs k
    constructor
    · rintro ⟨j, hj, e⟩
      rw [getElem!_pos _ _ (by simp; omega)] at e
      rw [← e]
      simp
    · intro hx
      obtain ⟨j, hj, e⟩ := List.getElem_of_mem hx
      exact ⟨j, by omega, by rw [getElem!_pos _ _ (by simpa using hj)]; simpa using e⟩
  rw [hmem, hm]
  simp [tls, eq_comm]
theorem su_uniq (xs : List Nd) (k : Nat) (l : List (List UInt8)) (h1 : l.Pairwise (· < ·)) (h2 : ∀ x, x ∈ l ↔ ∃ j, j < k ∧ x = txAt xs j) : l = suL xs k := by
  obtain ⟨h3, h4⟩ := suL_facts xs k
  exact up_uniq (· < ·) (fun x y z a b => List.lt_trans a b) (fun x => List.lt_irrefl x) _ _ h1 h3 fun x => by rw [h2, h4]
theorem suL_len (xs : List Nd) (k : Nat) : (suL xs k).length ≤ k := by
  unfold suL compactUpTo
  rw [List.length_map]
  exact Nat.le_trans (List.length_filter_le _ _) (by simp)

noncomputable def suR (xs : List Nd) : List (List UInt8) := if isB xs xs.length then suL xs xs.length else []
def suC (xs : List Nd) : Int := if isB xs xs.length then 0 else 1
theorem SubformulasOf_len (xs : List Nd) : (suR xs).length ≤ 1048576 := by
  unfold suR
  split
  · rename_i h
    have := suL_len xs xs.length
    have := (is_pos' h).2
    omega
  · exact Nat.zero_le _
theorem su_bad {xs : List Nd} (h : isB xs xs.length = false) : suR xs = [] ∧ suC xs = 1 := by unfold suR suC; rw [h]; exact ⟨rfl, rfl⟩
theorem su_good {xs : List Nd} (h : isB xs xs.length = true) : suR xs = suL xs xs.length ∧ suC xs = 0 := by unfold suR suC; rw [h]; exact ⟨rfl, rfl⟩

set_option maxHeartbeats 2000000 in
theorem l02Sub_any (xs : List Nd) (b off cap len : Nat) (w : World) (hlen : len = xs.length) (hB : isB xs xs.length = true) (hcap : len ≤ cap) (hcm : cap ≤ maxLen) (h : AtN w (some ⟨b, off, none⟩) len xs) :
    Calls Try.prog 75 #[.slice (some ⟨b, off, none⟩) len cap] w fun e w' => ∃ v, e = .returned v ∧ OwnS w' w.heap.size v (suL xs len) ∧ Below w.heap.size w w' := by
  have H := Lib.hid h
  have HB := Lib.hid hB
  have LN := Lib.hid hlen
  have h40 : len ≤ 40 := by have := (is_pos' hB).2; omega
  have hbl : b < w.heap.size := by
    have hp := (is_pos' hB).1
    obtain ⟨b', off', ha, hb, -⟩ := h.2.resolve_left (by omega)
    cases ha
    exact hb
  unfold maxLen at hcm
  clear h hB hlen
  go_enter Try.func75, Try.ntmps75
  go_wp2
  go_loopw [3, 4] (fun v i wr => ∃ (k g c : Nat) (l : List (List UInt8)), k ≤ len ∧ i = .int .i64 k ∧ v = .slice (some ⟨g, 0, none⟩) l.length c ∧ OwnS wr w.heap.size v l ∧ l.Pairwise (· < ·) ∧ (∀ x, x ∈ l ↔ ∃ j, j < k ∧ x = txAt xs j) ∧ l.length ≤ k ∧ Below w.heap.size w wr) (fun _ i _ => len - (intOf i).toNat)
  case atStart => exact ⟨0, w.heap.size, 0, [], Nat.zero_le _, rfl, rfl, World.ownsRow_lit w #[] 0 (Nat.le_refl _) (by decide) rfl, List.Pairwise.nil, fun x => by simp, Nat.le_refl _, (Below.refl _ _).alloc (Nat.le_refl _) _⟩
  case round =>
    obtain ⟨k, g, c, l, hk, rfl, rfl, hown, hpw, hmem, hll, hbel⟩ := hrel
    have O := Lib.hid hown
    have PW := Lib.hid hpw
    have M := Lib.hid hmem
    have BL := Lib.hid hbel
    clear hown hpw hmem hbel
    obtain ⟨ln, hln⟩ : ∃ ln, ln = l.length := ⟨_, rfl⟩
    have LL := Lib.hid hln
    rw [← hln] at hll O ⊢
    clear hln
    by_cases hlt : k < len
    · obtain ⟨hok, r, he⟩ := fmAt_of HB.out (show k < xs.length by rw [← LN.out]; exact hlt)
      have hpe := pe_end (fmAt xs k) hok he
      rw [← LN.out] at hpe
      have hat := H.out.keep BL.out (Nat.le_refl _)
      obtain ⟨hkl, hF⟩ := hat.part hcap (by unfold maxLen; omega) he
      have AT := Lib.hid hat
      have HF := Lib.hid hF
      have OK := Lib.hid hok
      have HP := Lib.hid hpe
      obtain ⟨z, hz⟩ : ∃ z, z = (fmAt xs k).sz := ⟨_, rfl⟩
      rw [← hz] at HP HF hkl
      have hzp : 0 < z := by rw [hz]; exact Fm.sz_pos _
      clear hpe hat hF hok he hz
      go_wp2_with fail
      refine (l02Part_any xs _ _ _ k _ (by omega) (by omega) AT.out).mono ?_
      rw [HP.out]
      rintro e w' ⟨rfl, rfl⟩
      have hcne : ¬ cap = k := by omega
      have hkz : k + z - k = z := by omega
      go_wp2_with fail
      rw [hkz]
      have hcall := l02Text_any (fmAt xs k) OK.out b (off + k * 2) z (cap - k) wr (by omega) HF.out
      rw [show str ((fmAt xs k).wr 0) = stx (txAt xs k) from rfl] at hcall
      refine hcall.mono ?_
      clear hcall
      rintro e w1 ⟨rfl, hb1⟩
      have B1 := Lib.hid (BL.out.trans (hb1.mono BL.out.size))
      have hbs := hb1.size
      have O1 : Hid (OwnS w1 w.heap.size (.slice (some ⟨g, 0, none⟩) ln c) l) := World.ownsRow.kept O.out (row := none) ⟨hb1.os, hb1.tape, hb1.output, hb1.size, fun i hi _ => hb1.block i hi⟩ (by right; intro e; cases e)
      clear hb1 hbs
      go_wp2_with fail
      refine (l02Insert_any l (txAt xs k) g ln c w.heap.size w1 LL.out (by omega) B1.out.size PW.out O1.out).mono ?_
      rintro e w2 ⟨g2, c2, l2, rfl, ho2, hp2, hm2, hl2, hb2⟩
      have O2 := Lib.hid ho2
      have P2 := Lib.hid hp2
      have B2 := Lib.hid (B1.out.trans hb2)
      have M2 : Hid (∀ x, x ∈ l2 ↔ ∃ j, j < k + 1 ∧ x = txAt xs j) := by
        show ∀ x, x ∈ l2 ↔ ∃ j, j < k + 1 ∧ x = txAt xs j
        intro x
        rw [hm2 x, M.out x]
        constructor
        · rintro (⟨j, hj, e⟩ | e)
          · exact ⟨j, by omega, e⟩
          · exact ⟨k, by omega, e⟩
        · rintro ⟨j, hj, e⟩
          by_cases e2 : j = k
          · subst e2; exact .inr e
          · exact .inl ⟨j, by omega, e⟩
      have L2 : Hid (l2.length ≤ k + 1) := by show l2.length ≤ k + 1; have := LL.out; omega
      clear ho2 hp2 hm2 hl2 hb2
      go_wp2
      go_roundw
      case rel => exact ⟨k + 1, g2, c2, l2, hlt, by go_num, rfl, O2.out, P2.out, M2.out, L2.out, B2.out⟩
      case measure => simp [intOf]; omega
    · obtain rfl : k = len := by omega
      have e := su_uniq xs k l PW.out M.out
      have E := Lib.hid e
      clear e
      go_wp2
      go_ret
      exact ⟨_, rfl, by rw [← E.out]; exact O.out, BL.out⟩

set_option maxHeartbeats 400000 in
theorem specSubformulasOf_v (x0 : List Nd) (v : Value) (lo hi : Nat) (w : World) (hl : x0.length ≤ 1048576) (h : InN w lo hi v x0) :
    Calls Try.prog 41 #[v] w fun e w' => ∃ v', e = .returned (.tuple #[v', .int .i64 (suC x0)]) ∧ OwnS w' w.heap.size v' (suR x0) ∧ Below w.heap.size w w' := by
  obtain ⟨a, cap, rfl, hat, hc1, hc2⟩ := h.at'
  have H := Lib.hid hat
  cases hb : isB x0 x0.length
  · obtain ⟨e1, e2⟩ := su_bad hb
    rw [e1, e2]
    have HB := Lib.hid hb
    clear hb e1 e2 h hat
    go_enter Try.func41, Try.ntmps41
    go_wp2_with (go_at_call 51; refine (l02Is_any _ _ _ _ _ hl H.out).mono ?_; rw [HB.out]; rintro e w' ⟨rfl, rfl⟩)
    go_ret2
    exact ⟨_, rfl, ownS_nil _ _, Below.refl _ _⟩
  · obtain ⟨e1, e2⟩ := su_good hb
    rw [e1, e2]
    obtain ⟨b, off, rfl, -⟩ := hat.formula hb hc1 hc2
    have HB := Lib.hid hb
    clear hb e1 e2 h hat
    obtain ⟨len, hlen⟩ : ∃ len, len = x0.length := ⟨_, rfl⟩
    have LN := Lib.hid hlen
    rw [← hlen] at H hl hc1 ⊢
    have HB2 : Hid (isB x0 len = true) := by show isB x0 len = true; rw [hlen]; exact HB.out
    clear hlen
    go_enter Try.func41, Try.ntmps41
    go_wp2_with fail
    refine (l02Is_any _ _ _ _ _ hl H.out).mono ?_
    rw [HB2.out]
    rintro e w' ⟨rfl, rfl⟩
    go_wp2_with fail
    refine (l02Sub_any x0 b off cap len _ LN.out HB.out hc1 hc2 H.out).mono ?_
    rintro e w1 ⟨v1, rfl, ho, hb⟩
    have O := Lib.hid ho
    clear ho
    go_wp2
    go_ret2
    exact ⟨_, rfl, O.out, hb⟩

end Go.Proofs.Ytegdbcdffnopfaa
