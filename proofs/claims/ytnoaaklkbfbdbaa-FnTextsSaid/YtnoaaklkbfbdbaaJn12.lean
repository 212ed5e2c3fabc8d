/- 2 texts in one: SubF, SubI. -/
import Derived.Test.YtnoaaklkbfbdbaaSub
import Derived.Test.YtnoaaklkbfbdbaaText4
import Derived.Test.YtnoaaklkbfbdbaaVars
import Derived.Sort.EncStr
/- Contracts of SubformulasOf of the model and of the program, at every list of nodes. Conditions: those in the theorems. -/
namespace Go.Proofs.Ytnoaaklkbfbdbaa
open Go.RowKit Go.Sort Go.Lib

noncomputable def tls (xs : List Nd) (k : Nat) : List (List UInt8) := (List.range k).map (txAt xs)
theorem tls_len (xs : List Nd) (k : Nat) : (tls xs k).length = k := by simp [tls]
theorem tls_succ (xs : List Nd) (k : Nat) : tls xs (k + 1) = tls xs k ++ [txAt xs k] := by simp [tls, List.range_succ]
noncomputable def srt (xs : List Nd) (k : Nat) : List (List UInt8) := (tls xs k).mergeSort fun x y => decide (x ≤ y)
theorem srt_len (xs : List Nd) (k : Nat) : (srt xs k).length = k := by rw [srt, List.length_mergeSort, tls_len]
noncomputable def suL (xs : List Nd) (k : Nat) : List (List UInt8) := compactUpTo (srt xs k).toArray k
theorem srt_up (xs : List Nd) (k : Nat) : ∀ i, i + 1 < k → ¬ ((srt xs k).toArray[i + 1]! < (srt xs k).toArray[i]!) := by
  intro i hi
  have hp := List.pairwise_mergeSort (le := fun x y : List UInt8 => decide (x ≤ y)) (fun a b c h1 h2 => by simp only [decide_eq_true_eq] at h1 h2 ⊢; exact List.le_trans h1 h2) (fun a b => by simp only [Bool.or_eq_true, decide_eq_true_eq]; exact List.le_total a b) (tls xs k)
  have hl := srt_len xs k
  rw [List.pairwise_iff_getElem] at hp
  have := hp i (i + 1) (by show i < (srt xs k).length; omega) (by show i + 1 < (srt xs k).length; omega) (by omega)
  simp only [decide_eq_true_eq] at this
  rw [getElem!_pos _ _ (by simp; omega), getElem!_pos _ _ (by simp; omega)]
  simp only [List.getElem_toArray]
  exact List.not_lt.2 this
theorem suL_facts (xs : List Nd) (k : Nat) : (suL xs k).Pairwise (· < ·) ∧ ∀ x, x ∈ suL xs k ↔ ∃ j, j < k ∧ x = txAt xs j := by
  obtain ⟨h1, h2, -⟩ := compact_up (· < ·) (fun x y z a b => List.lt_trans a b) lt_ne (srt xs k).toArray k (srt_up xs k) k (Nat.le_refl _)
  refine ⟨h1, fun x => ?_⟩
  rw [show (x ∈ suL xs k ↔ _) from h2 x]
  have hm : x ∈ srt xs k ↔ x ∈ tls xs k := List.mem_mergeSort
  have hmem : (∃ j, j < k ∧ (srt xs k).toArray[j]! = x) ↔ x ∈ srt xs k := by
    have hl := srt_len xs k
    constructor
    · rintro ⟨j, hj, e⟩
      rw [getElem!_pos _ _ (by simp; omega)] at e
      rw [← e]
      simp
    · intro hx
      obtain ⟨j, hj, e⟩ := List.getElem_of_mem hx
      exact ⟨j, by omega, by rw [getElem!_pos _ _ (by simpa using hj)]; simpa using e⟩
  rw [hmem, hm]
  simp [tls, eq_comm]
theorem su_uniq (xs : List Nd) (k : Nat) (l : List (List UInt8)) (h1 : l.Pairwise (· < ·)) (h2 : ∀ x, x ∈ l ↔ ∃ j, j < k ∧ x = txAt xs j) : l = suL xs k := by
  obtain ⟨h3, h4⟩ := suL_facts xs k
  exact up_uniq (· < ·) (fun x y z a b => List.lt_trans a b) (fun x => List.lt_irrefl x) _ _ h1 h3 fun x => by rw [h2, h4]
theorem suL_len (xs : List Nd) (k : Nat) : (suL xs k).length ≤ k := by
  unfold suL compactUpTo
  rw [List.length_map]
  exact Nat.le_trans (List.length_filter_le _ _) (by simp)

noncomputable def suR (xs : List Nd) : List (List UInt8) := if isB xs xs.length then suL xs xs.length else []
def suC (xs : List Nd) : Int := if isB xs xs.length then 0 else 1
theorem SubformulasOf_len (xs : List Nd) : (suR xs).length ≤ 1048576 := by
  unfold suR
  split
  · rename_i h
    have := suL_len xs xs.length
    have := (is_pos' h).2
    omega
  · exact Nat.zero_le _
theorem su_bad {xs : List Nd} (h : isB xs xs.length = false) : suR xs = [] ∧ suC xs = 1 := by unfold suR suC; rw [h]; exact ⟨rfl, rfl⟩
theorem su_good {xs : List Nd} (h : isB xs xs.length = true) : suR xs = suL xs xs.length ∧ suC xs = 0 := by unfold suR suC; rw [h]; exact ⟨rfl, rfl⟩

end Go.Proofs.Ytnoaaklkbfbdbaa

/- The contract of SubformulasOf of the program, at every list of nodes. Conditions: those in the theorem. -/
namespace Go.Proofs.Ytnoaaklkbfbdbaa
open Go.RowKit Go.Sort Go.Lib

theorem eqlStr (P : Program) (T : TypeId) : EqlAt P T Go.Proofs.encStr (fun x y => decide (x = y)) := by
  refine ⟨fun x y w => ?_, fun op a b x y w => (EqlAt.string P T).2 op a b ⟨x.toArray⟩ ⟨y.toArray⟩ w⟩
  rw [show Go.Proofs.encStr x = Value.string ⟨x.toArray⟩ from rfl, show Go.Proofs.encStr y = Value.string ⟨y.toArray⟩ from rfl, (EqlAt.string P T).1 ⟨x.toArray⟩ ⟨y.toArray⟩ w]
  show Result.ok (Value.bool ((ByteArray.mk x.toArray).toList == (ByteArray.mk y.toArray).toList)) w = Result.ok (Value.bool (decide (x = y))) w
  rw [Lib.toList_data, Lib.toList_data]
  by_cases h : x = y <;> simp [h]
theorem neqStr (P : Program) (T : TypeId) : NeqAt P T Go.Proofs.encStr (fun x y => decide (x = y)) := by
  refine ⟨fun x y w => ?_, fun op a b x y w => (NeqAt.string P T).2 op a b ⟨x.toArray⟩ ⟨y.toArray⟩ w⟩
  rw [show Go.Proofs.encStr x = Value.string ⟨x.toArray⟩ from rfl, show Go.Proofs.encStr y = Value.string ⟨y.toArray⟩ from rfl, (NeqAt.string P T).1 ⟨x.toArray⟩ ⟨y.toArray⟩ w]
  show Result.ok (Value.bool (!((ByteArray.mk x.toArray).toList == (ByteArray.mk y.toArray).toList))) w = Result.ok (Value.bool (!decide (x = y))) w
  rw [Lib.toList_data, Lib.toList_data]
  by_cases h : x = y <;> simp [h]

set_option maxHeartbeats 4000000 in
theorem implSubformulasOf_v (x0 : List Nd) (v : Value) (lo hi : Nat) (w : World) (hl : x0.length ≤ 1048576) (h : InN w lo hi v x0) :
    Calls Try.prog 33 #[v] w fun e w' => ∃ v', e = .returned (.tuple #[v', .int .i64 (suC x0)]) ∧ OwnS w' w.heap.size v' (suR x0) ∧ Below w.heap.size w w' := by
  obtain ⟨a, cap, rfl, hat, hc1, hc2⟩ := h.at'
  have H := Lib.hid hat
  cases hb : isB x0 x0.length
  · obtain ⟨e1, e2⟩ := su_bad hb
    rw [e1, e2]
    have HB := Lib.hid hb
    clear hb e1 e2 h hat
    go_enter Try.func33, Try.ntmps33
    go_wp2_with (go_at_call 32; refine (implIsF_any _ _ _ _ _ hl H.out).mono ?_; rw [HB.out]; rintro e w' ⟨rfl, hb⟩)
    go_ret2
    exact ⟨_, rfl, ownS_nil _ _, hb⟩
  · obtain ⟨e1, e2⟩ := su_good hb
    rw [e1, e2]
    obtain ⟨b, off, rfl, -⟩ := hat.formula hb hc1 hc2
    have h40 := (is_pos' hb).2
    have h0 := (is_pos' hb).1
    have HB := Lib.hid hb
    clear hb e1 e2 h hat
    obtain ⟨len, hlen⟩ : ∃ len, len = x0.length := ⟨_, rfl⟩
    have LN := Lib.hid hlen
    rw [← hlen] at H hl hc1 h40 h0 ⊢
    have HB2 : Hid (isB x0 len = true) := by show isB x0 len = true; rw [hlen]; exact HB.out
    clear hlen
    unfold maxLen at hc2
    obtain ⟨i0, hi0, hz0, hz1, hz2⟩ := info_parts infoStr
    go_enter Try.func33, Try.ntmps33
    go_wp2_with fail
    refine (implIsF_any _ _ _ _ _ hl H.out).mono ?_
    rw [HB2.out]
    rintro e w0 ⟨rfl, hb0⟩
    have B0 := Lib.hid hb0
    clear hb0
    go_wp2_with (at_make; refine wpList_make_own _ rfl _ _ 55 rfl w.heap.size 9 i0 (.string ⟨#[]⟩) 1 Try.underlying55 hi0 hz0 hz1 _ _ _ len rfl rfl rfl ?b2 ?b3 B0.out.size ?_)
    case b2 => rw [hz2]; omega
    case b3 => unfold maxLen; omega
    intro wm hown0 hgr0
    have OM := Lib.hid hown0
    have BM := Lib.hid (B0.out.grown hgr0 B0.out.size (fun k h => by cases h))
    clear hown0 hgr0 hi0 hz0 hz1 hz2
    go_wp2
    go_loopw [4, 14] (fun v i wr => ∃ k : Nat, k ≤ len ∧ i = .int .i64 k ∧ OwnS wr w.heap.size v (tls x0 k) ∧ Below w.heap.size w wr) (fun _ i _ => len - (intOf i).toNat)
    case atStart => exact ⟨0, Nat.zero_le _, rfl, OM.out, BM.out⟩
    case round =>
      obtain ⟨k, hk, rfl, hown, hbel⟩ := hrel
      have O := Lib.hid hown
      have BL := Lib.hid hbel
      clear hown hbel
      by_cases hlt : k < len
      · obtain ⟨hok, r, he⟩ := fmAt_of HB.out (show k < x0.length by rw [← LN.out]; exact hlt)
        have hpe := pe_end (fmAt x0 k) hok he
        rw [← LN.out] at hpe
        have hat := H.out.keep BL.out (Nat.le_refl _)
        obtain ⟨hkl, hF⟩ := hat.part hc1 (by unfold maxLen; omega) he
        have AT := Lib.hid hat
        have HF := Lib.hid hF
        have OK := Lib.hid hok
        have HP := Lib.hid hpe
        obtain ⟨z, hz⟩ : ∃ z, z = (fmAt x0 k).sz := ⟨_, rfl⟩
        rw [← hz] at HP HF hkl
        have hzp : 0 < z := by rw [hz]; exact Fm.sz_pos _
        clear hpe hat hF hok he hz
        go_wp2_with fail
        refine (partEnd_any x0 _ _ _ k _ _ (by omega) (by omega) AT.out HP.out (by omega)).mono ?_
        rintro e w' ⟨rfl, rfl⟩
        have hcne : ¬ cap = k := by omega
        have hkz : k + z - k = z := by omega
        go_wp2_with fail
        rw [hkz]
        have hcall := textOf_any (fmAt x0 k) OK.out b (off + k * 2) z (cap - k) wr (by omega) HF.out
        obtain ⟨S, hS⟩ : ∃ S, S = stx (txAt x0 k) := ⟨_, rfl⟩
        have HS := Lib.hid hS
        rw [show (⟨((fmAt x0 k).wr 0).toArray⟩ : ByteArray) = S from hS.symm] at hcall
        clear hS
        refine hcall.mono ?_
        clear hcall
        rintro e w1 ⟨rfl, hb1⟩
        have B1 := Lib.hid (BL.out.trans (hb1.mono BL.out.size))
        have O1 : Hid (OwnS w1 w.heap.size u4 (tls x0 k)) := by
          refine World.ownsRow.kept O.out (row := none) ⟨hb1.os, hb1.tape, hb1.output, hb1.size, fun i hi _ => hb1.block i hi⟩ ?_
          cases hv : u4.ownBlock with
          | none => exact .inl rfl
          | some q => right; intro e; cases e
        have B1a := Lib.hid (B1.out.alloc B1.out.size (.cells #[.string S] 9))
        have S2 : Hid (AtS (w1.alloc (.cells #[.string S] 9)) (some ⟨w1.heap.size, 0, none⟩) 1 [txAt x0 k]) := ⟨rfl, .inr ⟨w1.heap.size, 0, rfl, by simp, fun j hj => by obtain rfl : j = 0 := (by omega); rw [show stx (nthS [txAt x0 k] 0) = S from HS.out.symm]; exact World.cell?_alloc_at _ _ _ _ rfl⟩⟩
        have O1a := Lib.hid (show OwnS (w1.alloc (.cells #[.string S] 9)) w.heap.size u4 _ from World.ownsRow.alloc O1.out _)
        clear hb1
        go_wp2_with (at_builtin; refine list_appS rfl _ _ rfl w.heap.size u4 _ rfl O1a.out [txAt x0 k] ⟨w1.heap.size, 0, none⟩ 1 1 rfl S2.out.1 S2.out.news0 (by rw [tls_len]; omega) B1a.out.size ?_)
        intro v2 w2 ho2 hg2
        have B2 := Lib.hid (B1a.out.grown hg2 B1a.out.size (fun k hk => OwnS.ge O1a.out k hk))
        have O2 : Hid (OwnS w2 w.heap.size v2 (tls x0 (k + 1))) := by show OwnS _ _ _ _; rw [tls_succ]; exact ho2
        clear ho2 hg2
        go_wp2
        go_roundw
        case rel => exact ⟨k + 1, hlt, by go_num, O2.out, B2.out⟩
        case measure => simp [intOf]; omega
      · obtain rfl : k = len := by omega
        obtain ⟨g, c, hv, hg1, hnc⟩ : ∃ g c, u4 = .slice (some ⟨g, 0, none⟩) k c ∧ g < wr.heap.size ∧ k ≤ c := by
          rcases O.out.2 with ⟨-, h2⟩ | ⟨g, c, cur, hv, hgB, hh, hnc, -⟩
          · rw [tls_len] at h2; omega
          · rw [tls_len] at hv hnc; exact ⟨g, c, hv, (Array.getElem?_eq_some_iff.1 hh).1, hnc⟩
        subst hv
        have hrow : wr.ownsRow w.heap.size 9 1 (.slice (some ⟨g, 0, none⟩) k c) k ((tls x0 k).map Go.Proofs.encStr) := by
          have := O.out
          unfold OwnS at this
          rw [tls_len] at this
          exact this
        have RW := Lib.hid hrow
        have hcall := AnyM.slices_Sort_string sortS g 0 c (tls x0 k) wr (holds_of_own Go.Proofs.encStr (tls_len x0 k) hrow) hg1 (by rw [tls_len]; omega)
        rw [tls_len] at hcall
        change Calls Try.prog 72 _ _ _ at hcall
        have SC := Lib.hid hcall
        clear hcall hrow
        obtain ⟨s, hs⟩ : ∃ s, s = srt x0 k := ⟨_, rfl⟩
        have hsl : s.length = k := by rw [hs, srt_len]
        have HSR : Hid ((tls x0 k).mergeSort (fun x y => decide (x ≤ y)) = s) := by show _ = s; rw [hs]; rfl
        have HSU : Hid (compactUpTo s.toArray k = suL x0 k) := by show _ = _; rw [hs]; rfl
        have HSL := Lib.hid hsl
        clear hs hsl
        go_wp2_with fail
        refine SC.out.mono ?_
        rw [HSR.out]
        rintro e w1 ⟨rfl, q, os, hw1⟩
        have hp := own_put Go.Proofs.encStr RW.out s HSL.out q os
        rw [← hw1] at hp
        have O1 := Lib.hid hp.1
        have B1 := Lib.hid (BL.out.grown hp.2 BL.out.size (fun k hk => by cases hk; exact (RW.out.lt _ rfl).1))
        clear hp hw1
        have hcall2 := AnyE.slices_Compact compactS Go.Proofs.encStr (fun _ => rfl) (eqlStr _ _) (neqStr _ _) [] (fun w => Try.zeroValue9 w) g 0 c s.toArray w1 (holds_of_own Go.Proofs.encStr HSL.out O1.out) (by simp [HSL.out]; omega) (by simp [HSL.out]; omega)
        rw [show s.toArray.size = k from HSL.out] at hcall2
        change Calls Try.prog 73 _ _ _ at hcall2
        rw [HSU.out] at hcall2
        have CC := Lib.hid hcall2
        clear hcall2
        obtain ⟨m, hm⟩ : ∃ m, m = (suL x0 k).length := ⟨_, rfl⟩
        rw [← hm] at CC
        have HM := Lib.hid hm
        have hmn : m ≤ k := by rw [hm]; exact suL_len x0 k
        clear hm
        go_wp2_with fail
        refine CC.out.mono ?_
        rintro e w2 ⟨rfl, q2, hw2⟩
        have hp2 := own_put Go.Proofs.encStr O1.out (suL x0 k ++ List.replicate (k - m) []) (by simp [← HM.out]; omega) q2 #[]
        rw [grow_empty, ← hw2] at hp2
        have B2 := Lib.hid (B1.out.grown hp2.2 B1.out.size (fun k hk => by cases hk; exact (O1.out.lt _ rfl).1))
        have O2 := Lib.hid (own_cut hp2.1 m hmn)
        clear hp2 hw2
        go_wp2
        go_ret2
        refine ⟨_, rfl, ?_, B2.out⟩
        unfold OwnS
        rw [← HM.out]
        have h3 := O2.out
        rw [List.map_append, List.take_left' (by simp [← HM.out])] at h3
        exact h3

end Go.Proofs.Ytnoaaklkbfbdbaa
