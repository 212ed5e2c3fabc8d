/- The contract of SubformulasOf of the program, at every list of nodes. Conditions: those in the theorem. -/
import Derived.Test.YtegdbcdffnopfaaSubF
import Derived.Sort.EncStr
namespace Go.Proofs.Ytegdbcdffnopfaa
open Go.RowKit Go.Sort Go.Lib

theorem eqlStr (P : Program) (T : TypeId) : EqlAt P T Go.Proofs.encStr (fun x y => decide (x = y)) := by
  refine ⟨fun x y w => ?_, fun op a b x y w => (EqlAt.string P T).2 op a b ⟨x.toArray⟩ ⟨y.toArray⟩ w⟩
  rw [show Go.Proofs.encStr x = Value.string ⟨x.toArray⟩ from rfl, show Go.Proofs.encStr y = Value.string ⟨y.toArray⟩ from rfl, (EqlAt.string P T).1 ⟨x.toArray⟩ ⟨y.toArray⟩ w]
  show Result.ok (Value.bool ((ByteArray.mk x.toArray).toList == (ByteArray.mk y.toArray).toList)) w = Result.ok (Value.bool (decide (x = y))) w
  rw [Lib.toList_data, Lib.toList_data]
  by_cases h : x = y <;> simp [h]
theorem neqStr (P : Program) (T : TypeId) : NeqAt P T Go.Proofs.encStr (fun x y => decide (x = y)) := by
  refine ⟨fun x y w => ?_, fun op a b x y w => (NeqAt.string P T).2 op a b ⟨x.toArray⟩ ⟨y.toArray⟩ w⟩
  rw [show Go.Proofs.encStr x = Value.string ⟨x.toArray⟩ from rfl, show Go.Proofs.encStr y = Value.string ⟨y.toArray⟩ from rfl, (NeqAt.string P T).1 ⟨x.toArray⟩ ⟨y.toArray⟩ w]
  show Result.ok (Value.bool (!((ByteArray.mk x.toArray).toList == (ByteArray.mk y.toArray).toList))) w = Result.ok (Value.bool (!decide (x = y))) w
  rw [Lib.toList_data, Lib.toList_data]
  by_cases h : x = y <;> simp [h]

set_option maxHeartbeats 4000000 in
theorem implSubformulasOf_v (x0 : List Nd) (v : Value) (lo hi : Nat) (w : World) (hl : x0.length ≤ 1048576) (h : InN w lo hi v x0) :
    Calls Try.prog 42 #[v] w fun e w' => ∃ v', e = .returned (.tuple #[v', .int .i64 (suC x0)]) ∧ OwnS w' w.heap.size v' (suR x0) ∧ Below w.heap.size w w' := by
  obtain ⟨a, cap, rfl, hat, hc1, hc2⟩ := h.at'
  have H := Lib.hid hat
  cases hb : isB x0 x0.length
  · obtain ⟨e1, e2⟩ := su_bad hb
    rw [e1, e2]
    have HB := Lib.hid hb
    clear hb e1 e2 h hat
    go_enter Try.func42, Try.ntmps42
    go_wp2_with (go_at_call 54; refine (implIsF_any _ _ _ _ _ hl H.out).mono ?_; rw [HB.out]; rintro e w' ⟨rfl, hb⟩)
    go_ret2
    exact ⟨_, rfl, ownS_nil _ _, hb⟩
  · obtain ⟨e1, e2⟩ := su_good hb
    rw [e1, e2]
    obtain ⟨b, off, rfl, -⟩ := hat.formula hb hc1 hc2
    have h40 := (is_pos' hb).2
    have h0 := (is_pos' hb).1
    have HB := Lib.hid hb
    clear hb e1 e2 h hat
    obtain ⟨len, hlen⟩ : ∃ len, len = x0.length := ⟨_, rfl⟩
    have LN := Lib.hid hlen
    rw [← hlen] at H hl hc1 h40 h0 ⊢
    have HB2 : Hid (isB x0 len = true) := by show isB x0 len = true; rw [hlen]; exact HB.out
    clear hlen
    unfold maxLen at hc2
    obtain ⟨i0, hi0, hz0, hz1, hz2⟩ := info_parts infoStr
    go_enter Try.func42, Try.ntmps42
    go_wp2_with fail
    refine (implIsF_any _ _ _ _ _ hl H.out).mono ?_
    rw [HB2.out]
    rintro e w0 ⟨rfl, hb0⟩
    have B0 := Lib.hid hb0
    clear hb0
    go_wp2_with (at_make; refine wpList_make_own _ rfl _ _ 49 rfl w.heap.size 9 i0 (.string ⟨#[]⟩) 1 Try.underlying49 hi0 hz0 hz1 _ _ _ len rfl rfl rfl ?b2 ?b3 B0.out.size ?_)
    case b2 => rw [hz2]; omega
    case b3 => unfold maxLen; omega
    intro wm hown0 hgr0
    have OM := Lib.hid hown0
    have BM := Lib.hid (B0.out.grown hgr0 B0.out.size (fun k h => by cases h))
    clear hown0 hgr0 hi0 hz0 hz1 hz2
    go_wp2
    go_loopw [4, 14] (fun v i wr => ∃ k : Nat, k ≤ len ∧ i = .int .i64 k ∧ OwnS wr w.heap.size v (tls x0 k) ∧ Below w.heap.size w wr) (fun _ i _ => len - (intOf i).toNat)
    case atStart => exact ⟨0, Nat.zero_le _, rfl, OM.out, BM.out⟩
    case round =>
      obtain ⟨k, hk, rfl, hown, hbel⟩ := hrel
      have O := Lib.hid hown
      have BL := Lib.hid hbel
      clear hown hbel
      by_cases hlt : k < len
      · obtain ⟨hok, r, he⟩ := fmAt_of HB.out (show k < x0.length by rw [← LN.out]; exact hlt)
        have hpe := pe_end (fmAt x0 k) hok he
        rw [← LN.out] at hpe
        have hat := H.out.keep BL.out (Nat.le_refl _)
        obtain ⟨hkl, hF⟩ := hat.part hc1 (by unfold maxLen; omega) he
        have AT := Lib.hid hat
        have HF := Lib.hid hF
        have OK := Lib.hid hok
        have HP := Lib.hid hpe
        obtain ⟨z, hz⟩ : ∃ z, z = (fmAt x0 k).sz := ⟨_, rfl⟩
        rw [← hz] at HP HF hkl
        have hzp : 0 < z := by rw [hz]; exact Fm.sz_pos _
        clear hpe hat hF hok he hz
        go_wp2_with fail
        refine (partEnd_any x0 _ _ _ k _ _ (by omega) (by omega) AT.out HP.out (by omega)).mono ?_
        rintro e w' ⟨rfl, rfl⟩
        have hcne : ¬ cap = k := by omega
        have hkz : k + z - k = z := by omega
        go_wp2_with fail
        rw [hkz]
        have hcall := textOf_any (fmAt x0 k) OK.out b (off + k * 2) z (cap - k) wr (by omega) HF.out
        obtain ⟨S, hS⟩ : ∃ S, S = stx (txAt x0 k) := ⟨_, rfl⟩
        have HS := Lib.hid hS
        rw [show (⟨((fmAt x0 k).wr 0).toArray⟩ : ByteArray) = S from hS.symm] at hcall
        clear hS
        refine hcall.mono ?_
        clear hcall
        rintro e w1 ⟨rfl, hb1⟩
        have B1 := Lib.hid (BL.out.trans (hb1.mono BL.out.size))
        have O1 : Hid (OwnS w1 w.heap.size u4 (tls x0 k)) := by
          refine World.ownsRow.kept O.out (row := none) ⟨hb1.os, hb1.tape, hb1.output, hb1.size, fun i hi _ => hb1.block i hi⟩ ?_
          cases hv : u4.ownBlock with
          | none => exact .inl rfl
          | some q => right; intro e; cases e
        have B1a := Lib.hid (B1.out.alloc B1.out.size (.cells #[.string S] 9))
        have S2 : Hid (AtS (w1.alloc (.cells #[.string S] 9)) (some ⟨w1.heap.size, 0, none⟩) 1 [txAt x0 k]) := ⟨rfl, .inr ⟨w1.heap.size, 0, rfl, by simp, fun j hj => by obtain rfl : j = 0 := (by omega); rw [show stx (nthS [txAt x0 k] 0) = S from HS.out.symm]; exact World.cell?_alloc_at _ _ _ _ rfl⟩⟩
        have O1a := Lib.hid (show OwnS (w1.alloc (.cells #[.string S] 9)) w.heap.size u4 _ from World.ownsRow.alloc O1.out _)
        clear hb1
        go_wp2_with (at_builtin; refine list_appS rfl _ _ rfl w.heap.size u4 _ rfl O1a.out [txAt x0 k] ⟨w1.heap.size, 0, none⟩ 1 1 rfl S2.out.1 S2.out.news0 (by rw [tls_len]; omega) B1a.out.size ?_)
        intro v2 w2 ho2 hg2
        have B2 := Lib.hid (B1a.out.grown hg2 B1a.out.size (fun k hk => OwnS.ge O1a.out k hk))
        have O2 : Hid (OwnS w2 w.heap.size v2 (tls x0 (k + 1))) := by show OwnS _ _ _ _; rw [tls_succ]; exact ho2
        clear ho2 hg2
        go_wp2
        go_roundw
        case rel => exact ⟨k + 1, hlt, by go_num, O2.out, B2.out⟩
        case measure => simp [intOf]; omega
      · obtain rfl : k = len := by omega
        obtain ⟨g, c, hv, hg1, hnc⟩ : ∃ g c, u4 = .slice (some ⟨g, 0, none⟩) k c ∧ g < wr.heap.size ∧ k ≤ c := by
          rcases O.out.2 with ⟨-, h2⟩ | ⟨g, c, cur, hv, hgB, hh, hnc, -⟩
          · rw [tls_len] at h2; omega
          · rw [tls_len] at hv hnc; exact ⟨g, c, hv, (Array.getElem?_eq_some_iff.1 hh).1, hnc⟩
        subst hv
        have hrow : wr.ownsRow w.heap.size 9 1 (.slice (some ⟨g, 0, none⟩) k c) k ((tls x0 k).map Go.Proofs.encStr) := by
          have := O.out
          unfold OwnS at this
          rw [tls_len] at this
          exact this
        have RW := Lib.hid hrow
        have hcall := AnyM.slices_Sort_string sortS g 0 c (tls x0 k) wr (holds_of_own Go.Proofs.encStr (tls_len x0 k) hrow) hg1 (by rw [tls_len]; omega)
        rw [tls_len] at hcall
        change Calls Try.prog 76 _ _ _ at hcall
        have SC := Lib.hid hcall
        clear hcall hrow
        obtain ⟨s, hs⟩ : ∃ s, s = srt x0 k := ⟨_, rfl⟩
        have hsl : s.length = k := by rw [hs, srt_len]
        have HSR : Hid ((tls x0 k).mergeSort (fun x y => decide (x ≤ y)) = s) := by show _ = s; rw [hs]; rfl
        have HSU : Hid (compactUpTo s.toArray k = suL x0 k) := by show _ = _; rw [hs]; rfl
        have HSL := Lib.hid hsl
        clear hs hsl
        go_wp2_with fail
        refine SC.out.mono ?_
        rw [HSR.out]
        rintro e w1 ⟨rfl, q, os, hw1⟩
        have hp := own_put Go.Proofs.encStr RW.out s HSL.out q os
        rw [← hw1] at hp
        have O1 := Lib.hid hp.1
        have B1 := Lib.hid (BL.out.grown hp.2 BL.out.size (fun k hk => by cases hk; exact (RW.out.lt _ rfl).1))
        clear hp hw1
        have hcall2 := AnyE.slices_Compact compactS Go.Proofs.encStr (fun _ => rfl) (eqlStr _ _) (neqStr _ _) [] (fun w => Try.zeroValue9 w) g 0 c s.toArray w1 (holds_of_own Go.Proofs.encStr HSL.out O1.out) (by simp [HSL.out]; omega) (by simp [HSL.out]; omega)
        rw [show s.toArray.size = k from HSL.out] at hcall2
        change Calls Try.prog 77 _ _ _ at hcall2
        rw [HSU.out] at hcall2
        have CC := Lib.hid hcall2
        clear hcall2
        obtain ⟨m, hm⟩ : ∃ m, m = (suL x0 k).length := ⟨_, rfl⟩
        rw [← hm] at CC
        have HM := Lib.hid hm
        have hmn : m ≤ k := by rw [hm]; exact suL_len x0 k
        clear hm
        go_wp2_with fail
        refine CC.out.mono ?_
        rintro e w2 ⟨rfl, q2, hw2⟩
        have hp2 := own_put Go.Proofs.encStr O1.out (suL x0 k ++ List.replicate (k - m) []) (by simp [← HM.out]; omega) q2 #[]
        rw [grow_empty, ← hw2] at hp2
        have B2 := Lib.hid (B1.out.grown hp2.2 B1.out.size (fun k hk => by cases hk; exact (O1.out.lt _ rfl).1))
        have O2 := Lib.hid (own_cut hp2.1 m hmn)
        clear hp2 hw2
        go_wp2
        go_ret2
        refine ⟨_, rfl, ?_, B2.out⟩
        unfold OwnS
        rw [← HM.out]
        have h3 := O2.out
        rw [List.map_append, List.take_left' (by simp [← HM.out])] at h3
        exact h3

end Go.Proofs.Ytegdbcdffnopfaa
