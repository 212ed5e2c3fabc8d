/- 2 texts in one: MqV, SqF. -/
import Derived.Test.YtpccocmiadpgiaaSdT
import Derived.Test.YtpccocmiadpgiaaJn04
import Derived.Test.YtpccocmiadpgiaaJn08
/- IsModalSequent of both sides. Conditions: those in the theorems. -/
namespace Go.Proofs.Ytpccocmiadpgiaa
open Go.RowKit

/-- A list of texts is small. -/
def SmL (ss : List (List UInt8)) : Prop := ss.length ≤ 1048576 ∧ ∀ j, j < ss.length → (nthS ss j).length ≤ 1048576
theorem SmS.smL {left : Int} {ss : List (List UInt8)} (h : SmS left ss) (hl : left ≤ 1048576) : SmL ss := ⟨by have := h.1; omega, fun j hj => by have := h.2 j hj; omega⟩
/-- Two lists of texts are the sides of a modal sequent. -/
noncomputable def mqB (ls rs : List (List UInt8)) : Bool := sdB ls && sdB rs

set_option maxHeartbeats 2000000 in
theorem l11Is_any (ls rs : List (List UInt8)) (a : Option Addr) (cap : Nat) (b : Option Addr) (d : Nat) (w : World) (hl : SmL ls) (hr : SmL rs) (h : AtS w a ls.length ls) (h' : AtS w b rs.length rs) :
    Calls Try.prog 22 #[.agg #[.slice a ls.length cap, .slice b rs.length d]] w fun e w' => e = .returned (.bool (mqB ls rs)) ∧ Below w.heap.size w w' := by
  obtain ⟨W, hW⟩ : ∃ W, W = w.alloc (.cells #[.slice a ls.length cap, .slice b rs.length d] 28) := ⟨_, rfl⟩
  have HB := Lib.hid (show Below w.heap.size w W by rw [hW]; exact (Below.refl _ _).alloc (Nat.le_refl _) _)
  have X := Lib.hid (show Bq W w.heap.size a ls.length cap b rs.length d by rw [hW]; exact Bq.new _ _ _ _ _ _ _ _)
  have CL := Lib.hid (l11Side_any ls a cap W hl.1 hl.2 (h.keep HB.out (Nat.le_refl _)))
  have CR := Lib.hid (fun W' (hW' : Below w.heap.size w W') => l11Side_any rs b d W' hr.1 hr.2 (h'.keep hW' (Nat.le_refl _)))
  have HW := Lib.hid hW
  have R := Lib.hid (show mqB ls rs = (sdB ls && sdB rs) from rfl)
  clear h h' hW
  obtain ⟨l, hl2⟩ : ∃ l, l = sdB ls := ⟨_, rfl⟩
  obtain ⟨r, hr2⟩ : ∃ r, r = sdB rs := ⟨_, rfl⟩
  rw [← hl2, ← hr2] at R
  rw [← hl2] at CL
  rw [← hr2] at CR
  clear hl2 hr2
  go_enter Try.func22, Try.ntmps22
  go_wp2_with fail
  rw [← HW.out]
  refine CL.out.mono ?_
  rintro e w1 ⟨rfl, hb⟩
  have B1 := Lib.hid (HB.out.trans (hb.mono HB.out.size))
  obtain ⟨lt, x0, x1⟩ := X.out.keep hb
  clear hb
  cases l with
  | false =>
    go_wp2
    go_ret
    exact ⟨by rw [R.out]; rfl, B1.out⟩
  | true =>
    go_wp2_with (go_at_call 38; refine (CR.out _ B1.out).mono ?_; rintro e w2 ⟨rfl, hb⟩; have B2 := Lib.hid (B1.out.trans (hb.mono B1.out.size)); clear hb)
    go_ret
    exact ⟨by rw [R.out, Bool.true_and]; rfl, B2.out⟩

set_option maxHeartbeats 2000000 in
theorem specIsModalSequent_any (ls rs : List (List UInt8)) (a : Option Addr) (cap : Nat) (b : Option Addr) (d : Nat) (w : World) (hl : SmL ls) (hr : SmL rs) (h : AtS w a ls.length ls) (h' : AtS w b rs.length rs) :
    Calls Try.prog 9 #[.agg #[.slice a ls.length cap, .slice b rs.length d]] w fun e w' => e = .returned (.bool (mqB ls rs)) ∧ Below w.heap.size w w' := by
  obtain ⟨W, hW⟩ : ∃ W, W = w.alloc (.cells #[.slice a ls.length cap, .slice b rs.length d] 28) := ⟨_, rfl⟩
  have HB := Lib.hid (show Below w.heap.size w W by rw [hW]; exact (Below.refl _ _).alloc (Nat.le_refl _) _)
  have CL := Lib.hid (l11Is_any ls rs a cap b d W hl hr (h.keep HB.out (Nat.le_refl _)) (h'.keep HB.out (Nat.le_refl _)))
  have HW := Lib.hid hW
  clear h h' hW
  go_enter Try.func9, Try.ntmps9
  go_wp2_with fail
  rw [← HW.out]
  refine CL.out.mono ?_
  rintro e w1 ⟨rfl, hb⟩
  have B1 := Lib.hid (HB.out.trans (hb.mono HB.out.size))
  clear hb
  go_wp2
  go_ret
  exact ⟨rfl, B1.out⟩

set_option maxHeartbeats 2000000 in
theorem implIsModalSequent_any (ls rs : List (List UInt8)) (a : Option Addr) (cap : Nat) (b : Option Addr) (d : Nat) (w : World) (hl : SmL ls) (hr : SmL rs) (h : AtS w a ls.length ls) (h' : AtS w b rs.length rs) :
    Calls Try.prog 11 #[.agg #[.slice a ls.length cap, .slice b rs.length d]] w fun e w' => e = .returned (.bool (mqB ls rs)) ∧ Below w.heap.size w w' := by
  obtain ⟨W, hW⟩ : ∃ W, W = w.alloc (.cells #[.slice a ls.length cap, .slice b rs.length d] 28) := ⟨_, rfl⟩
  have HB := Lib.hid (show Below w.heap.size w W by rw [hW]; exact (Below.refl _ _).alloc (Nat.le_refl _) _)
  have X := Lib.hid (show Bq W w.heap.size a ls.length cap b rs.length d by rw [hW]; exact Bq.new _ _ _ _ _ _ _ _)
  have CL := Lib.hid (isSide_any ls a cap W hl.1 hl.2 (h.keep HB.out (Nat.le_refl _)))
  have CR := Lib.hid (fun W' (hW' : Below w.heap.size w W') => isSide_any rs b d W' hr.1 hr.2 (h'.keep hW' (Nat.le_refl _)))
  have HW := Lib.hid hW
  have R := Lib.hid (show mqB ls rs = (sdB ls && sdB rs) from rfl)
  clear h h' hW
  obtain ⟨l, hl2⟩ : ∃ l, l = sdB ls := ⟨_, rfl⟩
  obtain ⟨r, hr2⟩ : ∃ r, r = sdB rs := ⟨_, rfl⟩
  rw [← hl2, ← hr2] at R
  rw [← hl2] at CL
  rw [← hr2] at CR
  clear hl2 hr2
  go_enter Try.func11, Try.ntmps11
  go_wp2_with fail
  rw [← HW.out]
  refine CL.out.mono ?_
  rintro e w1 ⟨rfl, hb⟩
  have B1 := Lib.hid (HB.out.trans (hb.mono HB.out.size))
  obtain ⟨lt, x0, x1⟩ := X.out.keep hb
  clear hb
  cases l with
  | false =>
    go_wp2
    go_ret
    exact ⟨by rw [R.out]; rfl, B1.out⟩
  | true =>
    go_wp2_with (go_at_call 24; refine (CR.out _ B1.out).mono ?_; rintro e w2 ⟨rfl, hb⟩; have B2 := Lib.hid (B1.out.trans (hb.mono B1.out.size)); clear hb)
    go_ret
    exact ⟨by rw [R.out, Bool.true_and]; rfl, B2.out⟩

end Go.Proofs.Ytpccocmiadpgiaa

/- The formulas of a list of texts, as both sides read them. Conditions: those in the theorems. -/
namespace Go.Proofs.Ytpccocmiadpgiaa
open Go.RowKit

/-- The formulas of the first k texts. -/
def gsTo (ss : List (List UInt8)) (k : Nat) : List (List Nd) := (ss.take k).map fun t => pfZ (stx t)
theorem gsTo_len (ss : List (List UInt8)) {k : Nat} (h : k ≤ ss.length) : (gsTo ss k).length = k := by simp [gsTo]; omega
theorem gsTo_succ {ss : List (List UInt8)} {k : Nat} (h : k < ss.length) : gsTo ss (k + 1) = gsTo ss k ++ [pfZ (stx (nthS ss k))] := by
  have : nthS ss k = ss[k] := by simp [nthS, List.getD_eq_getElem?_getD, h]
  rw [gsTo, List.take_succ_eq_append_getElem h, List.map_append, this]; rfl
theorem gsTo_at {ss : List (List UInt8)} {n j : Nat} (h : j < n) (hn : n ≤ ss.length) : nthL (gsTo ss n) j = pfZ (stx (nthS ss j)) := by
  have hj : j < ss.length := by omega
  have : nthS ss j = ss[j] := by simp [nthS, List.getD_eq_getElem?_getD, hj]
  show (gsTo ss n).getD j [] = _
  rw [List.getD_eq_getElem?_getD, gsTo, List.getElem?_map, List.getElem?_take, if_pos h, List.getElem?_eq_getElem hj, this]; rfl

theorem litQ (w : World) (B : Nat) (hB : B ≤ w.heap.size) : OwnL (w.alloc (.cells #[] 32)) B (.slice (some ⟨w.heap.size, 0, none⟩) 0 0) [] :=
  ownL_row (World.ownsRow_made w #[] 0 hB (Nat.zero_le _) rfl)

set_option maxHeartbeats 2000000 in
theorem l11Read_any (ss : List (List UInt8)) (a : Option Addr) (cap : Nat) (w : World) (hl : ss.length ≤ 16) (hs : ∀ j, j < ss.length → (nthS ss j).length ≤ 1048576) (h : AtS w a ss.length ss) :
    Calls Try.prog 29 #[.slice a ss.length cap] w fun e w' => ∃ v, e = .returned v ∧ OwnL w' w.heap.size v (gsTo ss ss.length) ∧ Below w.heap.size w w' := by
  have H := Lib.hid h
  have HS := Lib.hid hs
  obtain ⟨N, hN⟩ : ∃ N, N = ss.length := ⟨_, rfl⟩
  have HN := Lib.hid hN
  have hl2 : N ≤ 16 := by omega
  have L0 := Lib.hid (litQ w w.heap.size (Nat.le_refl _))
  have B0 := Lib.hid ((Below.refl w.heap.size w).alloc (Nat.le_refl _) (.cells #[] 32))
  clear h hs
  rw [← hN]
  clear hN hl
  go_enter Try.func29, Try.ntmps29
  go_wp2
  go_loopw [3, 4] (fun v i wr => ∃ j : Nat, j ≤ N ∧ i = .int .i64 j ∧ OwnL wr w.heap.size v (gsTo ss j) ∧ Below w.heap.size w wr) (fun _ i _ => N - (intOf i).toNat)
  case atStart => exact ⟨0, Nat.zero_le _, rfl, L0.out, B0.out⟩
  case round =>
    obtain ⟨k, hk, rfl, hown, hbel⟩ := hrel
    have HO := Lib.hid hown
    have B := Lib.hid hbel
    have LN := Lib.hid (gsTo_len ss (k := k) (by have := HN.out; omega))
    clear hown hbel
    by_cases hlt : k < N
    · have SU := Lib.hid (gsTo_succ (ss := ss) (k := k) (by have := HN.out; omega))
      obtain ⟨b, off, rfl, hb, hc⟩ := H.out.2.resolve_left (by have := HN.out; omega)
      obtain ⟨t, ht⟩ : ∃ t, t = stx (nthS ss k) := ⟨_, rfl⟩
      have g1 : wr.cell? ⟨b, off + k, none⟩ = some (.string t) := by rw [ht]; exact (B.out.cell (p := ⟨b, off + k, none⟩) hb).trans (hc k (by have := HN.out; omega))
      have hts : (t.size : Int) ≤ 1048576 := by rw [ht, stx_size]; have := HS.out k (by have := HN.out; omega); omega
      rw [← ht] at SU
      clear hc ht
      go_wp2_with fail
      refine (l02Good_any t _ hts).mono ?_
      obtain ⟨g, hg⟩ : ∃ g, g = gdB t := ⟨_, rfl⟩
      rw [← hg]
      clear hg
      rintro e w1 ⟨v1, rfl, ho1, hb1⟩
      obtain ⟨a2, c2, rfl, -⟩ := ho1.at
      have O1 := Lib.hid ho1
      have B1 := Lib.hid hb1
      clear ho1 hb1
      go_wp2_with (at_builtin; refine list_appLL rfl _ _ rfl w.heap.size _ _ rfl HO.out B1.out _ _ O1.out ((Below.refl _ _).alloc (Nat.le_refl _) _) ⟨w1.heap.size, 0, none⟩ 1 rfl (World.cell?_alloc_at _ _ _ _ rfl) (by rw [LN.out]; omega) B.out.size ?_; intro v2 w2 ho2 hb2)
      have O2 := Lib.hid ho2
      have B2 := Lib.hid (B.out.trans hb2)
      clear ho2 hb2
      go_roundw
      case rel => exact ⟨k + 1, hlt, by go_num, by rw [SU.out]; exact O2.out, B2.out⟩
      case measure => simp [intOf]; omega
    · obtain rfl : k = N := by omega
      go_wp2
      go_ret
      exact ⟨_, rfl, HO.out, B.out⟩

set_option maxHeartbeats 2000000 in
theorem nodesOf_any (s : ByteArray) (w : World) (hs : (s.size : Int) ≤ 1048576) :
    Calls Try.prog 47 #[.string s] w fun e w' => ∃ v, e = .returned v ∧ OwnN w' w.heap.size v (pfZ s) ∧ Below w.heap.size w w' := by
  go_enter Try.func47, Try.ntmps47
  go_wp2_with fail
  refine (implParseFormula_v s _ hs).mono ?_
  rintro e w1 ⟨v, rfl, ho, hb⟩
  have HO := Lib.hid ho
  have HB := Lib.hid hb
  clear ho hb
  go_wp2
  go_ret
  exact ⟨_, rfl, HO.out, HB.out⟩

set_option maxHeartbeats 2000000 in
theorem allNodesOf_any (ss : List (List UInt8)) (a : Option Addr) (cap : Nat) (w : World) (hl : ss.length ≤ 16) (hs : ∀ j, j < ss.length → (nthS ss j).length ≤ 1048576) (h : AtS w a ss.length ss) :
    Calls Try.prog 31 #[.slice a ss.length cap] w fun e w' => ∃ v, e = .returned v ∧ OwnL w' w.heap.size v (gsTo ss ss.length) ∧ Below w.heap.size w w' := by
  obtain ⟨i0, hinf, hz0, hz1, hz2⟩ := info_parts infoNN
  have H := Lib.hid h
  have HS := Lib.hid hs
  obtain ⟨N, hN⟩ : ∃ N, N = ss.length := ⟨_, rfl⟩
  have HN := Lib.hid hN
  have hl2 : N ≤ 16 := by omega
  clear h hs
  rw [← hN]
  clear hN hl
  go_enter Try.func31, Try.ntmps31
  go_wp2_with (at_make; refine wpList_make_own _ rfl _ _ 50 rfl w.heap.size 32 i0 (.slice none 0 0) 1 Try.underlying50 hinf hz0 hz1 _ _ _ N rfl rfl rfl ?b2 ?b3 (Nat.le_refl _) ?_)
  case b2 => rw [hz2]; omega
  case b3 => unfold maxLen; omega
  intro w0 hown0 hgrow0
  have L0 : Hid (OwnL w0 w.heap.size _ (gsTo ss 0)) := ownL_row hown0
  have B0 := Lib.hid ((Below.refl w.heap.size w).grown hgrow0 (Nat.le_refl _) (fun k h => by cases h))
  clear hown0 hinf hz0 hz1 hz2 hgrow0
  go_wp2
  go_loopw [3, 11] (fun v i wr => ∃ j : Nat, j ≤ N ∧ i = .int .i64 j ∧ OwnL wr w.heap.size v (gsTo ss j) ∧ Below w.heap.size w wr) (fun _ i _ => N - (intOf i).toNat)
  case atStart => exact ⟨0, Nat.zero_le _, rfl, L0.out, B0.out⟩
  case round =>
    obtain ⟨k, hk, rfl, hown, hbel⟩ := hrel
    have HO := Lib.hid hown
    have B := Lib.hid hbel
    have LN := Lib.hid (gsTo_len ss (k := k) (by have := HN.out; omega))
    clear hown hbel
    by_cases hlt : k < N
    · have SU := Lib.hid (gsTo_succ (ss := ss) (k := k) (by have := HN.out; omega))
      obtain ⟨b, off, rfl, hb, hc⟩ := H.out.2.resolve_left (by have := HN.out; omega)
      obtain ⟨t, ht⟩ : ∃ t, t = stx (nthS ss k) := ⟨_, rfl⟩
      have g1 : wr.cell? ⟨b, off + k, none⟩ = some (.string t) := by rw [ht]; exact (B.out.cell (p := ⟨b, off + k, none⟩) hb).trans (hc k (by have := HN.out; omega))
      have hts : (t.size : Int) ≤ 1048576 := by rw [ht, stx_size]; have := HS.out k (by have := HN.out; omega); omega
      rw [← ht] at SU
      clear hc ht
      go_wp2_with fail
      refine (nodesOf_any t _ hts).mono ?_
      rintro e w1 ⟨v1, rfl, ho1, hb1⟩
      obtain ⟨a2, c2, rfl, -⟩ := ho1.at
      have O1 := Lib.hid ho1
      have B1 := Lib.hid hb1
      clear ho1 hb1
      go_wp2_with (at_builtin; refine list_appLL rfl _ _ rfl w.heap.size _ _ rfl HO.out B1.out _ _ O1.out ((Below.refl _ _).alloc (Nat.le_refl _) _) ⟨w1.heap.size, 0, none⟩ 1 rfl (World.cell?_alloc_at _ _ _ _ rfl) (by rw [LN.out]; omega) B.out.size ?_; intro v2 w2 ho2 hb2)
      have O2 := Lib.hid ho2
      have B2 := Lib.hid (B.out.trans hb2)
      clear ho2 hb2
      go_roundw
      case rel => exact ⟨k + 1, hlt, by go_num, by rw [SU.out]; exact O2.out, B2.out⟩
      case measure => simp [intOf]; omega
    · obtain rfl : k = N := by omega
      go_wp2
      go_ret
      exact ⟨_, rfl, HO.out, B.out⟩

end Go.Proofs.Ytpccocmiadpgiaa
