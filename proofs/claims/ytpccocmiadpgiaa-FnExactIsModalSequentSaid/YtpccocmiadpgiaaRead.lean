/- The model's reader of formulas: each of its functions reads as the grammar does. Conditions: those in the theorems. -/
import Derived.Test.YtpccocmiadpgiaaJn13
import Derived.Test.YtpccocmiadpgiaaJn02
namespace Go.Proofs.Ytpccocmiadpgiaa
open Go.RowKit

def letters : ByteArray := { data := #[112, 113, 114, 115, 116, 117] }
theorem letters_at : ∀ (v : Nat) (h : v < letters.size), (letters[v]'h).toNat = 112 + v := by
  intro v h
  have h6 : v < 6 := h
  match v, h6 with
  | 0, _ => rfl
  | 1, _ => rfl
  | 2, _ => rfl
  | 3, _ => rfl
  | 4, _ => rfl
  | 5, _ => rfl
theorem grown_new {w a b : World} {R : Nat} (h : w.grownBy a (some R)) (hb : Below a.heap.size a b) : w.grownBy b (some R) :=
  ⟨hb.os.trans h.os, hb.tape.trans h.tape, hb.output.trans h.output, Nat.le_trans h.size hb.size, fun k hk hd => (hb.block k (Nat.lt_of_lt_of_le hk h.size)).trans (h.block k hk hd)⟩

def BadO (s : List UInt8) (R k : Nat) (w : World) (e : Ending) (w' : World) : Prop :=
  ∃ v, e = .returned v ∧ OwnN w' w.heap.size v [(1, 0)] ∧ Rd w' R s k true ∧ w.grownBy w' (some R)

set_option maxHeartbeats 1000000 in
theorem prefix_bad (s : List UInt8) (R k : Nat) (w : World) (h : Rd w R s k true) :
    Calls Try.prog 96 #[.pointer (some ⟨R, 0, none⟩)] w (BadO s R k w) := by
  have H := Lib.hid h
  clear h
  go_enter Try.func96, Try.ntmps96
  go_wp2
  go_loopw [4] (fun i wr => ∃ v : Nat, v ≤ 6 ∧ i = .int .i64 v ∧ Rd wr R s k true ∧ w.grownBy wr (some R)) (fun i _ => 6 - (intOf i).toNat)
  case atStart => exact ⟨0, Nat.zero_le _, rfl, H.out, World.grownBy.refl _ _⟩
  case round =>
    obtain ⟨v, hv, rfl, hrd, hgr⟩ := hrel
    by_cases hlt : v < 6
    · go_wp2_with fail
      refine (take_bad s R k _ _ hrd).mono ?_
      rintro e w1 ⟨rfl, h1, g1⟩
      have H1 := Lib.hid h1
      have G1 := Lib.hid (grown_trans hgr g1)
      clear hrd h1 g1 hgr
      go_wp2
      go_roundw
      case rel => exact ⟨v + 1, hlt, by go_num, H1.out, G1.out⟩
      case measure => simp [intOf]; omega
    · obtain rfl : v = 6 := by omega
      have H0 := Lib.hid hrd
      have G0 := Lib.hid hgr
      clear hrd hgr
      go_wp2_with fail
      refine (take_bad s R k 70 _ H0.out).mono ?_
      rintro e w1 ⟨rfl, h1, g1⟩
      have H1 := Lib.hid h1
      have G1 := Lib.hid (grown_trans G0.out g1)
      clear h1 g1 H0 G0
      go_wp2_with fail
      refine (take_bad s R k 84 _ H1.out).mono ?_
      rintro e w2 ⟨rfl, h1, g1⟩
      have H2 := Lib.hid h1
      have G2 := Lib.hid (grown_trans G1.out g1)
      clear h1 g1 H1 G1
      go_wp2_with fail
      refine (take_bad s R k 126 _ H2.out).mono ?_
      rintro e w3 ⟨rfl, h1, g1⟩
      have H3 := Lib.hid h1
      have G3 := Lib.hid (grown_trans G2.out g1)
      clear h1 g1 H2 G2
      go_wp2_with fail
      refine (take_bad s R k 91 _ H3.out).mono ?_
      rintro e w4 ⟨rfl, h1, g1⟩
      have H4 := Lib.hid h1
      have G4 := Lib.hid (grown_trans G3.out g1)
      clear h1 g1 H3 G3
      go_wp2_with fail
      refine (take_bad s R k 60 _ H4.out).mono ?_
      rintro e w5 ⟨rfl, h1, g1⟩
      have H5 := Lib.hid h1
      have G5 := Lib.hid (grown_trans G4.out g1)
      clear h1 g1 H4 G4
      go_wp2_with fail
      refine (take_bad s R k 40 _ H5.out).mono ?_
      rintro e w6 ⟨rfl, h1, g1⟩
      have H6 := Lib.hid h1
      have G6 := Lib.hid (grown_trans G5.out g1)
      clear h1 g1 H5 G5
      obtain ⟨c0, c1, c2, f1, f2⟩ := H6.out.cells
      have H7 := Lib.hid (H6.out.mark true)
      have G7 := Lib.hid (grown_trans G6.out (grown_set w6 R 2 (.bool true)))
      clear H6 G6
      go_wp2_with fail
      refine (l02False_any _).mono ?_
      rintro e w8 ⟨v8, rfl, ho, hb⟩
      have O8 := Lib.hid (ho.mono G7.out.size)
      have H8 := Lib.hid (H7.out.other hb)
      have G8 := Lib.hid (grown_new G7.out hb)
      clear ho hb H7 G7
      go_wp2
      go_ret
      exact ⟨_, rfl, O8.out, H8.out, G8.out⟩

/-- A row that lies behind the reader's block stays when only that block turns. -/
theorem own_kept {w w' : World} {B R : Nat} {v : Value} {zs : List Nd} (h : OwnN w B v zs) (hR : R < B) (hg : w.grownBy w' (some R)) : OwnN w' B v zs :=
  (h.inn.other (u := .slice (some ⟨R, 0, none⟩) 0 0) (lo' := R) (hi' := R + 1) (fun k hk => by cases hk; exact ⟨Nat.le_refl _, Nat.lt_succ_self _⟩) hg (.inr hR)).1

theorem and_bad (s : List UInt8) (R k : Nat) (w : World) (h : Rd w R s k true) :
    Calls Try.prog 90 #[.pointer (some ⟨R, 0, none⟩)] w (BadO s R k w) := by
  have hR := h.lt
  go_enter Try.func90, Try.ntmps90
  go_wp2_with fail
  refine (prefix_bad s R k _ h).mono ?_
  rintro e w1 ⟨v1, rfl, ho, h1, g1⟩
  have O1 := Lib.hid ho
  have H1 := Lib.hid h1
  have G1 := Lib.hid g1
  clear h ho h1 g1
  go_wp2
  refine wp_loop_rounds 1 ?_
  rw [rounds_succ]
  go_wp2_with fail
  refine (take_bad s R k 38 _ H1.out).mono ?_
  rintro e w2 ⟨rfl, h2, g2⟩
  have O2 := Lib.hid (own_kept O1.out hR g2)
  have H2 := Lib.hid h2
  have G2 := Lib.hid (grown_trans G1.out g2)
  clear O1 H1 G1 h2 g2
  go_wp2
  go_ret
  exact ⟨v1, rfl, O2.out, H2.out, G2.out⟩

theorem or_bad (s : List UInt8) (R k : Nat) (w : World) (h : Rd w R s k true) :
    Calls Try.prog 84 #[.pointer (some ⟨R, 0, none⟩)] w (BadO s R k w) := by
  have hR := h.lt
  go_enter Try.func84, Try.ntmps84
  go_wp2_with fail
  refine (and_bad s R k _ h).mono ?_
  rintro e w1 ⟨v1, rfl, ho, h1, g1⟩
  have O1 := Lib.hid ho
  have H1 := Lib.hid h1
  have G1 := Lib.hid g1
  clear h ho h1 g1
  go_wp2
  refine wp_loop_rounds 1 ?_
  rw [rounds_succ]
  go_wp2_with fail
  refine (take_bad s R k 124 _ H1.out).mono ?_
  rintro e w2 ⟨rfl, h2, g2⟩
  have O2 := Lib.hid (own_kept O1.out hR g2)
  have H2 := Lib.hid h2
  have G2 := Lib.hid (grown_trans G1.out g2)
  clear O1 H1 G1 h2 g2
  go_wp2
  go_ret
  exact ⟨v1, rfl, O2.out, H2.out, G2.out⟩

theorem imply_bad (s : List UInt8) (R k : Nat) (w : World) (h : Rd w R s k true) :
    Calls Try.prog 70 #[.pointer (some ⟨R, 0, none⟩)] w (BadO s R k w) := by
  have hR := h.lt
  go_enter Try.func70, Try.ntmps70
  go_wp2_with fail
  refine (or_bad s R k _ h).mono ?_
  rintro e w1 ⟨v1, rfl, ho, h1, g1⟩
  have O1 := Lib.hid ho
  have H1 := Lib.hid h1
  have G1 := Lib.hid g1
  clear h ho h1 g1
  go_wp2_with fail
  refine (take_bad s R k 62 _ H1.out).mono ?_
  rintro e w2 ⟨rfl, h2, g2⟩
  have O2 := Lib.hid (own_kept O1.out hR g2)
  have H2 := Lib.hid h2
  have G2 := Lib.hid (grown_trans G1.out g2)
  clear O1 H1 G1 h2 g2
  go_wp2
  go_ret
  exact ⟨v1, rfl, O2.out, H2.out, G2.out⟩

end Go.Proofs.Ytpccocmiadpgiaa
