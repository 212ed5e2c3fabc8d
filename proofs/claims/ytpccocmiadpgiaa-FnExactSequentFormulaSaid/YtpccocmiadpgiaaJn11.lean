/- 3 texts in one: DrawN, Take, Read. -/
import Derived.Test.YtpccocmiadpgiaaJn10
import Derived.Test.YtpccocmiadpgiaaJn02
import Derived.BigQuiet
import Derived.Test.YtpccocmiadpgiaaPs
/- Contracts of the drawing functions of the model's chapter 2: they return some list of nodes that is not long, whatever the code. Conditions: those in the theorems. -/
namespace Go.Proofs.Ytpccocmiadpgiaa
open Go.RowKit

theorem grown_of_below {w w' : World} (h : Below w.heap.size w w') (r : Option Nat) : w.grownBy w' r := ⟨h.os, h.tape, h.output, h.size, fun k hk _ => h.block k hk⟩
theorem OwnN.keepG {w w' : World} {B b : Nat} {v : Value} {xs : List Nd} (h : OwnN w B v xs) (hg : w.grownBy w' (some b)) (hb : b < B) : OwnN w' B v xs := by
  refine World.ownsRow.kept h hg ?_
  cases hv : v.ownBlock with
  | none => exact .inl rfl
  | some k =>
    right
    intro e
    have := (World.ownsRow.lt h k hv).1
    cases e
    omega
theorem l02Var_any (s : Int) (w : World) : Calls Try.prog 98 #[.int .i64 s] w fun e w' => ∃ v, e = .returned v ∧ OwnN w' w.heap.size v [(0, s)] ∧ Below w.heap.size w w' := by
  go_enter Try.func98, Try.ntmps98
  go_wp2
  go_ret
  exact ⟨_, rfl, litN w _ 0 s (Nat.le_refl _), (Below.refl _ _).alloc (Nat.le_refl _) _⟩

end Go.Proofs.Ytpccocmiadpgiaa

/- The reader of the model: its record in memory, and the contracts of the functions that read one byte. Conditions: those in the theorems. -/
namespace Go.Proofs.Ytpccocmiadpgiaa
open Go.RowKit

/-- The text with these bytes. -/
def sx (s : List UInt8) : ByteArray := ⟨s.toArray⟩
theorem sx_size (s : List UInt8) : (sx s).size = s.length := by simp [sx, ByteArray.size]
theorem sx_at {s : List UInt8} {k : Nat} {d : UInt8} (h : k < (sx s).size) (hd : s[k]? = some d) : (sx s)[k]'h = d := by
  have e : (sx s)[k]'h = (sx s).data[k]'h := rfl
  rw [e]
  have : (sx s).data[k]? = some d := by simpa [sx] using hd
  rw [Array.getElem?_eq_some_iff] at this
  exact this.2
/-- Block R holds the reader: the text s, the position k, the mark b. -/
def Rd (w : World) (R : Nat) (s : List UInt8) (k : Nat) (b : Bool) : Prop := w.heap[R]? = some (.cells #[.string (sx s), .int .i64 k, .bool b] 93 (0, 0))
theorem Rd.lt {w : World} {R : Nat} {s : List UInt8} {k : Nat} {b : Bool} (h : Rd w R s k b) : R < w.heap.size := (Array.getElem?_eq_some_iff.1 h).1
theorem Rd.other {w w' : World} {R : Nat} {s : List UInt8} {k : Nat} {b : Bool} (h : Rd w R s k b) (hb : Below w.heap.size w w') : Rd w' R s k b := by
  unfold Rd
  rw [hb.block R h.lt]
  exact h
theorem Rd.drew {w : World} {R : Nat} {s : List UInt8} {k : Nat} {b : Bool} (h : Rd w R s k b) : Rd w.drew R s k b := h
theorem Rd.cells {w : World} {R : Nat} {s : List UInt8} {k : Nat} {b : Bool} (h : Rd w R s k b) :
    w.cell? ⟨R, 0, none⟩ = some (.string (sx s)) ∧ w.cell? ⟨R, 1, none⟩ = some (.int .i64 k) ∧ w.cell? ⟨R, 2, none⟩ = some (.bool b) ∧ w.frozen? ⟨R, 1, none⟩ = false ∧ w.frozen? ⟨R, 2, none⟩ = false := by
  unfold Rd at h
  refine ⟨by simp [World.cell?, h], by simp [World.cell?, h], by simp [World.cell?, h], by simp [World.frozen?, h], by simp [World.frozen?, h]⟩
theorem Rd.at {w : World} {R : Nat} {s : List UInt8} {k : Nat} {b : Bool} (h : Rd w R s k b) (n : Nat) : Rd (w.setCell ⟨R, 1, none⟩ (.int .i64 n)) R s n b := src_set h 1 (.int .i64 n)
theorem Rd.mark {w : World} {R : Nat} {s : List UInt8} {k : Nat} {b : Bool} (h : Rd w R s k b) (c : Bool) : Rd (w.setCell ⟨R, 2, none⟩ (.bool c)) R s k c := src_set h 2 (.bool c)

/-- Does the byte c come next? -/
def nx (s : List UInt8) (k : Nat) (c : UInt8) : Bool := s[k]? == some c

set_option maxHeartbeats 1000000 in
theorem take_bad (s : List UInt8) (R k : Nat) (c : UInt8) (w : World) (h : Rd w R s k true) :
    Calls Try.prog 85 #[.pointer (some ⟨R, 0, none⟩), .int .u8 c.toNat] w fun e w' => e = .returned (.bool false) ∧ Rd w' R s k true ∧ w.grownBy w' (some R) := by
  obtain ⟨c0, c1, c2, f1, f2⟩ := h.cells
  have H := Lib.hid h
  clear h
  go_enter Try.func85, Try.ntmps85
  go_wp2
  go_quiet (fail)
  go_wp2
  go_ret
  exact ⟨rfl, H.out.drew, grown_drewN (World.grownBy.refl _ _) _⟩

set_option maxHeartbeats 1000000 in
theorem take_end (s : List UInt8) (R k : Nat) (c : UInt8) (w : World) (hk : k = s.length) (h : Rd w R s k false) :
    Calls Try.prog 85 #[.pointer (some ⟨R, 0, none⟩), .int .u8 c.toNat] w fun e w' => e = .returned (.bool false) ∧ Rd w' R s k false ∧ w.grownBy w' (some R) := by
  obtain ⟨c0, c1, c2, f1, f2⟩ := h.cells
  have H := Lib.hid h
  have hs := sx_size s
  have hlt : ¬ (k : Int) < ((sx s).size : Int) := by omega
  have hd : decide ((k : Int) < ((sx s).size : Int)) = false := decide_eq_false hlt
  clear h
  go_enter Try.func85, Try.ntmps85
  go_wp2
  go_quiet (fail)
  go_wp2
  go_ret
  exact ⟨rfl, H.out.drew, grown_drewN (World.grownBy.refl _ _) _⟩
set_option maxHeartbeats 1000000 in
theorem take_no (s : List UInt8) (R k : Nat) (c d : UInt8) (w : World) (hd : s[k]? = some d) (hne : d ≠ c) (h : Rd w R s k false) :
    Calls Try.prog 85 #[.pointer (some ⟨R, 0, none⟩), .int .u8 c.toNat] w fun e w' => e = .returned (.bool false) ∧ Rd w' R s k false ∧ w.grownBy w' (some R) := by
  obtain ⟨c0, c1, c2, f1, f2⟩ := h.cells
  have H := Lib.hid h
  have hs := sx_size s
  have hk : k < s.length := (List.getElem?_eq_some_iff.1 hd).1
  have hlt : (k : Int) < ((sx s).size : Int) := by omega
  have hk2 : k < (sx s).size := by omega
  have hb : ((((sx s)[k]'hk2).toNat : Int) == (c.toNat : Int)) = false := by
    rw [sx_at hk2 hd]
    exact beq_false_of_ne (fun h => hne (UInt8.toNat_inj.1 (by omega)))
  clear h hd
  go_enter Try.func85, Try.ntmps85
  go_wp2
  go_quiet (fail)
  go_wp2
  go_ret
  exact ⟨rfl, H.out.drew, grown_drewN (World.grownBy.refl _ _) _⟩
set_option maxHeartbeats 1000000 in
theorem take_yes (s : List UInt8) (R k : Nat) (c : UInt8) (w : World) (hl : s.length ≤ 4096) (hd : s[k]? = some c) (h : Rd w R s k false) :
    Calls Try.prog 85 #[.pointer (some ⟨R, 0, none⟩), .int .u8 c.toNat] w fun e w' => e = .returned (.bool true) ∧ Rd w' R s (k + 1) false ∧ w.grownBy w' (some R) := by
  obtain ⟨c0, c1, c2, f1, f2⟩ := h.cells
  have H := Lib.hid h
  have hs := sx_size s
  have hk : k < s.length := (List.getElem?_eq_some_iff.1 hd).1
  have hlt : (k : Int) < ((sx s).size : Int) := by omega
  have hk2 : k < (sx s).size := by omega
  have hb : ((((sx s)[k]'hk2).toNat : Int) == (c.toNat : Int)) = true := by
    rw [sx_at hk2 hd]
    exact beq_self_eq_true _
  clear h hd
  go_enter Try.func85, Try.ntmps85
  go_wp2
  go_quiet (fail)
  go_wp2
  go_ret
  exact ⟨rfl, H.out.drew.at (k + 1), grown_trans (grown_drewN (World.grownBy.refl _ _) _) (grown_set _ _ _ _)⟩

theorem take_fail (s : List UInt8) (R k : Nat) (c : UInt8) (w : World) (hk : k ≤ s.length) (hn : s[k]? ≠ some c) (h : Rd w R s k false) :
    Calls Try.prog 85 #[.pointer (some ⟨R, 0, none⟩), .int .u8 c.toNat] w fun e w' => e = .returned (.bool false) ∧ Rd w' R s k false ∧ w.grownBy w' (some R) := by
  by_cases e : k = s.length
  · exact take_end s R k c w e h
  · have hd : s[k]? = some (s[k]'(by omega)) := List.getElem?_eq_getElem (by omega)
    exact take_no s R k c _ w hd (fun h2 => hn (by rw [hd, h2])) h

theorem need_yes (s : List UInt8) (R k : Nat) (c : UInt8) (w : World) (hl : s.length ≤ 4096) (hd : s[k]? = some c) (h : Rd w R s k false) :
    Calls Try.prog 99 #[.pointer (some ⟨R, 0, none⟩), .int .u8 c.toNat] w fun e w' => (∃ v, e = .returned v) ∧ Rd w' R s (k + 1) false ∧ w.grownBy w' (some R) := by
  go_enter Try.func99, Try.ntmps99
  go_wp2_with fail
  refine (take_yes s R k c _ hl hd h).mono ?_
  rintro e w1 ⟨rfl, h1, g1⟩
  have H1 := Lib.hid h1
  clear h1
  go_wp2
  go_end0
  exact ⟨⟨_, rfl⟩, H1.out, g1⟩
theorem need_no (s : List UInt8) (R k : Nat) (c : UInt8) (w : World) (hk : k ≤ s.length) (hn : s[k]? ≠ some c) (h : Rd w R s k false) :
    Calls Try.prog 99 #[.pointer (some ⟨R, 0, none⟩), .int .u8 c.toNat] w fun e w' => (∃ v, e = .returned v) ∧ Rd w' R s k true ∧ w.grownBy w' (some R) := by
  go_enter Try.func99, Try.ntmps99
  go_wp2_with fail
  refine (take_fail s R k c _ hk hn h).mono ?_
  rintro e w1 ⟨rfl, h1, g1⟩
  obtain ⟨c0, c1, c2, f1, f2⟩ := h1.cells
  have H1 := Lib.hid h1
  clear h1
  go_wp2
  go_end0
  exact ⟨⟨_, rfl⟩, H1.out.mark true, grown_trans g1 (grown_set _ _ _ _)⟩
theorem need_bad (s : List UInt8) (R k : Nat) (c : UInt8) (w : World) (h : Rd w R s k true) :
    Calls Try.prog 99 #[.pointer (some ⟨R, 0, none⟩), .int .u8 c.toNat] w fun e w' => (∃ v, e = .returned v) ∧ Rd w' R s k true ∧ w.grownBy w' (some R) := by
  go_enter Try.func99, Try.ntmps99
  go_wp2_with fail
  refine (take_bad s R k c _ h).mono ?_
  rintro e w1 ⟨rfl, h1, g1⟩
  obtain ⟨c0, c1, c2, f1, f2⟩ := h1.cells
  have H1 := Lib.hid h1
  clear h1
  go_wp2
  go_end0
  exact ⟨⟨_, rfl⟩, H1.out.mark true, grown_trans g1 (grown_set _ _ _ _)⟩

end Go.Proofs.Ytpccocmiadpgiaa

/- The model's reader of formulas: each of its functions reads as the grammar does. Conditions: those in the theorems. -/
namespace Go.Proofs.Ytpccocmiadpgiaa
open Go.RowKit

def letters : ByteArray := { data := #[112, 113, 114, 115, 116, 117] }
theorem letters_at : ∀ (v : Nat) (h : v < letters.size), (letters[v]'h).toNat = 112 + v := by
  intro v h
  have h6 : v < 6 := h
  match v, h6 with
  | 0, _ => rfl
  | 1, _ => rfl
  | 2, _ => rfl
  | 3, _ => rfl
  | 4, _ => rfl
  | 5, _ => rfl
theorem grown_new {w a b : World} {R : Nat} (h : w.grownBy a (some R)) (hb : Below a.heap.size a b) : w.grownBy b (some R) :=
  ⟨hb.os.trans h.os, hb.tape.trans h.tape, hb.output.trans h.output, Nat.le_trans h.size hb.size, fun k hk hd => (hb.block k (Nat.lt_of_lt_of_le hk h.size)).trans (h.block k hk hd)⟩

def BadO (s : List UInt8) (R k : Nat) (w : World) (e : Ending) (w' : World) : Prop :=
  ∃ v, e = .returned v ∧ OwnN w' w.heap.size v [(1, 0)] ∧ Rd w' R s k true ∧ w.grownBy w' (some R)

set_option maxHeartbeats 1000000 in
theorem prefix_bad (s : List UInt8) (R k : Nat) (w : World) (h : Rd w R s k true) :
    Calls Try.prog 96 #[.pointer (some ⟨R, 0, none⟩)] w (BadO s R k w) := by
  have H := Lib.hid h
  clear h
  go_enter Try.func96, Try.ntmps96
  go_wp2
  go_loopw [4] (fun i wr => ∃ v : Nat, v ≤ 6 ∧ i = .int .i64 v ∧ Rd wr R s k true ∧ w.grownBy wr (some R)) (fun i _ => 6 - (intOf i).toNat)
  case atStart => exact ⟨0, Nat.zero_le _, rfl, H.out, World.grownBy.refl _ _⟩
  case round =>
    obtain ⟨v, hv, rfl, hrd, hgr⟩ := hrel
    by_cases hlt : v < 6
    · go_wp2_with fail
      refine (take_bad s R k _ _ hrd).mono ?_
      rintro e w1 ⟨rfl, h1, g1⟩
      have H1 := Lib.hid h1
      have G1 := Lib.hid (grown_trans hgr g1)
      clear hrd h1 g1 hgr
      go_wp2
      go_roundw
      case rel => exact ⟨v + 1, hlt, by go_num, H1.out, G1.out⟩
      case measure => simp [intOf]; omega
    · obtain rfl : v = 6 := by omega
      have H0 := Lib.hid hrd
      have G0 := Lib.hid hgr
      clear hrd hgr
      go_wp2_with fail
      refine (take_bad s R k 70 _ H0.out).mono ?_
      rintro e w1 ⟨rfl, h1, g1⟩
      have H1 := Lib.hid h1
      have G1 := Lib.hid (grown_trans G0.out g1)
      clear h1 g1 H0 G0
      go_wp2_with fail
      refine (take_bad s R k 84 _ H1.out).mono ?_
      rintro e w2 ⟨rfl, h1, g1⟩
      have H2 := Lib.hid h1
      have G2 := Lib.hid (grown_trans G1.out g1)
      clear h1 g1 H1 G1
      go_wp2_with fail
      refine (take_bad s R k 126 _ H2.out).mono ?_
      rintro e w3 ⟨rfl, h1, g1⟩
      have H3 := Lib.hid h1
      have G3 := Lib.hid (grown_trans G2.out g1)
      clear h1 g1 H2 G2
      go_wp2_with fail
      refine (take_bad s R k 91 _ H3.out).mono ?_
      rintro e w4 ⟨rfl, h1, g1⟩
      have H4 := Lib.hid h1
      have G4 := Lib.hid (grown_trans G3.out g1)
      clear h1 g1 H3 G3
      go_wp2_with fail
      refine (take_bad s R k 60 _ H4.out).mono ?_
      rintro e w5 ⟨rfl, h1, g1⟩
      have H5 := Lib.hid h1
      have G5 := Lib.hid (grown_trans G4.out g1)
      clear h1 g1 H4 G4
      go_wp2_with fail
      refine (take_bad s R k 40 _ H5.out).mono ?_
      rintro e w6 ⟨rfl, h1, g1⟩
      have H6 := Lib.hid h1
      have G6 := Lib.hid (grown_trans G5.out g1)
      clear h1 g1 H5 G5
      obtain ⟨c0, c1, c2, f1, f2⟩ := H6.out.cells
      have H7 := Lib.hid (H6.out.mark true)
      have G7 := Lib.hid (grown_trans G6.out (grown_set w6 R 2 (.bool true)))
      clear H6 G6
      go_wp2_with fail
      refine (l02False_any _).mono ?_
      rintro e w8 ⟨v8, rfl, ho, hb⟩
      have O8 := Lib.hid (ho.mono G7.out.size)
      have H8 := Lib.hid (H7.out.other hb)
      have G8 := Lib.hid (grown_new G7.out hb)
      clear ho hb H7 G7
      go_wp2
      go_ret
      exact ⟨_, rfl, O8.out, H8.out, G8.out⟩

/-- A row that lies behind the reader's block stays when only that block turns. -/
theorem own_kept {w w' : World} {B R : Nat} {v : Value} {zs : List Nd} (h : OwnN w B v zs) (hR : R < B) (hg : w.grownBy w' (some R)) : OwnN w' B v zs :=
  (h.inn.other (u := .slice (some ⟨R, 0, none⟩) 0 0) (lo' := R) (hi' := R + 1) (fun k hk => by cases hk; exact ⟨Nat.le_refl _, Nat.lt_succ_self _⟩) hg (.inr hR)).1

theorem and_bad (s : List UInt8) (R k : Nat) (w : World) (h : Rd w R s k true) :
    Calls Try.prog 90 #[.pointer (some ⟨R, 0, none⟩)] w (BadO s R k w) := by
  have hR := h.lt
  go_enter Try.func90, Try.ntmps90
  go_wp2_with fail
  refine (prefix_bad s R k _ h).mono ?_
  rintro e w1 ⟨v1, rfl, ho, h1, g1⟩
  have O1 := Lib.hid ho
  have H1 := Lib.hid h1
  have G1 := Lib.hid g1
  clear h ho h1 g1
  go_wp2
  refine wp_loop_rounds 1 ?_
  rw [rounds_succ]
  go_wp2_with fail
  refine (take_bad s R k 38 _ H1.out).mono ?_
  rintro e w2 ⟨rfl, h2, g2⟩
  have O2 := Lib.hid (own_kept O1.out hR g2)
  have H2 := Lib.hid h2
  have G2 := Lib.hid (grown_trans G1.out g2)
  clear O1 H1 G1 h2 g2
  go_wp2
  go_ret
  exact ⟨v1, rfl, O2.out, H2.out, G2.out⟩

theorem or_bad (s : List UInt8) (R k : Nat) (w : World) (h : Rd w R s k true) :
    Calls Try.prog 84 #[.pointer (some ⟨R, 0, none⟩)] w (BadO s R k w) := by
  have hR := h.lt
  go_enter Try.func84, Try.ntmps84
  go_wp2_with fail
  refine (and_bad s R k _ h).mono ?_
  rintro e w1 ⟨v1, rfl, ho, h1, g1⟩
  have O1 := Lib.hid ho
  have H1 := Lib.hid h1
  have G1 := Lib.hid g1
  clear h ho h1 g1
  go_wp2
  refine wp_loop_rounds 1 ?_
  rw [rounds_succ]
  go_wp2_with fail
  refine (take_bad s R k 124 _ H1.out).mono ?_
  rintro e w2 ⟨rfl, h2, g2⟩
  have O2 := Lib.hid (own_kept O1.out hR g2)
  have H2 := Lib.hid h2
  have G2 := Lib.hid (grown_trans G1.out g2)
  clear O1 H1 G1 h2 g2
  go_wp2
  go_ret
  exact ⟨v1, rfl, O2.out, H2.out, G2.out⟩

theorem imply_bad (s : List UInt8) (R k : Nat) (w : World) (h : Rd w R s k true) :
    Calls Try.prog 70 #[.pointer (some ⟨R, 0, none⟩)] w (BadO s R k w) := by
  have hR := h.lt
  go_enter Try.func70, Try.ntmps70
  go_wp2_with fail
  refine (or_bad s R k _ h).mono ?_
  rintro e w1 ⟨v1, rfl, ho, h1, g1⟩
  have O1 := Lib.hid ho
  have H1 := Lib.hid h1
  have G1 := Lib.hid g1
  clear h ho h1 g1
  go_wp2_with fail
  refine (take_bad s R k 62 _ H1.out).mono ?_
  rintro e w2 ⟨rfl, h2, g2⟩
  have O2 := Lib.hid (own_kept O1.out hR g2)
  have H2 := Lib.hid h2
  have G2 := Lib.hid (grown_trans G1.out g2)
  clear O1 H1 G1 h2 g2
  go_wp2
  go_ret
  exact ⟨v1, rfl, O2.out, H2.out, G2.out⟩

end Go.Proofs.Ytpccocmiadpgiaa
