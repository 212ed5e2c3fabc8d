/- 2 texts in one: DrawN, Take. -/
import Derived.Test.YtpccocmiadpgiaaJn12
import Derived.Test.YtpccocmiadpgiaaJn02
import Derived.BigQuiet
import Derived.Test.YtpccocmiadpgiaaPs
/- Contracts of the drawing functions of the model's chapter 2: they return some list of nodes that is not long, whatever the code. Conditions: those in the theorems. -/
namespace Go.Proofs.Ytpccocmiadpgiaa
open Go.RowKit

theorem grown_of_below {w w' : World} (h : Below w.heap.size w w') (r : Option Nat) : w.grownBy w' r := ⟨h.os, h.tape, h.output, h.size, fun k hk _ => h.block k hk⟩
theorem OwnN.keepG {w w' : World} {B b : Nat} {v : Value} {xs : List Nd} (h : OwnN w B v xs) (hg : w.grownBy w' (some b)) (hb : b < B) : OwnN w' B v xs := by
  refine World.ownsRow.kept h hg ?_
  cases hv : v.ownBlock with
  | none => exact .inl rfl
  | some k =>
    right
    intro e
    have := (World.ownsRow.lt h k hv).1
    cases e
    omega
theorem l02Var_any (s : Int) (w : World) : Calls Try.prog 98 #[.int .i64 s] w fun e w' => ∃ v, e = .returned v ∧ OwnN w' w.heap.size v [(0, s)] ∧ Below w.heap.size w w' := by
  go_enter Try.func98, Try.ntmps98
  go_wp2
  go_ret
  exact ⟨_, rfl, litN w _ 0 s (Nat.le_refl _), (Below.refl _ _).alloc (Nat.le_refl _) _⟩

end Go.Proofs.Ytpccocmiadpgiaa

/- The reader of the model: its record in memory, and the contracts of the functions that read one byte. Conditions: those in the theorems. -/
namespace Go.Proofs.Ytpccocmiadpgiaa
open Go.RowKit

/-- The text with these bytes. -/
def sx (s : List UInt8) : ByteArray := ⟨s.toArray⟩
theorem sx_size (s : List UInt8) : (sx s).size = s.length := by simp [sx, ByteArray.size]
theorem sx_at {s : List UInt8} {k : Nat} {d : UInt8} (h : k < (sx s).size) (hd : s[k]? = some d) : (sx s)[k]'h = d := by
  have e : (sx s)[k]'h = (sx s).data[k]'h := rfl
  rw [e]
  have : (sx s).data[k]? = some d := by simpa [sx] using hd
  rw [Array.getElem?_eq_some_iff] at this
  exact this.2
/-- Block R holds the reader: the text s, the position k, the mark b. -/
def Rd (w : World) (R : Nat) (s : List UInt8) (k : Nat) (b : Bool) : Prop := w.heap[R]? = some (.cells #[.string (sx s), .int .i64 k, .bool b] 93 (0, 0))
theorem Rd.lt {w : World} {R : Nat} {s : List UInt8} {k : Nat} {b : Bool} (h : Rd w R s k b) : R < w.heap.size := (Array.getElem?_eq_some_iff.1 h).1
theorem Rd.other {w w' : World} {R : Nat} {s : List UInt8} {k : Nat} {b : Bool} (h : Rd w R s k b) (hb : Below w.heap.size w w') : Rd w' R s k b := by
  unfold Rd
  rw [hb.block R h.lt]
  exact h
theorem Rd.drew {w : World} {R : Nat} {s : List UInt8} {k : Nat} {b : Bool} (h : Rd w R s k b) : Rd w.drew R s k b := h
theorem Rd.cells {w : World} {R : Nat} {s : List UInt8} {k : Nat} {b : Bool} (h : Rd w R s k b) :
    w.cell? ⟨R, 0, none⟩ = some (.string (sx s)) ∧ w.cell? ⟨R, 1, none⟩ = some (.int .i64 k) ∧ w.cell? ⟨R, 2, none⟩ = some (.bool b) ∧ w.frozen? ⟨R, 1, none⟩ = false ∧ w.frozen? ⟨R, 2, none⟩ = false := by
  unfold Rd at h
  refine ⟨by simp [World.cell?, h], by simp [World.cell?, h], by simp [World.cell?, h], by simp [World.frozen?, h], by simp [World.frozen?, h]⟩
theorem Rd.at {w : World} {R : Nat} {s : List UInt8} {k : Nat} {b : Bool} (h : Rd w R s k b) (n : Nat) : Rd (w.setCell ⟨R, 1, none⟩ (.int .i64 n)) R s n b := src_set h 1 (.int .i64 n)
theorem Rd.mark {w : World} {R : Nat} {s : List UInt8} {k : Nat} {b : Bool} (h : Rd w R s k b) (c : Bool) : Rd (w.setCell ⟨R, 2, none⟩ (.bool c)) R s k c := src_set h 2 (.bool c)

/-- Does the byte c come next? -/
def nx (s : List UInt8) (k : Nat) (c : UInt8) : Bool := s[k]? == some c

set_option maxHeartbeats 1000000 in
theorem take_bad (s : List UInt8) (R k : Nat) (c : UInt8) (w : World) (h : Rd w R s k true) :
    Calls Try.prog 85 #[.pointer (some ⟨R, 0, none⟩), .int .u8 c.toNat] w fun e w' => e = .returned (.bool false) ∧ Rd w' R s k true ∧ w.grownBy w' (some R) := by
  obtain ⟨c0, c1, c2, f1, f2⟩ := h.cells
  have H := Lib.hid h
  clear h
  go_enter Try.func85, Try.ntmps85
  go_wp2
  go_quiet (fail)
  go_wp2
  go_ret
  exact ⟨rfl, H.out.drew, grown_drewN (World.grownBy.refl _ _) _⟩

set_option maxHeartbeats 1000000 in
theorem take_end (s : List UInt8) (R k : Nat) (c : UInt8) (w : World) (hk : k = s.length) (h : Rd w R s k false) :
    Calls Try.prog 85 #[.pointer (some ⟨R, 0, none⟩), .int .u8 c.toNat] w fun e w' => e = .returned (.bool false) ∧ Rd w' R s k false ∧ w.grownBy w' (some R) := by
  obtain ⟨c0, c1, c2, f1, f2⟩ := h.cells
  have H := Lib.hid h
  have hs := sx_size s
  have hlt : ¬ (k : Int) < ((sx s).size : Int) := by omega
  have hd : decide ((k : Int) < ((sx s).size : Int)) = false := decide_eq_false hlt
  clear h
  go_enter Try.func85, Try.ntmps85
  go_wp2
  go_quiet (fail)
  go_wp2
  go_ret
  exact ⟨rfl, H.out.drew, grown_drewN (World.grownBy.refl _ _) _⟩
set_option maxHeartbeats 1000000 in
theorem take_no (s : List UInt8) (R k : Nat) (c d : UInt8) (w : World) (hd : s[k]? = some d) (hne : d ≠ c) (h : Rd w R s k false) :
    Calls Try.prog 85 #[.pointer (some ⟨R, 0, none⟩), .int .u8 c.toNat] w fun e w' => e = .returned (.bool false) ∧ Rd w' R s k false ∧ w.grownBy w' (some R) := by
  obtain ⟨c0, c1, c2, f1, f2⟩ := h.cells
  have H := Lib.hid h
  have hs := sx_size s
  have hk : k < s.length := (List.getElem?_eq_some_iff.1 hd).1
  have hlt : (k : Int) < ((sx s).size : Int) := by omega
  have hk2 : k < (sx s).size := by omega
  have hb : ((((sx s)[k]'hk2).toNat : Int) == (c.toNat : Int)) = false := by
    rw [sx_at hk2 hd]
    exact beq_false_of_ne (fun h => hne (UInt8.toNat_inj.1 (by omega)))
  clear h hd
  go_enter Try.func85, Try.ntmps85
  go_wp2
  go_quiet (fail)
  go_wp2
  go_ret
  exact ⟨rfl, H.out.drew, grown_drewN (World.grownBy.refl _ _) _⟩
set_option maxHeartbeats 1000000 in
theorem take_yes (s : List UInt8) (R k : Nat) (c : UInt8) (w : World) (hl : s.length ≤ 4096) (hd : s[k]? = some c) (h : Rd w R s k false) :
    Calls Try.prog 85 #[.pointer (some ⟨R, 0, none⟩), .int .u8 c.toNat] w fun e w' => e = .returned (.bool true) ∧ Rd w' R s (k + 1) false ∧ w.grownBy w' (some R) := by
  obtain ⟨c0, c1, c2, f1, f2⟩ := h.cells
  have H := Lib.hid h
  have hs := sx_size s
  have hk : k < s.length := (List.getElem?_eq_some_iff.1 hd).1
  have hlt : (k : Int) < ((sx s).size : Int) := by omega
  have hk2 : k < (sx s).size := by omega
  have hb : ((((sx s)[k]'hk2).toNat : Int) == (c.toNat : Int)) = true := by
    rw [sx_at hk2 hd]
    exact beq_self_eq_true _
  clear h hd
  go_enter Try.func85, Try.ntmps85
  go_wp2
  go_quiet (fail)
  go_wp2
  go_ret
  exact ⟨rfl, H.out.drew.at (k + 1), grown_trans (grown_drewN (World.grownBy.refl _ _) _) (grown_set _ _ _ _)⟩

theorem take_fail (s : List UInt8) (R k : Nat) (c : UInt8) (w : World) (hk : k ≤ s.length) (hn : s[k]? ≠ some c) (h : Rd w R s k false) :
    Calls Try.prog 85 #[.pointer (some ⟨R, 0, none⟩), .int .u8 c.toNat] w fun e w' => e = .returned (.bool false) ∧ Rd w' R s k false ∧ w.grownBy w' (some R) := by
  by_cases e : k = s.length
  · exact take_end s R k c w e h
  · have hd : s[k]? = some (s[k]'(by omega)) := List.getElem?_eq_getElem (by omega)
    exact take_no s R k c _ w hd (fun h2 => hn (by rw [hd, h2])) h

theorem need_yes (s : List UInt8) (R k : Nat) (c : UInt8) (w : World) (hl : s.length ≤ 4096) (hd : s[k]? = some c) (h : Rd w R s k false) :
    Calls Try.prog 99 #[.pointer (some ⟨R, 0, none⟩), .int .u8 c.toNat] w fun e w' => (∃ v, e = .returned v) ∧ Rd w' R s (k + 1) false ∧ w.grownBy w' (some R) := by
  go_enter Try.func99, Try.ntmps99
  go_wp2_with fail
  refine (take_yes s R k c _ hl hd h).mono ?_
  rintro e w1 ⟨rfl, h1, g1⟩
  have H1 := Lib.hid h1
  clear h1
  go_wp2
  go_end0
  exact ⟨⟨_, rfl⟩, H1.out, g1⟩
theorem need_no (s : List UInt8) (R k : Nat) (c : UInt8) (w : World) (hk : k ≤ s.length) (hn : s[k]? ≠ some c) (h : Rd w R s k false) :
    Calls Try.prog 99 #[.pointer (some ⟨R, 0, none⟩), .int .u8 c.toNat] w fun e w' => (∃ v, e = .returned v) ∧ Rd w' R s k true ∧ w.grownBy w' (some R) := by
  go_enter Try.func99, Try.ntmps99
  go_wp2_with fail
  refine (take_fail s R k c _ hk hn h).mono ?_
  rintro e w1 ⟨rfl, h1, g1⟩
  obtain ⟨c0, c1, c2, f1, f2⟩ := h1.cells
  have H1 := Lib.hid h1
  clear h1
  go_wp2
  go_end0
  exact ⟨⟨_, rfl⟩, H1.out.mark true, grown_trans g1 (grown_set _ _ _ _)⟩
theorem need_bad (s : List UInt8) (R k : Nat) (c : UInt8) (w : World) (h : Rd w R s k true) :
    Calls Try.prog 99 #[.pointer (some ⟨R, 0, none⟩), .int .u8 c.toNat] w fun e w' => (∃ v, e = .returned v) ∧ Rd w' R s k true ∧ w.grownBy w' (some R) := by
  go_enter Try.func99, Try.ntmps99
  go_wp2_with fail
  refine (take_bad s R k c _ h).mono ?_
  rintro e w1 ⟨rfl, h1, g1⟩
  obtain ⟨c0, c1, c2, f1, f2⟩ := h1.cells
  have H1 := Lib.hid h1
  clear h1
  go_wp2
  go_end0
  exact ⟨⟨_, rfl⟩, H1.out.mark true, grown_trans g1 (grown_set _ _ _ _)⟩

end Go.Proofs.Ytpccocmiadpgiaa
