/- The reader of the model: its record in memory, and the contracts of the functions that read one byte. Conditions: those in the theorems. -/
import Derived.BigQuiet
import Derived.Test.YtnoaaklkbfbdbaaPs
import Derived.Test.YtnoaaklkbfbdbaaDrawN
namespace Go.Proofs.Ytnoaaklkbfbdbaa
open Go.RowKit

/-- The text with these bytes. -/
def sx (s : List UInt8) : ByteArray := ⟨s.toArray⟩
theorem sx_size (s : List UInt8) : (sx s).size = s.length := by simp [sx, ByteArray.size]
theorem sx_at {s : List UInt8} {k : Nat} {d : UInt8} (h : k < (sx s).size) (hd : s[k]? = some d) : (sx s)[k]'h = d := by
  have e : (sx s)[k]'h = (sx s).data[k]'h := rfl
  rw [e]
  have : (sx s).data[k]? = some d := by simpa [sx] using hd
  rw [Array.getElem?_eq_some_iff] at this
  exact this.2
/-- Block R holds the reader: the text s, the position k, the mark b. -/
def Rd (w : World) (R : Nat) (s : List UInt8) (k : Nat) (b : Bool) : Prop := w.heap[R]? = some (.cells #[.string (sx s), .int .i64 k, .bool b] 130 (0, 0))
theorem Rd.lt {w : World} {R : Nat} {s : List UInt8} {k : Nat} {b : Bool} (h : Rd w R s k b) : R < w.heap.size := (Array.getElem?_eq_some_iff.1 h).1
theorem Rd.other {w w' : World} {R : Nat} {s : List UInt8} {k : Nat} {b : Bool} (h : Rd w R s k b) (hb : Below w.heap.size w w') : Rd w' R s k b := by
  unfold Rd
  rw [hb.block R h.lt]
  exact h
theorem Rd.drew {w : World} {R : Nat} {s : List UInt8} {k : Nat} {b : Bool} (h : Rd w R s k b) : Rd w.drew R s k b := h
theorem Rd.cells {w : World} {R : Nat} {s : List UInt8} {k : Nat} {b : Bool} (h : Rd w R s k b) :
    w.cell? ⟨R, 0, none⟩ = some (.string (sx s)) ∧ w.cell? ⟨R, 1, none⟩ = some (.int .i64 k) ∧ w.cell? ⟨R, 2, none⟩ = some (.bool b) ∧ w.frozen? ⟨R, 1, none⟩ = false ∧ w.frozen? ⟨R, 2, none⟩ = false := by
  unfold Rd at h
  refine ⟨by simp [World.cell?, h], by simp [World.cell?, h], by simp [World.cell?, h], by simp [World.frozen?, h], by simp [World.frozen?, h]⟩
theorem Rd.at {w : World} {R : Nat} {s : List UInt8} {k : Nat} {b : Bool} (h : Rd w R s k b) (n : Nat) : Rd (w.setCell ⟨R, 1, none⟩ (.int .i64 n)) R s n b := src_set h 1 (.int .i64 n)
theorem Rd.mark {w : World} {R : Nat} {s : List UInt8} {k : Nat} {b : Bool} (h : Rd w R s k b) (c : Bool) : Rd (w.setCell ⟨R, 2, none⟩ (.bool c)) R s k c := src_set h 2 (.bool c)

/-- Does the byte c come next? -/
def nx (s : List UInt8) (k : Nat) (c : UInt8) : Bool := s[k]? == some c

set_option maxHeartbeats 1000000 in
theorem take_bad (s : List UInt8) (R k : Nat) (c : UInt8) (w : World) (h : Rd w R s k true) :
    Calls Try.prog 126 #[.pointer (some ⟨R, 0, none⟩), .int .u8 c.toNat] w fun e w' => e = .returned (.bool false) ∧ Rd w' R s k true ∧ w.grownBy w' (some R) := by
  obtain ⟨c0, c1, c2, f1, f2⟩ := h.cells
  have H := Lib.hid h
  clear h
  go_enter Try.func126, Try.ntmps126
  go_wp2
  go_quiet (fail)
  go_wp2
  go_ret
  exact ⟨rfl, H.out.drew, grown_drewN (World.grownBy.refl _ _) _⟩

set_option maxHeartbeats 1000000 in
theorem take_end (s : List UInt8) (R k : Nat) (c : UInt8) (w : World) (hk : k = s.length) (h : Rd w R s k false) :
    Calls Try.prog 126 #[.pointer (some ⟨R, 0, none⟩), .int .u8 c.toNat] w fun e w' => e = .returned (.bool false) ∧ Rd w' R s k false ∧ w.grownBy w' (some R) := by
  obtain ⟨c0, c1, c2, f1, f2⟩ := h.cells
  have H := Lib.hid h
  have hs := sx_size s
  have hlt : ¬ (k : Int) < ((sx s).size : Int) := by omega
  have hd : decide ((k : Int) < ((sx s).size : Int)) = false := decide_eq_false hlt
  clear h
  go_enter Try.func126, Try.ntmps126
  go_wp2
  go_quiet (fail)
  go_wp2
  go_ret
  exact ⟨rfl, H.out.drew, grown_drewN (World.grownBy.refl _ _) _⟩
set_option maxHeartbeats 1000000 in
theorem take_no (s : List UInt8) (R k : Nat) (c d : UInt8) (w : World) (hd : s[k]? = some d) (hne : d ≠ c) (h : Rd w R s k false) :
    Calls Try.prog 126 #[.pointer (some ⟨R, 0, none⟩), .int .u8 c.toNat] w fun e w' => e = .returned (.bool false) ∧ Rd w' R s k false ∧ w.grownBy w' (some R) := by
  obtain ⟨c0, c1, c2, f1, f2⟩ := h.cells
  have H := Lib.hid h
  have hs := sx_size s
  have hk : k < s.length := (List.getElem?_eq_some_iff.1 hd).1
  have hlt : (k : Int) < ((sx s).size : Int) := by omega
  have hk2 : k < (sx s).size := by omega
  have hb : ((((sx s)[k]'hk2).toNat : Int) == (c.toNat : Int)) = false := by
    rw [sx_at hk2 hd]
    exact beq_false_of_ne (fun h => hne (UInt8.toNat_inj.1 (by omega)))
  clear h hd
  go_enter Try.func126, Try.ntmps126
  go_wp2
  go_quiet (fail)
  go_wp2
  go_ret
  exact ⟨rfl, H.out.drew, grown_drewN (World.grownBy.refl _ _) _⟩
set_option maxHeartbeats 1000000 in
theorem take_yes (s : List UInt8) (R k : Nat) (c : UInt8) (w : World) (hl : s.length ≤ 4096) (hd : s[k]? = some c) (h : Rd w R s k false) :
    Calls Try.prog 126 #[.pointer (some ⟨R, 0, none⟩), .int .u8 c.toNat] w fun e w' => e = .returned (.bool true) ∧ Rd w' R s (k + 1) false ∧ w.grownBy w' (some R) := by
  obtain ⟨c0, c1, c2, f1, f2⟩ := h.cells
  have H := Lib.hid h
  have hs := sx_size s
  have hk : k < s.length := (List.getElem?_eq_some_iff.1 hd).1
  have hlt : (k : Int) < ((sx s).size : Int) := by omega
  have hk2 : k < (sx s).size := by omega
  have hb : ((((sx s)[k]'hk2).toNat : Int) == (c.toNat : Int)) = true := by
    rw [sx_at hk2 hd]
    exact beq_self_eq_true _
  clear h hd
  go_enter Try.func126, Try.ntmps126
  go_wp2
  go_quiet (fail)
  go_wp2
  go_ret
  exact ⟨rfl, H.out.drew.at (k + 1), grown_trans (grown_drewN (World.grownBy.refl _ _) _) (grown_set _ _ _ _)⟩

theorem take_fail (s : List UInt8) (R k : Nat) (c : UInt8) (w : World) (hk : k ≤ s.length) (hn : s[k]? ≠ some c) (h : Rd w R s k false) :
    Calls Try.prog 126 #[.pointer (some ⟨R, 0, none⟩), .int .u8 c.toNat] w fun e w' => e = .returned (.bool false) ∧ Rd w' R s k false ∧ w.grownBy w' (some R) := by
  by_cases e : k = s.length
  · exact take_end s R k c w e h
  · have hd : s[k]? = some (s[k]'(by omega)) := List.getElem?_eq_getElem (by omega)
    exact take_no s R k c _ w hd (fun h2 => hn (by rw [hd, h2])) h

theorem need_yes (s : List UInt8) (R k : Nat) (c : UInt8) (w : World) (hl : s.length ≤ 4096) (hd : s[k]? = some c) (h : Rd w R s k false) :
    Calls Try.prog 182 #[.pointer (some ⟨R, 0, none⟩), .int .u8 c.toNat] w fun e w' => (∃ v, e = .returned v) ∧ Rd w' R s (k + 1) false ∧ w.grownBy w' (some R) := by
  go_enter Try.func182, Try.ntmps182
  go_wp2_with fail
  refine (take_yes s R k c _ hl hd h).mono ?_
  rintro e w1 ⟨rfl, h1, g1⟩
  have H1 := Lib.hid h1
  clear h1
  go_wp2
  go_end0
  exact ⟨⟨_, rfl⟩, H1.out, g1⟩
theorem need_no (s : List UInt8) (R k : Nat) (c : UInt8) (w : World) (hk : k ≤ s.length) (hn : s[k]? ≠ some c) (h : Rd w R s k false) :
    Calls Try.prog 182 #[.pointer (some ⟨R, 0, none⟩), .int .u8 c.toNat] w fun e w' => (∃ v, e = .returned v) ∧ Rd w' R s k true ∧ w.grownBy w' (some R) := by
  go_enter Try.func182, Try.ntmps182
  go_wp2_with fail
  refine (take_fail s R k c _ hk hn h).mono ?_
  rintro e w1 ⟨rfl, h1, g1⟩
  obtain ⟨c0, c1, c2, f1, f2⟩ := h1.cells
  have H1 := Lib.hid h1
  clear h1
  go_wp2
  go_end0
  exact ⟨⟨_, rfl⟩, H1.out.mark true, grown_trans g1 (grown_set _ _ _ _)⟩
theorem need_bad (s : List UInt8) (R k : Nat) (c : UInt8) (w : World) (h : Rd w R s k true) :
    Calls Try.prog 182 #[.pointer (some ⟨R, 0, none⟩), .int .u8 c.toNat] w fun e w' => (∃ v, e = .returned v) ∧ Rd w' R s k true ∧ w.grownBy w' (some R) := by
  go_enter Try.func182, Try.ntmps182
  go_wp2_with fail
  refine (take_bad s R k c _ h).mono ?_
  rintro e w1 ⟨rfl, h1, g1⟩
  obtain ⟨c0, c1, c2, f1, f2⟩ := h1.cells
  have H1 := Lib.hid h1
  clear h1
  go_wp2
  go_end0
  exact ⟨⟨_, rfl⟩, H1.out.mark true, grown_trans g1 (grown_set _ _ _ _)⟩

end Go.Proofs.Ytnoaaklkbfbdbaa
