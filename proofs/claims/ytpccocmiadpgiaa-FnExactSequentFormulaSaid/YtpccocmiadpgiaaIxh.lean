/- A search for a letter of 128 or more in the text of the variables. Conditions: those in the theorems. -/
import Derived.Laws.RangeAny
import Derived.WalkMore
import Derived.LoopTactic
import Derived.Laws.Runes
import Derived.Shelf.Small.Strs
import Derived.Test.YtpccocmiadpgiaaIxr
namespace Go.Proofs.Ytpccocmiadpgiaa
open Go.RowKit Go.Shelf

def vlB (r : Int) : Bool := decide (0 ≤ r ∧ r < 55296) || decide (57343 < r ∧ r ≤ 1114111)
theorem validRune_any (r : Int) (hr : 128 ≤ r) (w : World) : Calls Try.prog 93 #[.int .i32 r] w fun e w' => e = .returned (.bool (vlB r)) ∧ w = w' := by
  have h0 : 0 ≤ r := by omega
  by_cases h1 : r < 55296
  · have E := Lib.hid (show vlB r = true by simp [vlB]; omega)
    go_enter Try.func93, Try.ntmps93
    go_wp2
    go_ret
    exact ⟨ret_bool E.out.symm, rfl⟩
  by_cases h2 : 57343 < r
  · by_cases h3 : r ≤ 1114111
    · have E := Lib.hid (show vlB r = true by simp [vlB]; omega)
      go_enter Try.func93, Try.ntmps93
      go_wp2
      go_ret
      exact ⟨ret_bool E.out.symm, rfl⟩
    · have E := Lib.hid (show vlB r = false by simp [vlB]; omega)
      go_enter Try.func93, Try.ntmps93
      go_wp2
      go_ret
      exact ⟨ret_bool E.out.symm, rfl⟩
  · have E := Lib.hid (show vlB r = false by simp [vlB]; omega)
    go_enter Try.func93, Try.ntmps93
    go_wp2
    go_ret
    exact ⟨ret_bool E.out.symm, rfl⟩

/-- The bytes of a letter of 128 or more: two to four, the last one of 128 or more. -/
theorem enc_high (r : Int) (hr : 128 ≤ r) (hv : vlB r = true) : (∃ a b, 128 ≤ b.toNat ∧ Utf8.encode r = ⟨#[a, b]⟩) ∨ (∃ a b c, 128 ≤ c.toNat ∧ Utf8.encode r = ⟨#[a, b, c]⟩) ∨ ∃ a b c d, 128 ≤ d.toNat ∧ Utf8.encode r = ⟨#[a, b, c, d]⟩ := by
  have hval : Utf8.valid r = true := by
    unfold vlB at hv
    unfold Utf8.valid
    simp at hv ⊢
    omega
  have hb : ∀ n : Nat, 128 ≤ (UInt8.ofNat (0x80 + n % 64)).toNat := fun n => by
    have e : (UInt8.ofNat (0x80 + n % 64)).toNat = (0x80 + n % 64) % 256 := by simp [UInt8.toNat_ofNat']
    rw [e]; omega
  unfold Utf8.encode
  simp only [hval, if_true]
  rw [if_neg (by omega)]
  split
  · exact .inl ⟨_, _, hb _, rfl⟩
  · split
    · exact .inr (.inl ⟨_, _, _, hb _, rfl⟩)
    · exact .inr (.inr ⟨_, _, _, _, hb _, rfl⟩)

theorem no_high (l : List UInt8) (h : ∀ x ∈ l, x.toNat < 128) (b : UInt8) (hb : 128 ≤ b.toNat) : Lib.indexByte l b = -1 := by
  induction l with
  | nil => rfl
  | cons x l ih =>
    have hx := h x (List.mem_cons_self ..)
    have hne : (x == b) = false := by
      rw [beq_eq_false_iff_ne]
      intro e; subst e; omega
    rw [Lib.indexByte, hne, ih (fun y hy => h y (List.mem_cons_of_mem _ hy))]
    rfl

set_option maxHeartbeats 4000000 in
set_option maxRecDepth 100000 in
theorem indexVar_err (w : World) : Calls Try.prog 87 #[.string ⟨#[112, 113, 114, 115, 116, 117]⟩, .int .i32 65533] w fun e w' => e = .returned (.int .i64 (-1)) ∧ Below w.heap.size w w' := by
  obtain ⟨s, hs⟩ : ∃ s : ByteArray, s = ⟨#[112, 113, 114, 115, 116, 117]⟩ := ⟨_, rfl⟩
  have S := Lib.hid hs
  rw [← hs]
  clear hs
  go_enter Try.func87, Try.ntmps87
  go_wp2
  go_loopw [6] (fun _ w' => ∃ pos, w' = w.iter s pos) (fun _ w' => s.size - w'.iterPos w.heap.size)
  case atStart => exact ⟨0, rfl⟩
  case round =>
    obtain ⟨pos, rfl⟩ := hrel
    by_cases hp : pos < s.size
    · have hbyte : (s[pos]'hp).toNat < 128 := by
        have e := S.out
        subst e
        have : ∀ k, (h : k < 6) → ((⟨#[112, 113, 114, 115, 116, 117]⟩ : ByteArray)[k]'h).toNat < 128 := by decide
        exact this pos hp
      have hnx : ∀ ty, (Instr.next (.pointer (some ⟨w.heap.size, 0, none⟩)) true ty).run Try.prog (w.iter s pos) = _ := fun ty => run_next_ascii w s pos ty hp hbyte
      have hne : ¬ (((s[pos]'hp).toNat : Nat) : Int) = 65533 := by omega
      go_wp2
      go_roundw
      case rel => exact ⟨pos + 1, rfl⟩
      case measure => simp; omega
    · have hnx : ∀ ty, (Instr.next (.pointer (some ⟨w.heap.size, 0, none⟩)) true ty).run Try.prog (w.iter s pos) = _ := fun ty => run_next_end w s pos ty hp
      go_wp2
      go_ret
      exact ⟨rfl, (Below.refl _ _).alloc (Nat.le_refl _) _⟩

set_option maxHeartbeats 4000000 in
set_option maxRecDepth 100000 in
theorem indexVar_bad (r : Int) (hr : 128 ≤ r) (hv : vlB r = false) (hn : ¬ r = 65533) (w : World) : Calls Try.prog 87 #[.string ⟨#[112, 113, 114, 115, 116, 117]⟩, .int .i32 r] w fun e w' => e = .returned (.int .i64 (-1)) ∧ Below w.heap.size w w' := by
  have h1 : ¬ r < 128 := by omega
  have h0 : 0 ≤ r := by omega
  have V := Lib.hid hv
  go_enter Try.func87, Try.ntmps87
  go_wp2_with fail
  refine (validRune_any r hr _).mono ?_
  rw [V.out]
  rintro e w' ⟨rfl, rfl⟩
  go_wp2
  go_ret
  exact ⟨rfl, Below.refl _ _⟩

theorem indexByte_high (l : List UInt8) (h : ∀ x ∈ l, x.toNat < 128) (b : UInt8) (hb : 128 ≤ b.toNat) (s : ByteArray) (hs : s.data.toList = l) (w : World) :
    Calls Try.prog 92 #[.string s, .int .u8 b.toNat] w fun e w' => e = .returned (.int .i64 (-1)) ∧ w = w' := by
  refine (Any.strings_IndexByte { ixrL with } s b.toNat w).mono ?_
  rintro e w' ⟨rfl, rfl⟩
  refine ⟨ret_int ?_, rfl⟩
  rw [hs]
  have : (b.toNat : Int).toNat.toUInt8 = b := by simp
  rw [this]
  exact no_high l h b hb

set_option maxHeartbeats 4000000 in
set_option maxRecDepth 100000 in
theorem indexVar_two (r : Int) (hr : 128 ≤ r) (hv : vlB r = true) (hn : ¬ r = 65533) (a b : UInt8) (hb : 128 ≤ b.toNat) (he : Utf8.encode r = ⟨#[a, b]⟩) (w : World) : Calls Try.prog 87 #[.string ⟨#[112, 113, 114, 115, 116, 117]⟩, .int .i32 r] w fun e w' => e = .returned (.int .i64 (-1)) ∧ Below w.heap.size w w' := by
  have h1 : ¬ r < 128 := by omega
  have h0 : 0 ≤ r := by omega
  have V := Lib.hid hv
  have ex : ((⟨#[112, 113, 114, 115, 116, 117]⟩ : ByteArray).extract 2 6).data.toList = [114, 115, 116, 117] := by decide
  have IB := Lib.hid (show ∀ w', Calls Try.prog 92 #[.string ((⟨#[112, 113, 114, 115, 116, 117]⟩ : ByteArray).extract 2 6), .int .u8 (((⟨#[a, b]⟩ : ByteArray)[1]'(Nat.lt_succ_self 1)).toNat : Int)] w' fun e w'' => e = .returned (.int .i64 (-1)) ∧ w' = w'' from
    fun w' => indexByte_high [114, 115, 116, 117] (by decide) b hb _ ex w')
  have hne : ((((⟨#[112, 113, 114, 115, 116, 117]⟩ : ByteArray)[1]'(by decide)).toNat : Int) != (((⟨#[a, b]⟩ : ByteArray)[1]'(Nat.lt_succ_self 1)).toNat : Int)) = true := by
    show ((113 : Int) != (b.toNat : Int)) = true
    simp; omega
  clear hb ex
  go_enter Try.func87, Try.ntmps87
  go_wp2_with fail
  refine (validRune_any r hr _).mono ?_
  rw [V.out]
  rintro e w' ⟨rfl, rfl⟩
  go_wp2
  go_step3
  go_wp2
  go_loop [9] (fun i => i = .int .i64 1) (fun _ => 0)
  case atStart => rfl
  case round =>
    subst hrel
    go_wp2
    go_step3
    go_wp2
    go_region
    all_goals go_wp2
    go_region_with (go_at_call 92; refine (IB.out _).mono ?_; rintro e w' ⟨rfl, rfl⟩)
    all_goals
      go_wp2
      dsimp +zetaDelta only [Exit.noGoto, Exit.inBlock, Exit.then]
      go_ret
      exact ⟨rfl, (Below.refl _ _).drew.drew⟩

set_option maxHeartbeats 4000000 in
set_option maxRecDepth 100000 in
theorem indexVar_three (r : Int) (hr : 128 ≤ r) (hv : vlB r = true) (hn : ¬ r = 65533) (a b c : UInt8) (hb : 128 ≤ c.toNat) (he : Utf8.encode r = ⟨#[a, b, c]⟩) (w : World) : Calls Try.prog 87 #[.string ⟨#[112, 113, 114, 115, 116, 117]⟩, .int .i32 r] w fun e w' => e = .returned (.int .i64 (-1)) ∧ Below w.heap.size w w' := by
  have h1 : ¬ r < 128 := by omega
  have h0 : 0 ≤ r := by omega
  have V := Lib.hid hv
  have ex : ((⟨#[112, 113, 114, 115, 116, 117]⟩ : ByteArray).extract 3 6).data.toList = [115, 116, 117] := by decide
  have IB := Lib.hid (show ∀ w', Calls Try.prog 92 #[.string ((⟨#[112, 113, 114, 115, 116, 117]⟩ : ByteArray).extract 3 6), .int .u8 (((⟨#[a, b, c]⟩ : ByteArray)[2]'(Nat.lt_succ_self 2)).toNat : Int)] w' fun e w'' => e = .returned (.int .i64 (-1)) ∧ w' = w'' from
    fun w' => indexByte_high [115, 116, 117] (by decide) c hb _ ex w')
  have hne : ((((⟨#[112, 113, 114, 115, 116, 117]⟩ : ByteArray)[2]'(by decide)).toNat : Int) != (((⟨#[a, b, c]⟩ : ByteArray)[2]'(Nat.lt_succ_self 2)).toNat : Int)) = true := by
    show ((114 : Int) != (c.toNat : Int)) = true
    simp; omega
  clear hb ex
  go_enter Try.func87, Try.ntmps87
  go_wp2_with fail
  refine (validRune_any r hr _).mono ?_
  rw [V.out]
  rintro e w' ⟨rfl, rfl⟩
  go_wp2
  go_step3
  go_wp2
  go_loop [9] (fun i => i = .int .i64 2) (fun _ => 0)
  case atStart => rfl
  case round =>
    subst hrel
    go_wp2
    go_step3
    go_wp2
    go_region
    all_goals go_wp2
    go_region_with (go_at_call 92; refine (IB.out _).mono ?_; rintro e w' ⟨rfl, rfl⟩)
    all_goals
      go_wp2
      dsimp +zetaDelta only [Exit.noGoto, Exit.inBlock, Exit.then]
      go_ret
      exact ⟨rfl, (Below.refl _ _).drew.drew⟩

set_option maxHeartbeats 4000000 in
set_option maxRecDepth 100000 in
theorem indexVar_four (r : Int) (hr : 128 ≤ r) (hv : vlB r = true) (hn : ¬ r = 65533) (a b c d : UInt8) (hb : 128 ≤ d.toNat) (he : Utf8.encode r = ⟨#[a, b, c, d]⟩) (w : World) : Calls Try.prog 87 #[.string ⟨#[112, 113, 114, 115, 116, 117]⟩, .int .i32 r] w fun e w' => e = .returned (.int .i64 (-1)) ∧ Below w.heap.size w w' := by
  have h1 : ¬ r < 128 := by omega
  have h0 : 0 ≤ r := by omega
  have V := Lib.hid hv
  have ex : ((⟨#[112, 113, 114, 115, 116, 117]⟩ : ByteArray).extract 4 6).data.toList = [116, 117] := by decide
  have IB := Lib.hid (show ∀ w', Calls Try.prog 92 #[.string ((⟨#[112, 113, 114, 115, 116, 117]⟩ : ByteArray).extract 4 6), .int .u8 (((⟨#[a, b, c, d]⟩ : ByteArray)[3]'(Nat.lt_succ_self 3)).toNat : Int)] w' fun e w'' => e = .returned (.int .i64 (-1)) ∧ w' = w'' from
    fun w' => indexByte_high [116, 117] (by decide) d hb _ ex w')
  have hne : ((((⟨#[112, 113, 114, 115, 116, 117]⟩ : ByteArray)[3]'(by decide)).toNat : Int) != (((⟨#[a, b, c, d]⟩ : ByteArray)[3]'(Nat.lt_succ_self 3)).toNat : Int)) = true := by
    show ((115 : Int) != (d.toNat : Int)) = true
    simp; omega
  clear hb ex
  go_enter Try.func87, Try.ntmps87
  go_wp2_with fail
  refine (validRune_any r hr _).mono ?_
  rw [V.out]
  rintro e w' ⟨rfl, rfl⟩
  go_wp2
  go_step3
  go_wp2
  go_loop [9] (fun i => i = .int .i64 3) (fun _ => 0)
  case atStart => rfl
  case round =>
    subst hrel
    go_wp2
    go_step3
    go_wp2
    go_region
    all_goals go_wp2
    go_region_with (go_at_call 92; refine (IB.out _).mono ?_; rintro e w' ⟨rfl, rfl⟩)
    all_goals
      go_wp2
      dsimp +zetaDelta only [Exit.noGoto, Exit.inBlock, Exit.then]
      go_ret
      exact ⟨rfl, (Below.refl _ _).drew.drew⟩

theorem indexVar_any (r : Int) (hr : 128 ≤ r) (w : World) : Calls Try.prog 87 #[.string ⟨#[112, 113, 114, 115, 116, 117]⟩, .int .i32 r] w fun e w' => e = .returned (.int .i64 (-1)) ∧ Below w.heap.size w w' := by
  by_cases hn : r = 65533
  · subst hn
    exact indexVar_err w
  · cases hv : vlB r with
    | false => exact indexVar_bad r hr hv hn w
    | true =>
      rcases enc_high r hr hv with ⟨a, b, hb, he⟩ | ⟨a, b, c, hb, he⟩ | ⟨a, b, c, d, hb, he⟩
      · exact indexVar_two r hr hv hn a b hb he w
      · exact indexVar_three r hr hv hn a b c hb he w
      · exact indexVar_four r hr hv hn a b c d hb he w

end Go.Proofs.Ytpccocmiadpgiaa
