/- The model's ParseFormula answers as the reader with a stack does. Conditions: those in the theorems. -/
import Derived.Test.YtpccocmiadpgiaaReadAll
import Derived.Test.YtpccocmiadpgiaaJn06
import Derived.Test.YtpccocmiadpgiaaJn08
namespace Go.Proofs.Ytpccocmiadpgiaa
open Go.RowKit

theorem sx_list (t : ByteArray) : sx t.data.toList = t := by simp [sx]
set_option maxHeartbeats 1000000 in
theorem l02Read_any (s : List UInt8) (hl : s.length ≤ 4096) (w : World) :
    Calls Try.prog 61 #[.string (sx s)] w fun e w' => ∃ v zs, OwnN w' w.heap.size v zs ∧ Below w.heap.size w w' ∧
      ((∃ f, readF s = some f ∧ zs = f.enc ∧ f.ok ∧ f.sz ≤ 16384 ∧ e = .returned (.tuple #[v, .int .i64 (-1)])) ∨ (readF s = none ∧ zs = [] ∧ badAt s ≤ s.length ∧ e = .returned (.tuple #[v, .int .i64 (badAt s : Int)]))) := by
  have hsz := sx_size s
  have R0 := fun (x : World) (h : Rd x w.heap.size s 0 false) => (reads s w.heap.size hl s.length 0 (by omega) (Nat.zero_le _)).2 x h
  go_enter Try.func61, Try.ntmps61
  go_wp2_with fail
  have h0 : Rd (w.alloc (.cells #[.string (sx s), .int .i64 0, .bool false] 93)) w.heap.size s 0 false := by
    show (w.heap.push _)[w.heap.size]? = _
    simp
  have B0 := Lib.hid ((Below.refl w.heap.size w).alloc (Nat.le_refl _) (.cells #[.string (sx s), .int .i64 0, .bool false] 93))
  refine (R0 _ h0).mono ?_
  rintro e w1 ⟨v1, zs, k1, b1, rfl, ho, h1, g1, sx1⟩
  have hsz0 : w.heap.size < (w.alloc (.cells #[.string (sx s), .int .i64 0, .bool false] 93)).heap.size := h0.lt
  have O1 := Lib.hid (ho.mono (Nat.le_of_lt hsz0))
  have B1 := Lib.hid (B0.out.grown g1 B0.out.size (fun k hk => by cases hk; exact Nat.le_refl _))
  obtain ⟨c0, c1, c2, f1, f2⟩ := h1.cells
  clear ho g1 R0 h0 h1 B0 hsz0
  obtain ⟨q1, q2, q3, q4, ⟨rfl, f, p, rfl, fo, fk, fs⟩ | ⟨rfl, p⟩⟩ := sx1
  · rw [List.drop_zero] at p
    by_cases hk : k1 < s.length
    · obtain ⟨r1, r2⟩ := readF_more p hk
      have R1 := Lib.hid r1
      have R2 := Lib.hid r2
      have hlt : (k1 : Int) < ((sx s).size : Int) := by omega
      have hd : decide ((k1 : Int) < ((sx s).size : Int)) = true := decide_eq_true hlt
      clear r1 r2 p O1
      go_wp2
      go_quiet (fail)
      go_wp2
      go_ret2
      exact ⟨.slice none 0 0, [], ownN_nil _ _, below_drewN' B1.out _, .inr ⟨R1.out, rfl, by rw [R2.out]; omega, by rw [R2.out] <;> rfl⟩⟩
    · obtain rfl : k1 = s.length := by omega
      rw [List.drop_length] at p
      have R1 := Lib.hid (readF_ok p)
      have hlt : ¬ ((s.length : Int) < ((sx s).size : Int)) := by omega
      have hd : decide ((s.length : Int) < ((sx s).size : Int)) = false := decide_eq_false hlt
      clear p
      go_wp2
      go_ret2
      exact ⟨v1, f.enc, O1.out, B1.out, .inl ⟨f, R1.out, rfl, fo, by omega, rfl⟩⟩
  · rw [List.drop_zero] at p
    obtain ⟨r1, r2⟩ := readF_er p q2
    have R1 := Lib.hid r1
    have R2 := Lib.hid r2
    clear r1 r2 p O1
    go_wp2
    go_quiet (fail)
    go_wp2
    go_ret2
    exact ⟨.slice none 0 0, [], ownN_nil _ _, below_drewN' B1.out _, .inr ⟨R1.out, rfl, by rw [R2.out]; omega, by rw [R2.out] <;> rfl⟩⟩

set_option maxHeartbeats 1000000 in
theorem specParse_any (s : List UInt8) (hs : s.length ≤ 140737488351232) (w : World) :
    Calls Try.prog 54 #[.string (sx s)] w fun e w' => ∃ v, e = .returned (.tuple #[v, .int .i64 (pA s), .int .i64 (pC s)]) ∧ OwnN w' w.heap.size v (pZ s) ∧ Below w.heap.size w w' := by
  have hsz := sx_size s
  by_cases hb : 200 < s.length
  · obtain ⟨e1, e2, e3⟩ := p_long hb
    rw [e1, e2, e3]
    have hb' : (200 : Int) < ((sx s).size : Int) := by omega
    clear e1 e2 e3
    go_enter Try.func54, Try.ntmps54
    go_wp2
    go_ret3
    exact ⟨.slice none 0 0, rfl, ownN_nil _ _, Below.refl _ _⟩
  · have hb' : ¬ (200 : Int) < ((sx s).size : Int) := by omega
    go_enter Try.func54, Try.ntmps54
    go_wp2_with fail
    refine (l02Read_any s (by omega) _).mono ?_
    rintro e w1 ⟨v1, zs, ho, hbel, ⟨f, hr, rfl, fo, fs, rfl⟩ | ⟨hr, rfl, hk, rfl⟩⟩
    · have B1 := Lib.hid hbel
      obtain ⟨a1, c1, rfl, -, -⟩ := ho.at
      have O1 := Lib.hid ho
      rw [Fm.enc_len] at O1 ⊢
      clear ho hbel
      by_cases h40 : 40 < f.sz
      · obtain ⟨e1, e2, e3⟩ := p_big hb hr h40
        have E1 := Lib.hid e1
        have E2 := Lib.hid e2
        have E3 := Lib.hid e3
        have h40' : (40 : Int) < (f.sz : Int) := by omega
        clear e1 e2 e3 hr
        go_wp2
        go_ret3
        exact ⟨.slice none 0 0, (by rw [E2.out, E3.out] <;> rfl), by rw [E1.out]; exact ownN_nil _ _, B1.out⟩
      · obtain ⟨e1, e2, e3⟩ := p_ok hb hr h40
        have E1 := Lib.hid e1
        have E2 := Lib.hid e2
        have E3 := Lib.hid e3
        have h40' : ¬ (40 : Int) < (f.sz : Int) := by omega
        clear e1 e2 e3 hr
        go_wp2
        go_ret3
        exact ⟨.slice a1 f.sz c1, (by rw [E2.out, E3.out] <;> rfl), by rw [E1.out]; exact O1.out, B1.out⟩
    · obtain ⟨e1, e2, e3⟩ := p_bad hb hr
      have E1 := Lib.hid e1
      have E2 := Lib.hid e2
      have E3 := Lib.hid e3
      have B1 := Lib.hid hbel
      have hnn : (0 : Int) ≤ (badAt s : Int) := by omega
      clear e1 e2 e3 hr ho hbel
      go_wp2
      go_ret3
      exact ⟨.slice none 0 0, (by rw [E2.out, E3.out] <;> rfl), by rw [E1.out]; exact ownN_nil _ _, B1.out⟩

end Go.Proofs.Ytpccocmiadpgiaa
