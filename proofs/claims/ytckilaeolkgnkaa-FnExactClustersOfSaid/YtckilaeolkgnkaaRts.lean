/- Contracts of RootsOf, of the model and of the program. Conditions: those in the theorems. -/
import Derived.Test.YtckilaeolkgnkaaGen
namespace Go.Proofs.Ytckilaeolkgnkaa
open Go.RowKit

def rtTo (xs : List Int) : Nat → Int
  | 0 => 0
  | k + 1 => if nth (rcL xs) k = full xs.length then bits .or .i64 (rtTo xs k) (one k) else rtTo xs k
theorem pop_full (n : Nat) : ∀ m, m < 2 ^ n → pop m ≤ n ∧ (pop m = n ↔ m + 1 = 2 ^ n) := by
  induction n with
  | zero => intro m hm; have : m = 0 := by simpa using hm
            subst this; simp [pop_zero]
  | succ n ih =>
    intro m hm
    have hs := pop_step m
    rw [Nat.pow_succ] at hm ⊢
    obtain ⟨a, b⟩ := ih (m / 2) (by omega)
    refine ⟨by omega, ⟨fun h => ?_, fun h => ?_⟩⟩
    · have := b.1 (by omega); omega
    · have := b.2 (by omega); omega
theorem pop_is_full {n c : Nat} (hn : n ≤ 30) (h : InMk n (c : Int)) : ((pop c : Nat) : Int) = n ↔ (c : Int) = full n := by
  have h1 := h.nat
  rw [Int.toNat_natCast] at h1
  have h2 := (pop_full n c h1).2
  rw [full_eq _ (by omega) (by omega), Int.toNat_natCast]
  have e : ((2 : Int) ^ n) = ((2 ^ n : Nat) : Int) := by simp
  rw [e]
  constructor
  · intro h3; have := h2.1 (by omega); omega
  · intro h3; have := h2.2 (by omega); omega

def rtC (n : Int) (xs : List Int) : Int := if frB n xs then 0 else 1
def rtV (n : Int) (xs : List Int) : Int := if frB n xs then rtTo xs xs.length else 0
theorem rt_ok {n : Int} {xs : List Int} (h : frB n xs = true) : Ending.returned (.tuple #[.int .i64 (rtTo xs xs.length), .int .i64 0]) = .returned (.tuple #[.int .i64 (rtV n xs), .int .i64 (rtC n xs)]) := by rw [rtV, rtC, h]; rfl
theorem rt_bad {n : Int} {xs : List Int} (h : frB n xs = false) : Ending.returned (.tuple #[.int .i64 0, .int .i64 1]) = .returned (.tuple #[.int .i64 (rtV n xs), .int .i64 (rtC n xs)]) := by rw [rtV, rtC, h]; rfl

set_option maxHeartbeats 1000000 in
theorem implRootsOf_any (n : Int) (xs : List Int) (a : Option Addr) (len cap : Nat) (w : World) (hl : len ≤ 1048576) (h : At w a len xs) :
    Calls Try.prog 20 #[.agg #[.int .i64 n, .slice a len cap]] w fun e w' => e = .returned (.tuple #[.int .i64 (rtV n xs), .int .i64 (rtC n xs)]) ∧ Below w.heap.size w w' := by
  have HB := Lib.hid (boxF (w := w) n a len cap)
  have H := Lib.hid (h.keep HB.out (Nat.le_refl _))
  obtain rfl := h.1
  clear h
  cases h0 : frB n xs
  · have C := Lib.hid h0
    clear h0
    go_enter Try.func20, Try.ntmps20
    go_wp2_with fail
    refine (implIsFrame_any n xs _ _ _ _ hl H.out).mono ?_
    rw [C.out]
    rintro e w1 ⟨rfl, hb1⟩
    have B1 := Lib.hid (HB.out.trans (hb1.mono HB.out.size))
    clear hb1
    go_wp2
    go_ret2
    exact ⟨rt_bad C.out, B1.out⟩
  · obtain ⟨rfl, h8, -, hr⟩ := frB_ok h0
    have hl30 : xs.length ≤ 30 := by omega
    have RC := Lib.hid (rc_T hl30 hr).1
    have C := Lib.hid h0
    clear hr h0
    go_enter Try.func20, Try.ntmps20
    go_wp2_with fail
    refine (implIsFrame_any xs.length xs _ _ _ _ hl H.out).mono ?_
    rw [C.out]
    rintro e w1 ⟨rfl, hb1⟩
    have B1 := Lib.hid hb1
    have H1 := Lib.hid (H.out.keep hb1 (Nat.le_refl _))
    obtain ⟨lt0, c0, c1⟩ := bx1 hb1
    clear hb1
    go_wp2_with fail
    refine (reach_any _ xs _ _ _ _ hl30 H1.out).mono ?_
    rintro e w2 ⟨v2, rfl, ho, hb2⟩
    have d0 := (hb2.cell (p := ⟨w.heap.size, 0, none⟩) lt0).trans c0
    have B2 := Lib.hid (HB.out.trans ((B1.out.trans (hb2.mono B1.out.size)).mono HB.out.size))
    obtain ⟨a2, k2, rfl, hat, -, -, -⟩ := ho.at
    have L2 := rcL_len xs
    rw [L2] at hat
    rw [L2]
    have H2 := Lib.hid hat
    clear ho hb2 c0 c1 hat L2
    go_wp2
    go_loopw [4, 13] (fun s i wr => ∃ k q : Nat, k ≤ xs.length ∧ i = .int .i64 k ∧ s = .int .i64 (rtTo xs k) ∧ wr = w2.drewN q) (fun _ i _ => xs.length - (intOf i).toNat)
    case atStart => exact ⟨0, 0, Nat.zero_le _, rfl, rfl, rfl⟩
    case round =>
      obtain ⟨k, q, hk, rfl, rfl, rfl⟩ := hrel
      by_cases hlt : k < xs.length
      · obtain ⟨b, off, rfl, -, hc⟩ := H2.out.2.resolve_left (by omega)
        have hcell := hc k hlt
        clear hc
        have hin := RC.out k
        have hpos := hin.1
        have hbd := (hin.bd hl30).2
        obtain ⟨c, hce⟩ := Int.eq_ofNat_of_zero_le hpos
        rw [hce] at hcell hin hbd
        have PF := pop_is_full hl30 hin
        have hcb : c < 1073741824 := by omega
        have CE := Lib.hid hce
        clear hce hpos hin
        cases hb : (((pop c : Nat) : Int) == (xs.length : Int))
        all_goals
          have HE : Hid (decide (nth (rcL xs) k = full xs.length) = (((pop c : Nat) : Int) == (xs.length : Int))) := by
            refine Lib.hid ?_
            rw [Bool.eq_iff_iff, beq_iff_eq, decide_eq_true_eq, PF, CE.out]
          rw [hb] at HE
          clear PF
          go_wp2
          go_quiet ((go_at_call 44; exact q_same (countBits_any _ hcb _) rfl))
          go_wp2
          go_roundw
          case rel => exact ⟨k + 1, _, hlt, by go_num, by have := HE.out; simp at this; simp [rtTo, this, one], rfl⟩
          case measure => simp [intOf]; omega
      · obtain rfl : k = xs.length := by omega
        go_wp2
        go_ret2
        exact ⟨rt_ok C.out, below_drewN B2.out _⟩

end Go.Proofs.Ytckilaeolkgnkaa
