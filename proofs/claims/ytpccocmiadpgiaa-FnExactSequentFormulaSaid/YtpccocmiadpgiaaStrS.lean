/- Contracts of the small functions of package laws over lists of strings: compare, mark, held. Conditions: those in the theorems. -/
import Derived.Sort.EncStr
import Derived.Laws.BytesArg
import Derived.Laws.Concat
import Derived.Test.YtpccocmiadpgiaaJn05
import Derived.Test.YtpccocmiadpgiaaSort
namespace Go.Proofs.Ytpccocmiadpgiaa
open Go.RowKit

def stx (ys : List UInt8) : ByteArray := ⟨ys.toArray⟩
theorem stx_size (ys : List UInt8) : (stx ys).size = ys.length := by simp [stx, ByteArray.size]
theorem stx_app (xs ys : List UInt8) : stx xs ++ stx ys = stx (xs ++ ys) := ByteArray.mk_append_mk xs ys
theorem add_stx (xs ys : List UInt8) (h : xs.length + ys.length ≤ 4611686018427387904) (w : World) : (Op.stringOp .add (stx xs) (stx ys)).run Try.prog w = .ok (.string (stx (xs ++ ys))) w := by
  rw [← stx_app]
  exact run_string_add_sum w _ _ (by rw [stx_size, stx_size]; omega)

/-- The decimal digits of a number, none for 0. -/
def dg (k : Nat) : List UInt8 := if _h : k = 0 then [] else dg (k / 10) ++ [UInt8.ofNat (48 + k % 10)]
termination_by k
theorem dg_pos (k : Nat) (h : 0 < k) : dg k = dg (k / 10) ++ [UInt8.ofNat (48 + k % 10)] := by rw [dg, dif_neg (by omega)]
theorem dg_zero : dg 0 = [] := by rw [dg, dif_pos rfl]
theorem dg_len (k : Nat) : (dg k).length ≤ k := by
  induction k using Nat.strongRecOn with
  | _ k ih =>
    by_cases h : k = 0
    · subst h; rw [dg_zero]; exact Nat.le_refl _
    · rw [dg_pos k (by omega), List.length_append]
      have := ih (k / 10) (by omega)
      simp
      omega

set_option maxHeartbeats 1000000 in
set_option maxRecDepth 100000 in
theorem markText_any (n : Nat) (w : World) (h0 : 0 < n) (h1 : n ≤ 1073741824) :
    Calls Try.prog 49 #[.int .i64 n] w fun e w' => e = .returned (.string (stx (109 :: dg n))) ∧ Below w.heap.size w w' := by
  go_enter Try.func49, Try.ntmps49
  go_wp2
  go_loopw [0, 3] (fun k o wr => ∃ (m : Nat) (ys : List UInt8), m ≤ n ∧ k = .int .i64 m ∧ o = .string (stx ys) ∧ dg n = dg m ++ ys ∧ ys.length ≤ n ∧ Below w.heap.size w wr) (fun k _ _ => (intOf k).toNat)
  case atStart => exact ⟨n, [], Nat.le_refl _, rfl, rfl, by simp, by simp, Below.refl _ _⟩
  case round =>
    obtain ⟨m, ys, hm, rfl, rfl, hd, hy, hbel⟩ := hrel
    have D := Lib.hid hd
    have BL := Lib.hid hbel
    by_cases hp : 0 < m
    · have hconv : (convert 75 9 (.slice (some ⟨wr.heap.size, 0, none⟩) 1 1)).run Try.prog (wr.alloc (.cells #[.int .u8 (48 + (m : Int) % 10)] 5)) = .ok (.string (stx [UInt8.ofNat (48 + m % 10)])) (wr.alloc (.cells #[.int .u8 (48 + (m : Int) % 10)] 5)) := by
        have hrun := run_convert_bytes_arg (P := Try.prog) (wr.alloc (.cells #[.int .u8 (48 + (m : Int) % 10)] 5)) 75 5 Try.underlying75 Try.underlying5 wr.heap.size 0 1 1 [48 + (m : Int) % 10] rfl (fun i hi => by
          obtain rfl : i = 0 := by omega
          exact World.cell?_alloc_at _ _ _ _ rfl) 9 Try.underlying9
        rw [hrun]
        have e : (48 + (m : Int) % 10).toNat = 48 + m % 10 := by omega
        simp [strOfNums, stx, e]
      obtain ⟨T, hT⟩ : ∃ T, T = stx ([UInt8.ofNat (48 + m % 10)] ++ ys) := ⟨_, rfl⟩
      obtain ⟨S1, hS1⟩ : ∃ S, S = stx [UInt8.ofNat (48 + m % 10)] := ⟨_, rfl⟩
      obtain ⟨S2, hS2⟩ : ∃ S, S = stx ys := ⟨_, rfl⟩
      have hadd : ∀ w, (Op.stringOp .add S1 S2).run Try.prog w = .ok (.string T) w := by
        intro w
        rw [hS1, hS2, hT]
        exact add_stx _ _ (by simp; omega) w
      have HT := Lib.hid hT
      have hd2 : dg n = dg (m / 10) ++ ([UInt8.ofNat (48 + m % 10)] ++ ys) := by rw [hd, dg_pos m hp, List.append_assoc]
      have D2 := Lib.hid hd2
      have hlen2 : ([UInt8.ofNat (48 + m % 10)] ++ ys).length ≤ n := by
        have h9 := congrArg List.length hd2
        have h8 := dg_len n
        rw [List.length_append] at h9
        omega
      have L2 := Lib.hid hlen2
      have BA := Lib.hid (hbel.alloc hbel.size (.cells #[.int .u8 (48 + (m : Int) % 10)] 5))
      rw [← hS1] at hconv
      rw [← hS2]
      clear hd hbel hd2 hT hS1 hS2 hlen2 hy D
      go_wp2
      go_roundw
      case rel => exact ⟨m / 10, _, by omega, by go_num, by rw [HT.out], D2.out, L2.out, BA.out⟩
      case measure => simp [intOf]; omega
    · obtain rfl : m = 0 := by omega
      have hys : dg n = ys := by rw [hd, dg_zero]; rfl
      have hadd : ∀ w, (Op.stringOp .add ⟨#[109]⟩ (stx ys)).run Try.prog w = .ok (.string (stx ([109] ++ ys))) w := by
        intro w
        exact add_stx [109] ys (by simp; omega) w
      have Y := Lib.hid hys
      clear hd hbel hys D
      go_wp2
      go_ret
      exact ⟨by rw [Y.out]; rfl, BL.out⟩

end Go.Proofs.Ytpccocmiadpgiaa
