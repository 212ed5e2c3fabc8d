/- Searches in a list of numbers by a closure of one cell. Conditions: those in the theorems. -/
import Derived.Test.YtbfnagmjnaacoaaMrM
import Derived.Test.YtbfnagmjnaacoaaFrV
namespace Go.Proofs.Ytbfnagmjnaacoaa
open Go.RowKit

/-- A search by a closure over a cell: it tells for each number whether it is not one of what is wanted. -/
theorem idxI1_any (f : Nat → Bool) (xs : List Int) (R : Nat) (a : Option Addr) (cap : Nat) (w : World) (hn : xs.length ≤ 1048576) (hat : At w a xs.length xs)
    (hf : ∀ k, k < xs.length → ∀ W', Below w.heap.size w W' → Calls Try.prog 109 #[.int .i64 (nth xs k), .pointer (some ⟨R, 0, none⟩)] W' fun e w' => e = .returned (.bool (!(f k))) ∧ W' = w') :
    Calls Try.prog 149 #[.slice a xs.length cap, .func (.func 109) #[] #[.pointer (some ⟨R, 0, none⟩)]] w fun e w' => e = .returned (.int .i64 (frV f xs.length)) ∧ w = w' := by
  have H := Lib.hid hat
  have HF := Lib.hid (fun k hk => hf k hk w (Below.refl _ _))
  obtain ⟨n, hnn⟩ : ∃ n, n = xs.length := ⟨_, rfl⟩
  clear hat hf
  rw [← hnn] at H HF hn ⊢
  clear hnn
  go_enter Try.func149, Try.ntmps149
  go_wp2
  go_loop [8] (fun i => ∃ k : Nat, k ≤ n ∧ i = .int .i64 k ∧ Hid (∀ j, j < k → f j = true)) (fun i => n - (intOf i).toNat)
  case atStart => exact ⟨0, Nat.zero_le _, rfl, Lib.hid (fun j h => absurd h (by omega))⟩
  case round =>
    obtain ⟨k, hk, rfl, P⟩ := hrel
    by_cases hlt : k < n
    · obtain ⟨b, off, rfl, hb, hc⟩ := H.out.2.resolve_left (by omega)
      have hcell := hc k hlt
      clear hc
      have RT := Lib.hid (HF.out k hlt)
      go_wp2_with fail
      refine RT.out.mono ?_
      cases hfk : f k
      · have FK := Lib.hid (fr_at P.out hfk hlt)
        rintro e w1 ⟨rfl, rfl⟩
        clear hfk
        go_wp2
        go_ret
        exact ⟨ret_int FK.out.symm, rfl⟩
      · have PK := Lib.hid (show ∀ j, j < k + 1 → f j = true from fun j hj => by
          by_cases e : j = k
          · rw [e]; exact hfk
          · exact P.out j (by omega))
        rintro e w1 ⟨rfl, rfl⟩
        clear hfk
        go_wp2
        go_round
        case rel => exact ⟨k + 1, hlt, by go_num, PK⟩
        case measure => simp [intOf]; omega
    · obtain rfl : k = n := by omega
      have FK := Lib.hid (fr_no P.out)
      go_wp2
      go_ret
      exact ⟨ret_int FK.out.symm, rfl⟩

theorem ctI1_any (f : Nat → Bool) (xs : List Int) (R : Nat) (a : Option Addr) (cap : Nat) (w : World) (hn : xs.length ≤ 1048576) (hat : At w a xs.length xs)
    (hf : ∀ k, k < xs.length → ∀ W', Below w.heap.size w W' → Calls Try.prog 109 #[.int .i64 (nth xs k), .pointer (some ⟨R, 0, none⟩)] W' fun e w' => e = .returned (.bool (!(f k))) ∧ W' = w') :
    Calls Try.prog 108 #[.slice a xs.length cap, .func (.func 109) #[] #[.pointer (some ⟨R, 0, none⟩)]] w fun e w' => e = .returned (.bool (!(alB f xs.length))) ∧ w = w' := by
  have I := Lib.hid (idxI1_any f xs R a cap w hn hat hf)
  have E := Lib.hid (fr_al f xs.length)
  clear hat hf
  go_enter Try.func108, Try.ntmps108
  go_wp2_with fail
  refine I.out.mono ?_
  rintro e w1 ⟨rfl, rfl⟩
  go_wp2
  go_ret
  exact ⟨ret_bool E.out, rfl⟩

end Go.Proofs.Ytbfnagmjnaacoaa
