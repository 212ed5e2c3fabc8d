/- Contracts of arranged of the program and of PartOfFrame of both. Conditions: those in the theorems. -/
import Derived.Test.YtecjmibnoldpgaaPrt
import Derived.Test.YtecjmibnoldpgaaSum
namespace Go.Proofs.Ytecjmibnoldpgaa
open Go.RowKit

/-- The row under way: entries below i are done. -/
def arS (xs ls : List Int) (i t : Nat) : Int := if t < i then arF xs ls t else 0
theorem arS_start (xs ls : List Int) (t : Nat) : arS xs ls 0 t = 0 := by unfold arS; rw [if_neg (by omega)]
theorem arS_all {xs ls : List Int} {n t : Nat} (h : t < n) : arS xs ls n t = arF xs ls t := by unfold arS; rw [if_pos h]
theorem arS_set {xs ls : List Int} {k : Nat} {z : Int} (hz : z = arF xs ls k) (t : Nat) : (if t = k then z else arS xs ls k t) = arS xs ls (k + 1) t := by
  unfold arS
  by_cases e : t = k
  · subst e; rw [if_pos rfl, if_pos (by omega), hz]
  · rw [if_neg e]
    by_cases h2 : t < k
    · rw [if_pos h2, if_pos (by omega)]
    · rw [if_neg h2, if_neg (by omega)]

set_option maxHeartbeats 400000 in
theorem placesIn_any (ls : List Int) (x : Int) (n : Nat) (a : Option Addr) (len cap : Nat) (w : World) (hl : len ≤ 30) (hn : n ≤ 30) (hok : LsOk n ls) (h : At w a len ls) :
    Calls Try.prog 80 #[.slice a len cap, .int .i64 x] w fun e w' => e = .returned (.int .i64 (sqTo ls x len)) ∧ w = w' := by
  obtain rfl := h.1
  have H := Lib.hid h
  have OK := Lib.hid hok
  clear h hok
  go_enter Try.func80, Try.ntmps80
  go_wp2
  go_loop [5, 10] (fun s i => ∃ k : Nat, k ≤ ls.length ∧ i = .int .i64 k ∧ s = .int .i64 (sqTo ls x k)) (fun _ i => ls.length - (intOf i).toNat)
  case atStart => exact ⟨0, Nat.zero_le _, rfl, rfl⟩
  case round =>
    obtain ⟨k, hk, rfl, rfl⟩ := hrel
    by_cases hlt : k < ls.length
    · obtain ⟨b, off, rfl, -, hc⟩ := H.out.2.resolve_left (by omega)
      obtain ⟨p, hp, hpn⟩ := OK.out k hlt
      have hcell := hc k hlt
      rw [hp] at hcell
      have HP := Lib.hid hp
      clear hc hp
      cases hb : bitB x (p : Int)
      all_goals
        have HB := Lib.hid hb
        go_wp2_with (go_at_call 91; refine (hasMember_any _ _ _ (by omega) (by omega)).mono ?_; rw [HB.out]; rintro e w' ⟨rfl, rfl⟩)
        go_round
        case rel => exact ⟨k + 1, hlt, by go_num, by simp [sqTo, HP.out, HB.out, one]⟩
        case measure => simp [intOf]; omega
    · obtain rfl : k = ls.length := by omega
      go_wp2
      go_ret
      exact ⟨rfl, rfl⟩

def prL (n : Int) (xs : List Int) (m : Int) : List Int := if cwV n xs m = 0 then arV xs (memTo m.toNat xs.length) else []
theorem pr_ok {n m : Int} {xs : List Int} (h : cwV n xs m = 0) : prL n xs m = arV xs (memTo m.toNat xs.length) := if_pos h
theorem pr_bad {n m : Int} {xs : List Int} (h : ¬ cwV n xs m = 0) : prL n xs m = [] := if_neg h
theorem RF.bad' {w : World} {B : Nat} {c c' n : Int} {xs : List Int} (h : c = c') (hn : n = 0) (hx : xs = []) : RF w B n c' xs (.returned (.tuple #[.agg #[.int .i64 0, .slice none 0 0], .int .i64 c])) := by
  subst h hn hx
  exact ⟨_, rfl, OwnF.mk (World.ownsRow_nil _ _ _ _)⟩

end Go.Proofs.Ytecjmibnoldpgaa
