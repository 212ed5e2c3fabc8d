/- 2 texts in one: Part, OwnI. -/
import Derived.Test.YtnoaaklkbfbdbaaNodeA
import Derived.Test.YtnoaaklkbfbdbaaIsF
import Derived.Test.YtnoaaklkbfbdbaaOwnN
import Derived.Test.YtnoaaklkbfbdbaaSlices
/- Contracts of the program's functions that walk the parts of a list of nodes: where a part ends, is it a negation, how high and deep is it. Conditions: those in the theorems. -/
namespace Go.Proofs.Ytnoaaklkbfbdbaa
open Go.RowKit

theorem pe_lt {xs : List Nd} {len : Nat} {o : Int} {i : Nat} (ho : 0 < o) (hi : i ≤ len) (h : 0 ≤ pe xs (len - i) o i) : i < len := by
  by_cases e : i = len
  · subst e; rw [Nat.sub_self, pe, if_neg (by omega)] at h; omega
  · omega
theorem pe_step {xs : List Nd} {len : Nat} {o : Int} {i : Nat} (ho : 0 < o) (hi : i < len) : pe xs (len - i) o i = pe xs (len - (i + 1)) (o - 1 + prt (kd xs i)) (i + 1) := by
  rw [show len - i = (len - (i + 1)) + 1 by omega, pe, if_neg (by omega)]
theorem pe_zero {xs : List Nd} {f : Nat} {i : Nat} : pe xs f 0 i = i := by cases f <;> rw [pe, if_pos (by omega)]

set_option maxHeartbeats 400000 in
theorem partEnd_any (xs : List Nd) (a : Option Addr) (len cap i : Nat) (e : Int) (w : World) (hl : len ≤ 1048576) (hi : i ≤ len) (h : AtN w a len xs) (he : pe xs (len - i) 1 i = e) (h0 : 0 ≤ e) :
    Calls Try.prog 65 #[.slice a len cap, .int .i64 i] w fun r w' => r = .returned (.int .i64 e) ∧ w = w' := by
  have H := Lib.hid h
  have E := Lib.hid he
  have Z := Lib.hid h0
  clear h he h0
  go_enter Try.func65, Try.ntmps65
  go_wp2
  go_loop [1, 5] (fun i' o => ∃ k p : Nat, i ≤ k ∧ k ≤ len ∧ p ≤ 1 + 2 * k ∧ i' = .int .i64 k ∧ o = .int .i64 p ∧ pe xs (len - k) p k = e) (fun i' _ => len - (intOf i').toNat)
  case atStart => exact ⟨i, 1, Nat.le_refl _, hi, by omega, rfl, rfl, E.out⟩
  case round =>
    obtain ⟨k, p, hik, hk, hp, rfl, rfl, he⟩ := hrel
    have HE := Lib.hid he
    clear he
    by_cases h0 : 0 < p
    · have hlt : k < len := pe_lt (show (0 : Int) < (p : Int) by omega) hk (by rw [HE.out]; exact Z.out)
      obtain ⟨b, off, rfl, hb, hc⟩ := H.out.2.resolve_left (by omega)
      have hc1 := (hc k hlt).1
      clear hc
      have hb2 := prt_bd (kd xs k)
      obtain ⟨q, hq⟩ := Int.eq_ofNat_of_zero_le hb2.1
      have hq2 : q ≤ 2 := by omega
      have HQ := Lib.hid hq
      have HST := Lib.hid (pe_step (xs := xs) (len := len) (show (0 : Int) < (p : Int) by omega) hlt)
      clear hb2 hq
      go_wp2_with (go_at_call 71; refine (partCount_any _ _).mono ?_; rw [HQ.out]; rintro e w' ⟨rfl, rfl⟩)
      go_round
      case rel => exact ⟨k + 1, p - 1 + q, by omega, hlt, by omega, by go_num, by congr 1; omega, by rw [← HE.out, HST.out, HQ.out]; congr 1; omega⟩
      case measure => simp [intOf]; omega
    · obtain rfl : p = 0 := by omega
      have HV := Lib.hid (show (k : Int) = e by rw [← HE.out]; exact pe_zero.symm)
      go_wp2
      go_ret
      exact ⟨ret_int HV.out, rfl⟩

end Go.Proofs.Ytnoaaklkbfbdbaa

/- Lists of int64 that a call owns, told by values beside lists of nodes: compare, mark and held over them. Conditions: those in the theorems. -/
namespace Go.Proofs.Ytnoaaklkbfbdbaa
open Go.RowKit

/-- The slice value v is the call's own, its block lies in lo .. hi - 1, and it holds xs. -/
def InI (w : World) (lo hi : Nat) (v : Value) (xs : List Int) : Prop := Own w lo v xs ∧ hi ≤ w.heap.size ∧ ∀ k, v.ownBlock = some k → lo ≤ k ∧ k < hi
theorem Own.inI {w : World} {lo : Nat} {v : Value} {xs : List Int} (h : Own w lo v xs) : InI w lo w.heap.size v xs := ⟨h, Nat.le_refl _, World.ownsRow.lt h⟩
theorem InI.below {w w' : World} {lo hi C : Nat} {v : Value} {xs : List Int} (h : InI w lo hi v xs) (hb : Below C w w') (hC : hi ≤ C) : InI w' lo hi v xs := by
  refine ⟨⟨h.1.1, ?_⟩, Nat.le_trans h.2.1 hb.size, h.2.2⟩
  rcases h.1.2 with h2 | ⟨g, cap, cur, hv, hg, hh, r⟩
  · exact .inl h2
  · have hlt := (h.2.2 g (by rw [hv]; rfl)).2
    exact .inr ⟨g, cap, cur, hv, hg, by rw [hb.block g (by omega)]; exact hh, r⟩
theorem InI.other {w w' : World} {lo hi lo' hi' : Nat} {v u : Value} {xs : List Int} (h : InI w lo hi v xs) (hu : ∀ k, u.ownBlock = some k → lo' ≤ k ∧ k < hi') (hg : w.grownBy w' u.ownBlock) (hd : hi ≤ lo' ∨ hi' ≤ lo) : InI w' lo hi v xs := by
  refine ⟨World.ownsRow.kept h.1 hg ?_, Nat.le_trans h.2.1 hg.size, h.2.2⟩
  cases hv : v.ownBlock with
  | none => exact .inl rfl
  | some k =>
    right
    intro e
    have h1 := h.2.2 k hv
    have h2 := hu k e.symm
    omega

theorem eqI_in (xs : List Int) (v v' : Value) (lo hi lo' hi' : Nat) (w : World) (hl : xs.length ≤ 1048576) (h : InI w lo hi v xs) (h' : InI w lo' hi' v' xs) :
    Calls Try.prog 47 #[v, v'] w fun e w' => e = .returned (.bool true) ∧ Below w.heap.size w w' := by
  obtain ⟨a, cap, rfl, hat, -, -, -⟩ := h.1.at
  obtain ⟨a', cap', rfl, hat', -, -, -⟩ := h'.1.at
  refine (eqInt64S_any xs a a' xs.length cap cap' w hl hat hat').mono ?_
  rintro e w' ⟨rfl, q, rfl⟩
  exact ⟨rfl, below_drewN (Below.refl _ _) q⟩

end Go.Proofs.Ytnoaaklkbfbdbaa
