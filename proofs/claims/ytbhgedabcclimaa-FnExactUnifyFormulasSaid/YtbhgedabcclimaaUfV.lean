/- UnifyFormulas of the model, told by values. Conditions: those in the theorems. -/
import Derived.Test.YtbhgedabcclimaaUfS
namespace Go.Proofs.Ytbhgedabcclimaa
open Go.RowKit

theorem uf_lim : ∀ (n : Nat) (xs ys : List Nd) (im : List (List Nd)), im.length = 6 → limB im 6 = true → (uf n xs ys im).1 = [] ∨ ((uf n xs ys im).1.length = 6 ∧ limB (uf n xs ys im).1 6 = true) := by
  intro n
  induction n with
  | zero => intro xs ys im _ _; exact .inl rfl
  | succ n ih =>
    intro xs ys im h6 hl
    by_cases he : xs = ys
    · rw [uf_eq he]; exact .inr ⟨h6, hl⟩
    · cases hn : nx xs ys with
      | none => rw [uf_no he hn]; exact .inl rfl
      | some p =>
        obtain ⟨q, e⟩ := p
        rw [uf_step he hn]
        by_cases ho : okU (bd q e xs) (bd q e ys) (thTo (sgB q e) im 6) = true
        · rw [if_pos ho]; exact ih _ _ _ (thTo_len _ _ _) (okU_all ho).1
        · rw [if_neg ho]; exact .inl rfl
def ufR (xs ys : List Nd) : List (List Nd) := if isB xs xs.length && isB ys ys.length then (uf 7 xs ys (selfTo 6)).1 else []
def ufC (xs ys : List Nd) : Int := if isB xs xs.length && isB ys ys.length then (uf 7 xs ys (selfTo 6)).2 else 1
theorem uf_bad {xs ys : List Nd} (h : (isB xs xs.length && isB ys ys.length) = false) : ufR xs ys = [] ∧ ufC xs ys = 1 := by simp only [ufR, ufC, h]; exact ⟨rfl, rfl⟩
theorem uf_good {xs ys : List Nd} (h : (isB xs xs.length && isB ys ys.length) = true) : uf 7 xs ys (selfTo 6) = (ufR xs ys, ufC xs ys) := by simp only [ufR, ufC, h]; rfl
theorem limB_self : limB (selfTo 6) 6 = true := by decide
theorem UnifyFormulas_len (xs ys : List Nd) : (ufR xs ys).length ≤ 1048576 ∧ szTo (ufR xs ys) (ufR xs ys).length ≤ 1048576 := by
  cases h : (isB xs xs.length && isB ys ys.length)
  · rw [(uf_bad h).1]; simp [szTo]
  · have e : ufR xs ys = (uf 7 xs ys (selfTo 6)).1 := by rw [uf_good h]
    rw [e]
    rcases uf_lim 7 xs ys (selfTo 6) (selfTo_len 6) limB_self with h1 | ⟨h6, hl⟩
    · rw [h1]; simp [szTo]
    · rw [h6]
      have := szTo_le' (n := 6) (m := 40) (fun j hj => limB_at hl hj) 6 (Nat.le_refl _)
      omega

set_option maxHeartbeats 2000000 in
theorem specUnifyFormulas_g (x0 x1 : List Nd) (a : Option Addr) (cap : Nat) (a' : Option Addr) (cap' : Nat) (w : World) (hl : x0.length ≤ 1048576) (hl' : x1.length ≤ 1048576) (hat : AtN w a x0.length x0) (hca0 : x0.length ≤ cap) (hcb0 : cap ≤ maxLen) (hat' : AtN w a' x1.length x1) (hca : x1.length ≤ cap') (hcb : cap' ≤ maxLen) :
    Calls Try.prog 33 #[.slice a x0.length cap, .slice a' x1.length cap'] w fun e w' => ∃ v', e = .returned (.tuple #[v', .int .i64 (ufC x0 x1)]) ∧ OwnL w' w.heap.size v' (ufR x0 x1) ∧ Below w.heap.size w w' := by
  have H := Lib.hid hat
  have H' := Lib.hid hat'
  clear hat hat'
  unfold maxLen at hcb hcb0
  cases hb : (isB x0 x0.length && isB x1 x1.length)
  · obtain ⟨e1, e2⟩ := uf_bad hb
    rw [e1, e2]
    cases hb0 : isB x0 x0.length
    · have HB := Lib.hid hb0
      clear hb e1 e2 hb0
      go_enter Try.func33, Try.ntmps33
      go_wp2_with (go_at_call 53; refine (l02Is_any _ _ _ _ _ hl H.out).mono ?_; rw [HB.out]; rintro e w' ⟨rfl, rfl⟩)
      go_ret2
      exact ⟨_, rfl, ownL_nil _ _, Below.refl _ _⟩
    · have HB := Lib.hid hb0
      have HB' := Lib.hid (show isB x1 x1.length = false by rw [hb0] at hb; simpa using hb)
      clear hb e1 e2 hb0
      go_enter Try.func33, Try.ntmps33
      go_wp2_with fail
      refine (l02Is_any _ _ _ _ _ hl H.out).mono ?_
      rw [HB.out]
      rintro e w' ⟨rfl, rfl⟩
      go_wp2_with fail
      refine (l02Is_any _ _ _ _ _ hl' H'.out).mono ?_
      rw [HB'.out]
      rintro e w' ⟨rfl, rfl⟩
      go_wp2
      go_ret2
      exact ⟨_, rfl, ownL_nil _ _, Below.refl _ _⟩
  · have U := Lib.hid (uf_good hb)
    have hbb : isB x0 x0.length = true ∧ isB x1 x1.length = true := by simpa using hb
    have HB := Lib.hid hbb.1
    have HB' := Lib.hid hbb.2
    clear hb hbb
    go_enter Try.func33, Try.ntmps33
    go_wp2_with fail
    refine (l02Is_any _ _ _ _ _ hl H.out).mono ?_
    rw [HB.out]
    rintro e w' ⟨rfl, rfl⟩
    go_wp2_with fail
    refine (l02Is_any _ _ _ _ _ hl' H'.out).mono ?_
    rw [HB'.out]
    rintro e w' ⟨rfl, rfl⟩
    go_wp2_with fail
    refine (l03Unify_any x0 x1 _ _ _ _ _ HB.out HB'.out ⟨hca0, by omega⟩ ⟨hca, by omega⟩ H.out H'.out _ _ U.out).mono ?_
    rintro e w1 ⟨v1, rfl, ho1, hb1⟩
    have O1 := Lib.hid ho1
    have B1 := Lib.hid hb1
    clear ho1 hb1
    go_wp2
    go_ret2
    exact ⟨_, rfl, O1.out, B1.out⟩
theorem specUnifyFormulas_v (x0 x1 : List Nd) (v : Value) (lo hi : Nat) (u : Value) (lo' hi' : Nat) (w : World) (hl : x0.length ≤ 1048576) (hl' : x1.length ≤ 1048576) (h : InN w lo hi v x0) (h' : InN w lo' hi' u x1) :
    Calls Try.prog 33 #[v, u] w fun e w' => ∃ v', e = .returned (.tuple #[v', .int .i64 (ufC x0 x1)]) ∧ OwnL w' w.heap.size v' (ufR x0 x1) ∧ Below w.heap.size w w' := by
  obtain ⟨a, cap, rfl, hat, hca0, hcb0⟩ := h.at'
  obtain ⟨a', cap', rfl, hat', hca, hcb⟩ := h'.at'
  exact specUnifyFormulas_g x0 x1 a cap a' cap' w hl hl' hat hca0 hcb0 hat' hca hcb

end Go.Proofs.Ytbhgedabcclimaa
