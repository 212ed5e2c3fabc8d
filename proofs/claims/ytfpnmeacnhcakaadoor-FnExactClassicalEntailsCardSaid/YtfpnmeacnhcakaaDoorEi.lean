/- ClassicalEntails: the values of the model's and the program's calls. Conditions: the package's table for the program, and those in the theorems. -/
import Derived.Test.YtfpnmeacnhcakaaDoorEn
import Derived.Lib.SliceRun
namespace Go.Proofs.YtfpnmeacnhcakaaDoor
open Go.RowKit

set_option maxHeartbeats 2000000 in
theorem specClassicalEntails_v (x0 : List (List Nd)) (x1 : List Nd) (v : Value) (lo hi : Nat) (u : Value) (lo' hi' : Nat) (w : World) (hl : x0.length ≤ 1048576 ∧ szTo x0 x0.length ≤ 1048576) (hl' : x1.length ≤ 1048576) (h : InNN w lo hi v x0) (h' : InN w lo' hi' u x1) :
    Calls Tryd.prog 27 #[v, u] w fun e w' => e = .returned (.tuple #[.bool (enV x0 x1), .int .i64 (ckE x0 x1)]) ∧ Below w.heap.size w w' := by
  obtain ⟨a, cap, rfl, hc0, hat⟩ := h.atC
  obtain ⟨a', cap', rfl, hat', hca, hcb⟩ := h'.at'
  have hs := sz_all hl.2
  have hl0 := hl.1
  have H := Lib.hid hat
  have H' := Lib.hid hat'
  have AL := Lib.hid (app_len hs hl')
  have LEN : x0.length = x0.length := rfl
  clear h h' hat hat' hs hl LEN
  have W0 := Lib.hid (show (w.alloc (.cells #[] 26)).ownsRow w.heap.size 26 1 (.slice (some ⟨w.heap.size, 0, none⟩) 0 0) 0 [] from World.ownsRow_made w #[] 0 (Nat.le_refl _) (Nat.zero_le _) rfl)
  have B0 := Lib.hid ((Below.refl w.heap.size w).alloc (Nat.le_refl _) (.cells #[] 26))
  have key : ∀ w' : World, Below w.heap.size w w' → ckE x0 x1 = 0 → Calls Tryd.prog 47 #[.slice a x0.length cap, .slice a' x1.length cap'] w' fun e w'' => e = .returned (.bool (enV x0 x1)) ∧ w' = w'' := fun w' hb h0 => by
    obtain ⟨g1, g2⟩ := ckE_good h0
    obtain ⟨b, off, rfl, hf, f1, f4, h40⟩ := plain_at g2 (H'.out.keep hb (Nat.le_refl _)) hca hcb
    rw [enV_good h0]
    exact l04Entails_any x0 (toFm x1) g1 f1 f4 a x0.length cap b off x1.length cap' w' hl0 hl' (H.out.keep hb (Nat.le_refl _)) hf
  have K := Lib.hid key
  have BAD := Lib.hid (fun h => enV_bad (xss := x0) (xs := x1) h)
  clear key
  have CH : ∀ (a2 : Option Addr) (c2 : Nat) (W : World), AtNN W a2 (x0 ++ [x1]).length (x0 ++ [x1]) → Calls Tryd.prog 31 #[.slice a2 (x0.length + 1) c2] W fun e w' => e = .returned (.int .i64 (ckE x0 x1)) ∧ W = w' := fun a2 c2 W h => by
    simp only [List.length_append, List.length_singleton] at h
    exact l04Code_any (x0 ++ [x1]) a2 _ c2 W (by omega) AL.out h
  have C := Lib.hid CH
  clear CH
  generalize ckE x0 x1 = z at K BAD C ⊢
  generalize enV x0 x1 = r at K BAD ⊢
  go_enter Tryd.func27, Tryd.ntmps27
  go_wp2_with (at_builtin; refine list_appSh (wr := w) rfl _ _ rfl w.heap.size w.heap.size 0 rfl W0.out x0 a x0.length cap rfl H.out (Nat.le_refl _) B0.out (by omega) B0.out.size ?_)
  intro v1 w1 us hr1 hsh1 hb1 hs1
  have R1 := Lib.hid hr1
  have S1 := Lib.hid hsh1
  have B1 := Lib.hid hb1
  have HS1 := Lib.hid hs1
  clear hr1 hsh1 hb1 W0 B0
  go_wp2_with (at_builtin; refine list_appSh1 (wr := w) (w1 := w1) rfl _ _ rfl w.heap.size v1 rfl us x0 x0.length R1.out S1.out rfl (Nat.le_refl _) B1.out HS1.out hl0 a' x1 cap' H'.out hca hcb _ rfl 1 rfl ?_)
  intro a2 c2 w2 hat2 hb2 hs2
  have A2 := Lib.hid hat2.nn
  have B2 := Lib.hid hb2
  clear hat2 hb2 R1 S1 B1 HS1
  have C2 := Lib.hid (C.out a2 c2 w2 (by simpa using A2.out))
  go_wp2_with fail
  refine C2.out.mono ?_
  rintro e w' ⟨rfl, rfl⟩
  by_cases h0 : z = 0
  · have K3 := Lib.hid (K.out w2 B2.out h0)
    subst h0
    clear K BAD C
    go_wp2_with fail
    refine K3.out.mono ?_
    rintro e w' ⟨rfl, rfl⟩
    go_wp2
    go_ret2
    exact ⟨rfl, B2.out⟩
  · have hr := BAD.out h0
    subst hr
    have hne : (z == 0) = false := by simpa using h0
    clear K BAD C h0
    go_wp2
    go_ret2
    exact ⟨rfl, B2.out⟩

theorem slCloneNN_any (xss : List (List Nd)) (a : Option Addr) (len cap : Nat) (w : World) (hl : len ≤ 1048576) (h : AtNC w a len xss) :
    Calls Tryd.prog 49 #[.slice a len cap] w fun e w' => ∃ v us, e = .returned v ∧ w'.ownsRow w.heap.size 26 1 v len us ∧ ShC w us xss ∧ Below w.heap.size w w' := by
  have H := Lib.hid h
  have B0 := Lib.hid ((Below.refl w.heap.size w).alloc (Nat.le_refl _) (.cells #[] 26))
  have W0 := Lib.hid (show (w.alloc (.cells #[] 26)).ownsRow w.heap.size 26 1 (.slice (some ⟨w.heap.size, 0, none⟩) 0 0) 0 [] from World.ownsRow_made w #[] 0 (Nat.le_refl _) (Nat.zero_le _) rfl)
  have qT : ∀ (w : World) (a : Option Addr) (n c n' c' : Nat), (binOp .eql 43 (.slice a n c) (.slice none n' c')).run Tryd.prog w = .ok (.bool a.isNone) w := fun w a n c n' c' => Lib.run_eql_slice_nil w _ _ a n c n' c' Tryd.underlying43
  cases a with
  | none =>
    obtain ⟨h1, us, h2, h3⟩ := h
    have h0 : len = 0 := by
      rcases h3 with h3 | ⟨b, off, ha, -⟩
      · exact h3
      · cases ha
    subst h0
    have hu : us = [] := List.eq_nil_of_length_eq_zero (by rw [h2.1, ← h1])
    subst hu
    have S := Lib.hid h2
    clear h1 h2 h3 H W0 B0
    go_enter Tryd.func49, Tryd.ntmps49
    go_wp2
    go_ret
    exact ⟨_, [], rfl, World.ownsRow_nil w _ _ 1, S.out, Below.refl _ _⟩
  | some ad =>
    clear h
    go_enter Tryd.func49, Tryd.ntmps49
    go_wp2_with (at_builtin; refine list_appSh (wr := w) rfl _ _ rfl w.heap.size w.heap.size 0 rfl W0.out xss (some ad) len cap rfl H.out (Nat.le_refl _) B0.out hl B0.out.size ?_)
    intro v1 w1 us hr1 hsh1 hb1 hs1
    have R1 := Lib.hid hr1
    have S1 := Lib.hid hsh1
    have B1 := Lib.hid hb1
    clear hr1 hsh1 hb1 W0 B0
    go_wp2
    go_ret
    exact ⟨_, us, rfl, R1.out, S1.out, B1.out⟩

end Go.Proofs.YtfpnmeacnhcakaaDoor
