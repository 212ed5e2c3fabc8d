/- The contract of the program's test whether a part is a negation. Conditions: those in the theorem. -/
import Derived.Test.YtbhgedabcclimaaText
namespace Go.Proofs.Ytbhgedabcclimaa
open Go.RowKit

set_option maxHeartbeats 1000000 in
theorem isNegAt_any (xs : List Nd) (b off len cap : Nat) (w : World) (hl : len ≤ 1048576) (h : AtN w (some ⟨b, off, none⟩) len xs) (f : Fm) (hf : f.ok) (i : Nat) (r : List Nd) (hd : xs.drop i = f.enc ++ r) :
    Calls Try.prog 127 #[.slice (some ⟨b, off, none⟩) len cap, .int .i64 i] w fun e w' => e = .returned (.bool f.isNeg) ∧ w = w' := by
  have H := Lib.hid h
  obtain ⟨hi, hb, c1⟩ := h.kindAt hd
  cases hk : (f.kind == 4)
  · have hn : f.isNeg = false := by
      cases f with
      | bi k a b => show (k == 4 && b.isFa) = false; rw [show (k == 4) = false from hk]; rfl
      | _ => rfl
    rw [hn]
    clear h hd hn
    go_enter Try.func127, Try.ntmps127
    go_wp2
    go_ret
    exact ⟨rfl, rfl⟩
  · cases f with
    | va s => simp [Fm.kind] at hk
    | fa => simp [Fm.kind] at hk
    | un k a =>
      have := hf.1
      simp [Fm.kind] at hk
      omega
    | bi k a d =>
      have hk4 : k = 4 := by simpa [Fm.kind] using hk
      subst hk4
      have hd1 : xs.drop (i + 1) = a.enc ++ (d.enc ++ r) := drop_next (x := (4, 0)) (by rw [hd]; simp [Fm.enc])
      have hd2 : xs.drop (i + 1 + a.sz) = d.enc ++ r := by have := drop_add hd1; rwa [Fm.enc_len] at this
      have hpe := pe_end a hf.2.1 hd1
      rw [← h.1] at hpe
      obtain ⟨hi2, -, c2⟩ := h.kindAt hd2
      have hn : (Fm.bi 4 a d).isNeg = (d.kind == 1) := by rw [kind_fa hf.2.2]; rfl
      rw [hn]
      have hi3 : i + 1 ≤ len := by omega
      have c1' : w.cell? ⟨b, off + i * 2, none⟩ = some (.int .i64 4) := c1
      obtain ⟨j, hj⟩ : ∃ j, j = i + 1 + a.sz := ⟨_, rfl⟩
      rw [← hj] at hpe c2 hi2
      have HP := Lib.hid hpe
      clear h hd hd1 hd2 hpe c1 hk hn hj
      go_enter Try.func127, Try.ntmps127
      go_wp2_with fail
      have hcall := partEnd_any xs (some ⟨b, off, none⟩) len cap (i + 1) _ w hl hi3 H.out HP.out (by omega)
      rw [show ((i + 1 : Nat) : Int) = (i : Int) + 1 by omega] at hcall
      refine hcall.mono ?_
      clear hcall
      rintro e w' ⟨rfl, rfl⟩
      go_wp2
      go_ret
      exact ⟨rfl, rfl⟩

end Go.Proofs.Ytbhgedabcclimaa
