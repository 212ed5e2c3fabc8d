/- Contracts of the program's functions that write the text of a formula: the recursion. Conditions: those in the theorems. -/
import Derived.Test.YtpccocmiadpgiaaText
namespace Go.Proofs.Ytpccocmiadpgiaa
open Go.RowKit

set_option maxHeartbeats 1000000 in
theorem isNegationAt_any (xs : List Nd) (b off len cap : Nat) (w : World) (hl : len ≤ 1048576) (h : AtN w (some ⟨b, off, none⟩) len xs) (f : Fm) (hf : f.ok) (i : Nat) (r : List Nd) (hd : xs.drop i = f.enc ++ r) :
    Calls Try.prog 82 #[.slice (some ⟨b, off, none⟩) len cap, .int .i64 i] w fun e w' => e = .returned (.bool f.isNeg) ∧ w = w' := by
  have H := Lib.hid h
  obtain ⟨hi, hb, c1⟩ := h.kindAt hd
  cases hk : (f.kind == 4)
  · have hn : f.isNeg = false := by
      cases f with
      | bi k a b => show (k == 4 && b.isFa) = false; rw [show (k == 4) = false from hk]; rfl
      | _ => rfl
    rw [hn]
    clear h hd hn
    go_enter Try.func82, Try.ntmps82
    go_wp2
    go_ret
    exact ⟨rfl, rfl⟩
  · cases f with
    | va s => simp [Fm.kind] at hk
    | fa => simp [Fm.kind] at hk
    | un k a =>
      have := hf.1
      simp [Fm.kind] at hk
      omega
    | bi k a d =>
      have hk4 : k = 4 := by simpa [Fm.kind] using hk
      subst hk4
      have hd1 : xs.drop (i + 1) = a.enc ++ (d.enc ++ r) := drop_next (x := (4, 0)) (by rw [hd]; simp [Fm.enc])
      have hd2 : xs.drop (i + 1 + a.sz) = d.enc ++ r := by have := drop_add hd1; rwa [Fm.enc_len] at this
      have hpe := pe_end a hf.2.1 hd1
      rw [← h.1] at hpe
      obtain ⟨hi2, -, c2⟩ := h.kindAt hd2
      have hn : (Fm.bi 4 a d).isNeg = (d.kind == 1) := by rw [kind_fa hf.2.2]; rfl
      rw [hn]
      have hi3 : i + 1 ≤ len := by omega
      have c1' : w.cell? ⟨b, off + i * 2, none⟩ = some (.int .i64 4) := c1
      obtain ⟨j, hj⟩ : ∃ j, j = i + 1 + a.sz := ⟨_, rfl⟩
      rw [← hj] at hpe c2 hi2
      have HP := Lib.hid hpe
      clear h hd hd1 hd2 hpe c1 hk hn hj
      go_enter Try.func82, Try.ntmps82
      go_wp2_with fail
      have hcall := partEnd_any xs (some ⟨b, off, none⟩) len cap (i + 1) _ w hl hi3 H.out HP.out (by omega)
      rw [show ((i + 1 : Nat) : Int) = (i : Int) + 1 by omega] at hcall
      refine hcall.mono ?_
      clear hcall
      rintro e w' ⟨rfl, rfl⟩
      go_wp2
      go_ret
      exact ⟨rfl, rfl⟩

set_option maxHeartbeats 1000000 in
theorem isTruthAt_any (xs : List Nd) (b off len cap : Nat) (w : World) (hl : len ≤ 1048576) (h : AtN w (some ⟨b, off, none⟩) len xs) (f : Fm) (hf : f.ok) (i : Nat) (r : List Nd) (hd : xs.drop i = f.enc ++ r) :
    Calls Try.prog 81 #[.slice (some ⟨b, off, none⟩) len cap, .int .i64 i] w fun e w' => e = .returned (.bool f.isTr) ∧ w = w' := by
  have H := Lib.hid h
  obtain ⟨hi, hb, c1⟩ := h.kindAt hd
  cases hn : f.isNeg
  · have ht : f.isTr = false := by
      cases f with
      | bi k a b => show ((k == 4 && b.isFa) && a.isFa) = false; rw [show (k == 4 && b.isFa) = false from hn]; rfl
      | _ => rfl
    rw [ht]
    have C := Lib.hid (isNegationAt_any xs b off len cap w hl h f hf i r hd)
    have HN := Lib.hid hn
    clear h hd hn ht
    go_enter Try.func81, Try.ntmps81
    go_wp2_with (go_at_call 82; refine C.out.mono ?_; rw [HN.out]; rintro e w' ⟨rfl, rfl⟩)
    go_ret
    exact ⟨rfl, rfl⟩
  · cases f with
    | va s => cases hn
    | fa => cases hn
    | un k a => cases hn
    | bi k a d =>
      have hd1 : xs.drop (i + 1) = a.enc ++ (d.enc ++ r) := drop_next (x := (k, 0)) (by rw [hd]; simp [Fm.enc])
      obtain ⟨hi2, -, c2⟩ := h.kindAt hd1
      have ht : (Fm.bi k a d).isTr = (a.kind == 1) := by rw [kind_fa hf.2.1]; show ((k == 4 && d.isFa) && a.isFa) = _; rw [show (k == 4 && d.isFa) = true from hn]; rfl
      rw [ht]
      have C := Lib.hid (isNegationAt_any xs b off len cap w hl h _ hf i r hd)
      have HN := Lib.hid hn
      clear h hd hn ht hd1
      go_enter Try.func81, Try.ntmps81
      go_wp2_with (go_at_call 82; refine C.out.mono ?_; rw [HN.out]; rintro e w' ⟨rfl, rfl⟩)
      go_ret
      exact ⟨rfl, rfl⟩

def bdA (f : Fm) : Nat := if f.isTr then 5 else if f.isNeg then 4 else bnd f.kind
set_option maxHeartbeats 1000000 in
theorem bindAt_any (xs : List Nd) (b off len cap : Nat) (w : World) (hl : len ≤ 1048576) (h : AtN w (some ⟨b, off, none⟩) len xs) (f : Fm) (hf : f.ok) (i : Nat) (r : List Nd) (hd : xs.drop i = f.enc ++ r) :
    Calls Try.prog 68 #[.slice (some ⟨b, off, none⟩) len cap, .int .i64 i] w fun e w' => e = .returned (.int .i64 (bdA f : Nat)) ∧ w = w' := by
  have C := Lib.hid (isNegationAt_any xs b off len cap w hl h f hf i r hd)
  have D := Lib.hid (isTruthAt_any xs b off len cap w hl h f hf i r hd)
  obtain ⟨hi, hb, c1⟩ := h.kindAt hd
  clear h hd
  cases ht : f.isTr
  · cases hn : f.isNeg
    · have e : ((bdA f : Nat) : Int) = (bnd f.kind : Nat) := by unfold bdA; rw [ht, hn]; rfl
      have HT := Lib.hid ht
      have HN := Lib.hid hn
      have E := Lib.hid e
      clear ht hn e
      go_enter Try.func68, Try.ntmps68
      go_wp2_with (first | (go_at_call 81; refine D.out.mono ?_; rw [HT.out]; rintro e w' ⟨rfl, rfl⟩) | (go_at_call 82; refine C.out.mono ?_; rw [HN.out]; rintro e w' ⟨rfl, rfl⟩) | (go_at_call 79; refine (bindOf_any _ _).mono ?_; rintro e w' ⟨rfl, rfl⟩))
      go_ret
      exact ⟨ret_int E.out.symm, rfl⟩
    · have e : ((bdA f : Nat) : Int) = 4 := by unfold bdA; rw [ht, hn]; rfl
      have HT := Lib.hid ht
      have HN := Lib.hid hn
      have E := Lib.hid e
      clear ht hn e
      go_enter Try.func68, Try.ntmps68
      go_wp2_with (first | (go_at_call 81; refine D.out.mono ?_; rw [HT.out]; rintro e w' ⟨rfl, rfl⟩) | (go_at_call 82; refine C.out.mono ?_; rw [HN.out]; rintro e w' ⟨rfl, rfl⟩))
      go_ret
      exact ⟨ret_int E.out.symm, rfl⟩
  · have e : ((bdA f : Nat) : Int) = 5 := by unfold bdA; rw [ht]; rfl
    have HT := Lib.hid ht
    have E := Lib.hid e
    clear ht e
    go_enter Try.func68, Try.ntmps68
    go_wp2_with (go_at_call 81; refine D.out.mono ?_; rw [HT.out]; rintro e w' ⟨rfl, rfl⟩)
    go_ret
    exact ⟨ret_int E.out.symm, rfl⟩

/-- A formula that binds less tightly than its place asks stands in parentheses. -/
theorem wr_par {f : Fm} (hf : f.ok) (l : Nat) (hl : l ≤ 3) : f.wr l = if l + 1 ≤ bdA f then f.wr 0 else 40 :: (f.wr 0 ++ [41]) := by
  cases f with
  | va s => rw [if_pos (by show l + 1 ≤ 5; omega)]; rfl
  | fa => rw [if_pos (by show l + 1 ≤ 5; omega)]; rfl
  | un k a =>
    have : bdA (.un k a) = 4 := by rcases hf.1 with h | h <;> (rw [h]; rfl)
    rw [if_pos (by omega)]; rfl
  | bi k a b =>
    rcases hf.1 with h | h | h
    · subst h
      have : bdA (.bi 2 a b) = 3 := rfl
      rw [this]
      by_cases h2 : 2 < l
      · rw [if_neg (by omega)]; simp [Fm.wr, Fm.par, h2]
      · rw [if_pos (by omega)]; simp [Fm.wr, Fm.par, h2]
    · subst h
      have : bdA (.bi 3 a b) = 2 := rfl
      rw [this]
      by_cases h2 : 1 < l
      · rw [if_neg (by omega)]; simp [Fm.wr, Fm.par, h2]
      · rw [if_pos (by omega)]; simp [Fm.wr, Fm.par, h2]
    · subst h
      cases hb : b.isFa
      · have : bdA (.bi 4 a b) = 1 := by simp [bdA, Fm.isTr, Fm.isNeg, hb, Fm.kind, bnd]
        rw [this]
        by_cases h2 : 0 < l
        · rw [if_neg (by omega)]; simp [Fm.wr, Fm.par, h2, hb]
        · rw [if_pos (by omega)]; simp [Fm.wr, Fm.par, h2, hb]
      · cases ha : a.isFa
        · have : bdA (.bi 4 a b) = 4 := by simp [bdA, Fm.isTr, Fm.isNeg, hb, ha]
          rw [if_pos (by omega)]; simp [Fm.wr, hb, ha]
        · have : bdA (.bi 4 a b) = 5 := by simp [bdA, Fm.isTr, hb, ha]
          rw [if_pos (by omega)]; simp [Fm.wr, hb, ha]

end Go.Proofs.Ytpccocmiadpgiaa
