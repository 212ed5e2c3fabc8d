/- The search in the table of axioms. Conditions: those in the theorems. -/
import Derived.Laws.EntriesVeiled
import Derived.Test.YtbfpfhmhgcmbaaaAu0
namespace Go.Proofs.Ytbfpfhmhgcmbaaa
open Go.RowKit

set_option maxHeartbeats 2000000 in
theorem findA_any (s : ByteArray) (b : Nat) (w : World) (h : AxT w b) :
    Calls Try.prog 31 #[.slice (some ⟨b, 0, none⟩) 13 13, .string s] w fun e w' => e = .returned (.tuple #[.int .i64 (fdI nmA s), .int .i64 (fdC nmA s)]) ∧ Below w.heap.size w w' := by
  have H := Lib.hid h
  have hbs := h.1
  clear h
  go_enter Try.func31, Try.ntmps31
  go_wp2
  go_loopw [10] (fun i wr => ∃ k : Nat, k ≤ 13 ∧ i = .int .i64 k ∧ Hid (fdF (nmA.drop k) s (k : Int) = fdV nmA s) ∧ Hid (Below w.heap.size w wr)) (fun i _ => 13 - (intOf i).toNat)
  case atStart => exact ⟨0, by omega, rfl, Lib.hid rfl, Lib.hid (Below.refl _ _)⟩
  case round =>
    obtain ⟨k, hk, rfl, HF, HB⟩ := hrel
    by_cases hlt : k < 13
    · obtain ⟨t, ht⟩ : ∃ t, t = stx (nthS nmA k) := ⟨_, rfl⟩
      obtain ⟨t2, ht2⟩ : ∃ t, t = stx (nthS txA k) := ⟨_, rfl⟩
      obtain ⟨h1, h2, u, h3, hc⟩ := H.out.2 k hlt
      have g1 : wr.cell? ⟨b, k * 3, none⟩ = some (.string t) := by rw [ht]; exact (HB.out.cell (p := ⟨b, k * 3, none⟩) hbs).trans h1
      have g2 : wr.cell? ⟨b, k * 3 + 1, none⟩ = some (.string t2) := by rw [ht2]; exact (HB.out.cell (p := ⟨b, k * 3 + 1, none⟩) hbs).trans h2
      have g3 : wr.cell? ⟨b, k * 3 + 2, none⟩ = some u := (HB.out.cell (p := ⟨b, k * 3 + 2, none⟩) hbs).trans h3
      obtain ⟨f, cp, hv⟩ : ∃ f cp, u = .func (.func f) #[] cp := by
        rcases hc with ⟨-, -, B, rfl, -⟩ | ⟨-, rfl⟩ | ⟨-, rfl⟩
        · exact ⟨_, _, rfl⟩
        · exact ⟨_, _, rfl⟩
        · exact ⟨_, _, rfl⟩
      have ST := HF.out
      rw [fd_step (by show k < 13; omega), ← ht] at ST
      have ST := Lib.hid ST
      clear ht ht2 h1 h2 h3 hc
      subst hv
      have B2 := Lib.hid (HB.out.alloc HB.out.size (.cells #[.string t, .string t2, .func (.func f) #[] cp] 63))
      by_cases e : t = s
      · subst e
        have R := Lib.hid (show Ending.returned (.tuple #[.int .i64 (k : Int), .int .i64 0]) = .returned (.tuple #[.int .i64 (fdI nmA t), .int .i64 (fdC nmA t)]) by have q := ST.out; rw [if_pos rfl] at q; rw [fdI, fdC, ← q, if_neg (by omega), if_neg (by omega)])
        clear ST HF HB
        go_wp2
        go_ret2
        exact ⟨R.out, B2.out⟩
      · have R := Lib.hid (show fdF (nmA.drop (k + 1)) s ((k + 1 : Nat) : Int) = fdV nmA s by have q := ST.out; rwa [if_neg e] at q)
        have en := bs_no e
        go_wp2
        go_roundw
        case rel => exact ⟨k + 1, hlt, by go_num, R, B2⟩
        case measure => simp [intOf]; omega
    · obtain rfl : k = 13 := by omega
      have R := Lib.hid (show (-1 : Int) = fdV nmA s by have q := HF.out; exact q)
      go_wp2
      go_ret2
      exact ⟨by rw [fdI, fdC, ← R.out]; rfl, HB.out⟩

theorem bxA {w w1 : World} (hb : Below (w.alloc (.cells #[.string ⟨#[]⟩, Value.nilFunc] 48)).heap.size (w.alloc (.cells #[.string ⟨#[]⟩, Value.nilFunc] 48)) w1) :
    w1.cell? ⟨w.heap.size, 0, none⟩ = some (.string ⟨#[]⟩) ∧ w1.cell? ⟨w.heap.size, 1, none⟩ = some .nilFunc ∧ w1.frozen? ⟨w.heap.size, 0, none⟩ = false ∧ w1.frozen? ⟨w.heap.size, 1, none⟩ = false ∧ w.heap.size < w1.heap.size := by
  have hlt : w.heap.size < (w.alloc (.cells #[.string ⟨#[]⟩, Value.nilFunc] 48)).heap.size := by simp
  exact ⟨(hb.cell (p := ⟨w.heap.size, 0, none⟩) hlt).trans (World.cell?_alloc_new _ _ _ 0), (hb.cell (p := ⟨w.heap.size, 1, none⟩) hlt).trans (World.cell?_alloc_new _ _ _ 1), (hb.frozen (p := ⟨w.heap.size, 0, none⟩) hlt).trans (World.frozen?_alloc_new _ _ _ 0), (hb.frozen (p := ⟨w.heap.size, 1, none⟩) hlt).trans (World.frozen?_alloc_new _ _ _ 1), Nat.lt_of_lt_of_le hlt hb.size⟩

set_option maxHeartbeats 2000000 in
theorem entryA_no (s : ByteArray) (hf : fdV nmA s = -1) (b : Nat) (w : World) (h : AxT w b) :
    Calls Try.prog 21 #[.slice (some ⟨b, 0, none⟩) 13 13, .string s] w fun e w' => e = .returned (.tuple #[.agg #[.string (stx []), Value.nilFunc], .int .i64 4]) ∧ Below w.heap.size w w' := by
  have E1 := Lib.hid (show fdI nmA s = 0 by rw [fdI, if_pos hf])
  have E2 := Lib.hid (show fdC nmA s = 4 by rw [fdC, if_pos hf])
  have H := Lib.hid h
  clear h hf
  have B0 := Lib.hid (alloc_keep w (.cells #[.string ⟨#[]⟩, Value.nilFunc] 48)).1
  go_enter Try.func21, Try.ntmps21
  go_wp2_with fail
  refine (findA_any s b _ (H.out.keep B0.out)).mono ?_
  rw [E1.out, E2.out]
  rintro e w1 ⟨rfl, hb⟩
  obtain ⟨x0, x1, x2, x3, x4⟩ := bxA hb
  have B1 := Lib.hid (B0.out.trans (hb.mono B0.out.size))
  clear hb
  go_wp2
  exact bodyPost_ret (v := .tuple #[.agg #[.string ⟨#[]⟩, .nilFunc], .int .i64 4]) (by simp [results, Try.results21, go_sem, x0, x1, x4]) rfl ⟨rfl, ((B1.out.setCell (Nat.le_refl _) _).setCell (Nat.le_refl _) _).alloc (by simpa [World.setCell] using B1.out.size) _⟩

set_option maxHeartbeats 2000000 in
theorem entryA_any (s : ByteArray) (i : Nat) (hi : i < 13) (hf : fdV nmA s = i) (b : Nat) (w : World) (h : AxT w b) :
    Calls Try.prog 21 #[.slice (some ⟨b, 0, none⟩) 13 13, .string s] w fun e w' => ∃ v, e = .returned (.tuple #[.agg #[.string (stx (nthS txA i)), v], .int .i64 0]) ∧ CondV w' i v ∧ Below w.heap.size w w' := by
  have E1 := Lib.hid (show fdI nmA s = i by rw [fdI, if_neg (by rw [hf]; omega), hf])
  have E2 := Lib.hid (show fdC nmA s = 0 by rw [fdC, if_neg (by rw [hf]; omega)])
  have hi3 : (i : Int) < 13 := by omega
  have H := Lib.hid h
  clear h hf
  have B0 := Lib.hid (alloc_keep w (.cells #[.string ⟨#[]⟩, Value.nilFunc] 48)).1
  go_enter Try.func21, Try.ntmps21
  go_wp2_with fail
  refine (findA_any s b _ (H.out.keep B0.out)).mono ?_
  rw [E1.out, E2.out]
  rintro e w1 ⟨rfl, hb⟩
  obtain ⟨x0, x1, x2, x3, x4⟩ := bxA hb
  have B1 := Lib.hid (B0.out.trans (hb.mono B0.out.size))
  clear hb
  obtain ⟨-, h2', u, h3', hc⟩ := H.out.2 i hi
  have h2 : w1.cell? ⟨b, i * 3 + 1, none⟩ = some (.string (stx (nthS txA i))) := (B1.out.cell (p := ⟨b, i * 3 + 1, none⟩) H.out.1).trans h2'
  have h3 : w1.cell? ⟨b, i * 3 + 2, none⟩ = some u := (B1.out.cell (p := ⟨b, i * 3 + 2, none⟩) H.out.1).trans h3'
  clear h2' h3'
  obtain ⟨f, cp, hv⟩ : ∃ f cp, u = .func (.func f) #[] cp := by
    rcases hc with ⟨-, -, B, rfl, -⟩ | ⟨-, rfl⟩ | ⟨-, rfl⟩
    · exact ⟨_, _, rfl⟩
    · exact ⟨_, _, rfl⟩
    · exact ⟨_, _, rfl⟩
  subst hv
  have HC := Lib.hid hc
  clear hc
  obtain ⟨t2, ht2⟩ : ∃ t, t = stx (nthS txA i) := ⟨_, rfl⟩
  rw [← ht2] at h2
  have HT := Lib.hid ht2
  clear ht2
  go_wp2
  exact bodyPost_ret (v := .tuple #[.agg #[.string t2, .func (.func f) #[] cp], .int .i64 0]) (by simp [results, Try.results21, go_sem, x0, x1]) rfl ⟨_, by rw [HT.out], HC.out.keep ((B1.out.setCell (Nat.le_refl _) _).setCell (Nat.le_refl _) _), (B1.out.setCell (Nat.le_refl _) _).setCell (Nat.le_refl _) _⟩

end Go.Proofs.Ytbfpfhmhgcmbaaa
