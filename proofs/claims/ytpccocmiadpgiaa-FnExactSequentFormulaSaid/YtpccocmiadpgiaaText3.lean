/- Contracts of the program's functions that write the text of a formula: appendPart, appendBare, appendLinked and textOf. Conditions: those in the theorems. -/
import Derived.Test.YtpccocmiadpgiaaJn13
namespace Go.Proofs.Ytpccocmiadpgiaa
open Go.RowKit

/-- What appendBare does at a formula. -/
def BareC (f : Fm) : Prop := ∀ (xs : List Nd) (b off len cap : Nat) (w : World) (i : Nat) (r : List Nd) (v : Value) (B : Nat) (ys : List UInt8), len ≤ 1048576 → AtN w (some ⟨b, off, none⟩) len xs → b < B → B ≤ w.heap.size →
    xs.drop i = f.enc ++ r → OwnY w B v ys → ys.length + 8 * f.sz ≤ 4194304 →
    Calls Try.prog 69 #[v, .slice (some ⟨b, off, none⟩) len cap, .int .i64 i] w fun e w' => ∃ v', e = .returned v' ∧ OwnY w' B v' (ys ++ f.wr 0) ∧ Below B w w'
def PartC (f : Fm) : Prop := ∀ (xs : List Nd) (b off len cap : Nat) (w : World) (i : Nat) (r : List Nd) (v : Value) (B : Nat) (ys : List UInt8) (m : Nat), len ≤ 1048576 → AtN w (some ⟨b, off, none⟩) len xs → b < B → B ≤ w.heap.size →
    xs.drop i = f.enc ++ r → OwnY w B v ys → ys.length + 8 * f.sz + 2 ≤ 4194304 → m ≤ 3 →
    Calls Try.prog 60 #[v, .slice (some ⟨b, off, none⟩) len cap, .int .i64 i, .int .i64 ((m + 1 : Nat) : Int)] w fun e w' => ∃ v', e = .returned v' ∧ OwnY w' B v' (ys ++ f.wr m) ∧ Below B w w'

set_option maxHeartbeats 1000000 in
theorem part_of (f : Fm) (hf : f.ok) (hb : BareC f) : PartC f := by
  intro xs b off len cap w i r v B ys m hl h hbB hB hd hown hy hm
  have H := Lib.hid h
  have O := Lib.hid hown
  have C := Lib.hid (bindAt_any xs b off len cap w hl h f hf i r hd)
  have D := Lib.hid hd
  have HB := Lib.hid hb
  have hwr := wr_par hf m hm
  obtain ⟨n, hn⟩ : ∃ n, n = m + 1 := ⟨_, rfl⟩
  rw [← hn] at hwr ⊢
  by_cases hle : n ≤ bdA f
  · rw [if_pos hle] at hwr
    rw [hwr]
    clear hwr h hown hd hb hn
    obtain ⟨q, hq⟩ : ∃ q, q = bdA f := ⟨_, rfl⟩
    rw [← hq] at hle C
    clear hq
    go_enter Try.func60, Try.ntmps60
    go_wp2_with fail
    refine C.out.mono ?_
    rintro e w' ⟨rfl, rfl⟩
    go_wp2_with fail
    refine (HB.out xs b off len cap _ i r v B ys hl H.out hbB hB D.out O.out (by omega)).mono ?_
    rintro e w1 ⟨v1, rfl, ho1, hb1⟩
    have O1 := Lib.hid ho1
    clear ho1
    go_wp2
    go_ret
    exact ⟨_, rfl, O1.out, hb1⟩
  · rw [if_neg hle] at hwr
    rw [hwr]
    clear hwr h hown hd hb hn
    obtain ⟨q, hq⟩ : ∃ q, q = bdA f := ⟨_, rfl⟩
    rw [← hq] at hle C
    clear hq
    have hle' : q < n := by omega
    clear hle
    go_enter Try.func60, Try.ntmps60
    go_wp2_with fail
    refine C.out.mono ?_
    rintro e w' ⟨rfl, rfl⟩
    have BA := Lib.hid ((Below.refl B w).alloc hB (.cells #[.int .u8 40] 5))
    go_wp2_with (at_builtin; refine list_appY1 rfl _ _ rfl B v ys rfl (O.out.alloc _) ⟨w.heap.size, 0, none⟩ 1 40 40 rfl (World.cell?_alloc_at _ _ _ _ rfl) rfl (by omega) (by simp; omega) ?_)
    intro v1 w1 ho1 hg1
    have B1 := Lib.hid (below_appY BA.out (by simp; omega) (World.ownsRow.alloc O.out _) hg1)
    have O1 := Lib.hid ho1
    clear ho1 hg1
    go_wp2_with fail
    refine (HB.out xs b off len cap _ i r v1 B (ys ++ [40]) hl (H.out.keepB B1.out hbB) hbB (Nat.le_trans hB B1.out.size) D.out O1.out (by simp; omega)).mono ?_
    rintro e w2 ⟨v2, rfl, ho2, hb2⟩
    have B2 := Lib.hid (B1.out.trans hb2)
    have O2 := Lib.hid ho2
    have hs2 : B ≤ w2.heap.size := Nat.le_trans hB B2.out.size
    have BC := Lib.hid ((Below.refl B w2).alloc hs2 (.cells #[.int .u8 41] 5))
    have LN : Hid ((ys ++ [40] ++ f.wr 0).length ≤ 8388608) := by
      show (ys ++ [40] ++ f.wr 0).length ≤ 8388608
      have := f.wr_len 0
      simp only [List.length_append, List.length_cons, List.length_nil]
      omega
    clear ho2 hb2
    go_wp2_with (at_builtin; refine list_appY1 rfl _ _ rfl B v2 _ rfl (O2.out.alloc _) ⟨w2.heap.size, 0, none⟩ 1 41 41 rfl (World.cell?_alloc_at _ _ _ _ rfl) rfl LN.out (by simp; omega) ?_)
    intro v3 w3 ho3 hg3
    have B3 := Lib.hid (B2.out.trans (below_appY BC.out (by simp; omega) (World.ownsRow.alloc O2.out _) hg3))
    have O3 := Lib.hid ho3
    clear ho3 hg3
    go_wp2
    go_ret
    exact ⟨_, rfl, O3.out, B3.out⟩

set_option maxHeartbeats 1000000 in
theorem linked_of (k : Int) (f g : Fm) (hf : f.ok) (hpf : PartC f) (hpg : PartC g) (c : UInt8) (m n : Nat) (hm : m ≤ 3) (hn : n ≤ 3) (xs : List Nd) (b off len cap : Nat) (w : World) (i : Nat) (r : List Nd) (v : Value) (B : Nat) (ys : List UInt8)
    (hl : len ≤ 1048576) (h : AtN w (some ⟨b, off, none⟩) len xs) (hbB : b < B) (hB : B ≤ w.heap.size) (hd : xs.drop i = (Fm.bi k f g).enc ++ r) (hown : OwnY w B v ys) (hy : ys.length + 8 * (Fm.bi k f g).sz ≤ 4194304) :
    Calls Try.prog 83 #[v, .slice (some ⟨b, off, none⟩) len cap, .int .i64 i, .int .u8 (c.toNat : Int), .int .i64 ((m + 1 : Nat) : Int), .int .i64 ((n + 1 : Nat) : Int)] w fun e w' => ∃ v', e = .returned v' ∧ OwnY w' B v' (ys ++ (f.wr m ++ c :: g.wr n)) ∧ Below B w w' := by
  have hd1 : xs.drop (i + 1) = f.enc ++ (g.enc ++ r) := drop_next (x := (k, 0)) (by rw [hd]; simp [Fm.enc])
  have hd2 : xs.drop (i + 1 + f.sz) = g.enc ++ r := by have := drop_add hd1; rwa [Fm.enc_len] at this
  have hpe := pe_end f hf hd1
  rw [← h.1] at hpe
  obtain ⟨hi1, -, -⟩ := h.kindAt hd1
  have hs : (Fm.bi k f g).sz = 1 + f.sz + g.sz := rfl
  have hw1 := f.wr_len m
  have hy1 : ys.length + 8 * f.sz + 2 ≤ 4194304 := by omega
  have hy2 : ys.length + (f.wr m).length + 1 + 8 * g.sz + 2 ≤ 4194304 := by omega
  have H := Lib.hid h
  have O := Lib.hid hown
  have D1 := Lib.hid hd1
  have D2 := Lib.hid hd2
  have HP := Lib.hid hpe
  have PF := Lib.hid hpf
  have PG := Lib.hid hpg
  obtain ⟨u, hu⟩ : ∃ u : Int, u = (c.toNat : Int) := ⟨_, rfl⟩
  rw [← hu]
  have HU := Lib.hid hu
  have H1 := Lib.hid hy1
  have H2 := Lib.hid hy2
  clear h hown hd hd1 hd2 hpe hpf hpg hu hs hw1 hy hy1 hy2
  go_enter Try.func83, Try.ntmps83
  go_wp2_with fail
  have hcall := PF.out xs b off len cap w (i + 1) _ v B ys m hl H.out hbB hB D1.out O.out H1.out hm
  rw [show ((i + 1 : Nat) : Int) = (i : Int) + 1 by omega] at hcall
  refine hcall.mono ?_
  clear hcall
  rintro e w1 ⟨v1, rfl, ho1, hb1⟩
  have B1 := Lib.hid hb1
  have O1 := Lib.hid ho1
  have hs1 : B ≤ w1.heap.size := Nat.le_trans hB hb1.size
  have BA := Lib.hid ((Below.refl B w1).alloc hs1 (.cells #[.int .u8 u] 5))
  have LN : Hid ((ys ++ f.wr m).length ≤ 8388608) := by
    show (ys ++ f.wr m).length ≤ 8388608
    have := H2.out
    rw [List.length_append]
    omega
  clear ho1 hb1
  go_wp2_with (at_builtin; refine list_appY1 rfl _ _ rfl B v1 _ rfl (O1.out.alloc _) ⟨w1.heap.size, 0, none⟩ 1 c u rfl (World.cell?_alloc_at _ _ _ _ rfl) HU.out.symm LN.out (by simp; omega) ?_)
  intro v2 w2 ho2 hg2
  have B2 := Lib.hid (B1.out.trans (below_appY BA.out (by simp; omega) (World.ownsRow.alloc O1.out _) hg2))
  have O2 := Lib.hid ho2
  have hs2 : B ≤ w2.heap.size := Nat.le_trans hB B2.out.size
  have LN2 : Hid ((ys ++ (f.wr m ++ [c])).length + 8 * g.sz + 2 ≤ 4194304) := by
    show (ys ++ (f.wr m ++ [c])).length + 8 * g.sz + 2 ≤ 4194304
    have := H2.out
    simp only [List.length_append, List.length_cons, List.length_nil]
    omega
  clear ho2 hg2
  go_wp2_with fail
  have hcall := partEnd_any xs (some ⟨b, off, none⟩) len cap (i + 1) _ w2 hl (by omega) (H.out.keepB B2.out hbB) HP.out (by omega)
  rw [show ((i + 1 : Nat) : Int) = (i : Int) + 1 by omega] at hcall
  refine hcall.mono ?_
  clear hcall
  rintro e w' ⟨rfl, rfl⟩
  go_wp2_with fail
  refine (PG.out xs b off len cap w2 (i + 1 + f.sz) r v2 B (ys ++ (f.wr m ++ [c])) n hl (H.out.keepB B2.out hbB) hbB hs2 D2.out O2.out LN2.out hn).mono ?_
  rintro e w3 ⟨v3, rfl, ho3, hb3⟩
  have B3 := Lib.hid (B2.out.trans hb3)
  have O3 := Lib.hid ho3
  clear ho3 hb3
  go_wp2
  go_ret
  refine ⟨_, rfl, ?_, B3.out⟩
  have e : ys ++ (f.wr m ++ c :: g.wr n) = ys ++ (f.wr m ++ [c]) ++ g.wr n := by simp
  rw [e]
  first | exact O3.out | (have h3 := O3.out; simp only [List.append_assoc, List.cons_append, List.nil_append] at h3 ⊢; exact h3)


end Go.Proofs.Ytpccocmiadpgiaa
