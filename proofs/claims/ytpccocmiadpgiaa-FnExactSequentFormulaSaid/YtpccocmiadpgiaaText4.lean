/- Contracts of the program's functions that write the text of a formula: every formula, and textOf. Conditions: those in the theorems. -/
import Derived.Test.YtpccocmiadpgiaaText3
namespace Go.Proofs.Ytpccocmiadpgiaa
open Go.RowKit

set_option maxHeartbeats 4000000 in
theorem bare_va (s : Int) (hf : (Fm.va s).ok) : BareC (.va s) := by
  intro xs b off len cap w i r v B ys hl h hbB hB hd hown hy
  have H := Lib.hid h
  have O := Lib.hid hown
  have ht := Lib.hid (show Calls Try.prog 81 #[.slice (some ⟨b, off, none⟩) len cap, .int .i64 i] w fun e w' => e = .returned (.bool false) ∧ w = w' from isTruthAt_any xs b off len cap w hl h _ hf i r hd)
  have hn := Lib.hid (show Calls Try.prog 82 #[.slice (some ⟨b, off, none⟩) len cap, .int .i64 i] w fun e w' => e = .returned (.bool false) ∧ w = w' from isNegationAt_any xs b off len cap w hl h _ hf i r hd)
  have c1 : w.cell? ⟨b, off + i * 2, none⟩ = some (.int .i64 0) := (h.kindAt hd).2.2
  have hi := (h.kindAt hd).1
  have hb := (h.kindAt hd).2.1
  have c2 : w.cell? ⟨b, off + i * 2 + 1, none⟩ = some (.int .i64 s) := by
    have hh : i < xs.length := by rw [← h.1]; exact hi
    obtain ⟨b', off', ha, _, hc⟩ := h.2.resolve_left (by omega)
    cases ha
    have := (hc i hi).2
    rwa [sy_at (x := (0, s)) (r := r) hd] at this
  have hcases : s = 0 ∨ s = 1 ∨ s = 2 ∨ s = 3 ∨ s = 4 ∨ s = 5 := by have := hf.1; have := hf.2; omega
  have hy2 : ys.length ≤ 4194304 := by omega
  clear h hown hd hf hy
  rcases hcases with rfl | rfl | rfl | rfl | rfl | rfl
  · go_enter Try.func69, Try.ntmps69
    go_wp2_with fail
    refine ht.out.mono ?_
    rintro e w' ⟨rfl, rfl⟩
    go_wp2_with fail
    refine hn.out.mono ?_
    rintro e w' ⟨rfl, rfl⟩
    go_wp2_with (at_builtin; refine list_appY1 rfl _ _ rfl B v ys rfl (O.out.alloc _) ⟨w.heap.size, 0, none⟩ 1 112 112 rfl (World.cell?_alloc_at _ _ _ _ rfl) rfl (by omega) (by simp; omega) ?_)
    intro v1 w1 ho1 hg1
    have BA := Lib.hid ((Below.refl B w).alloc hB (.cells #[.int .u8 112] 5))
    have B1 := Lib.hid (below_appY BA.out (by simp; omega) (World.ownsRow.alloc O.out _) hg1)
    have O1 := Lib.hid ho1
    clear ho1 hg1
    go_wp2
    go_ret
    exact ⟨_, rfl, O1.out, B1.out⟩
  · go_enter Try.func69, Try.ntmps69
    go_wp2_with fail
    refine ht.out.mono ?_
    rintro e w' ⟨rfl, rfl⟩
    go_wp2_with fail
    refine hn.out.mono ?_
    rintro e w' ⟨rfl, rfl⟩
    go_wp2_with (at_builtin; refine list_appY1 rfl _ _ rfl B v ys rfl (O.out.alloc _) ⟨w.heap.size, 0, none⟩ 1 113 113 rfl (World.cell?_alloc_at _ _ _ _ rfl) rfl (by omega) (by simp; omega) ?_)
    intro v1 w1 ho1 hg1
    have BA := Lib.hid ((Below.refl B w).alloc hB (.cells #[.int .u8 113] 5))
    have B1 := Lib.hid (below_appY BA.out (by simp; omega) (World.ownsRow.alloc O.out _) hg1)
    have O1 := Lib.hid ho1
    clear ho1 hg1
    go_wp2
    go_ret
    exact ⟨_, rfl, O1.out, B1.out⟩
  · go_enter Try.func69, Try.ntmps69
    go_wp2_with fail
    refine ht.out.mono ?_
    rintro e w' ⟨rfl, rfl⟩
    go_wp2_with fail
    refine hn.out.mono ?_
    rintro e w' ⟨rfl, rfl⟩
    go_wp2_with (at_builtin; refine list_appY1 rfl _ _ rfl B v ys rfl (O.out.alloc _) ⟨w.heap.size, 0, none⟩ 1 114 114 rfl (World.cell?_alloc_at _ _ _ _ rfl) rfl (by omega) (by simp; omega) ?_)
    intro v1 w1 ho1 hg1
    have BA := Lib.hid ((Below.refl B w).alloc hB (.cells #[.int .u8 114] 5))
    have B1 := Lib.hid (below_appY BA.out (by simp; omega) (World.ownsRow.alloc O.out _) hg1)
    have O1 := Lib.hid ho1
    clear ho1 hg1
    go_wp2
    go_ret
    exact ⟨_, rfl, O1.out, B1.out⟩
  · go_enter Try.func69, Try.ntmps69
    go_wp2_with fail
    refine ht.out.mono ?_
    rintro e w' ⟨rfl, rfl⟩
    go_wp2_with fail
    refine hn.out.mono ?_
    rintro e w' ⟨rfl, rfl⟩
    go_wp2_with (at_builtin; refine list_appY1 rfl _ _ rfl B v ys rfl (O.out.alloc _) ⟨w.heap.size, 0, none⟩ 1 115 115 rfl (World.cell?_alloc_at _ _ _ _ rfl) rfl (by omega) (by simp; omega) ?_)
    intro v1 w1 ho1 hg1
    have BA := Lib.hid ((Below.refl B w).alloc hB (.cells #[.int .u8 115] 5))
    have B1 := Lib.hid (below_appY BA.out (by simp; omega) (World.ownsRow.alloc O.out _) hg1)
    have O1 := Lib.hid ho1
    clear ho1 hg1
    go_wp2
    go_ret
    exact ⟨_, rfl, O1.out, B1.out⟩
  · go_enter Try.func69, Try.ntmps69
    go_wp2_with fail
    refine ht.out.mono ?_
    rintro e w' ⟨rfl, rfl⟩
    go_wp2_with fail
    refine hn.out.mono ?_
    rintro e w' ⟨rfl, rfl⟩
    go_wp2_with (at_builtin; refine list_appY1 rfl _ _ rfl B v ys rfl (O.out.alloc _) ⟨w.heap.size, 0, none⟩ 1 116 116 rfl (World.cell?_alloc_at _ _ _ _ rfl) rfl (by omega) (by simp; omega) ?_)
    intro v1 w1 ho1 hg1
    have BA := Lib.hid ((Below.refl B w).alloc hB (.cells #[.int .u8 116] 5))
    have B1 := Lib.hid (below_appY BA.out (by simp; omega) (World.ownsRow.alloc O.out _) hg1)
    have O1 := Lib.hid ho1
    clear ho1 hg1
    go_wp2
    go_ret
    exact ⟨_, rfl, O1.out, B1.out⟩
  · go_enter Try.func69, Try.ntmps69
    go_wp2_with fail
    refine ht.out.mono ?_
    rintro e w' ⟨rfl, rfl⟩
    go_wp2_with fail
    refine hn.out.mono ?_
    rintro e w' ⟨rfl, rfl⟩
    go_wp2_with (at_builtin; refine list_appY1 rfl _ _ rfl B v ys rfl (O.out.alloc _) ⟨w.heap.size, 0, none⟩ 1 117 117 rfl (World.cell?_alloc_at _ _ _ _ rfl) rfl (by omega) (by simp; omega) ?_)
    intro v1 w1 ho1 hg1
    have BA := Lib.hid ((Below.refl B w).alloc hB (.cells #[.int .u8 117] 5))
    have B1 := Lib.hid (below_appY BA.out (by simp; omega) (World.ownsRow.alloc O.out _) hg1)
    have O1 := Lib.hid ho1
    clear ho1 hg1
    go_wp2
    go_ret
    exact ⟨_, rfl, O1.out, B1.out⟩

set_option maxHeartbeats 4000000 in
theorem bare_fa : BareC .fa := by
  intro xs b off len cap w i r v B ys hl h hbB hB hd hown hy
  have hf : Fm.fa.ok := trivial
  have H := Lib.hid h
  have O := Lib.hid hown
  have ht := Lib.hid (show Calls Try.prog 81 #[.slice (some ⟨b, off, none⟩) len cap, .int .i64 i] w fun e w' => e = .returned (.bool false) ∧ w = w' from isTruthAt_any xs b off len cap w hl h _ hf i r hd)
  have hn := Lib.hid (show Calls Try.prog 82 #[.slice (some ⟨b, off, none⟩) len cap, .int .i64 i] w fun e w' => e = .returned (.bool false) ∧ w = w' from isNegationAt_any xs b off len cap w hl h _ hf i r hd)
  have c1 : w.cell? ⟨b, off + i * 2, none⟩ = some (.int .i64 1) := (h.kindAt hd).2.2
  have hi := (h.kindAt hd).1
  have hb := (h.kindAt hd).2.1
  have hy2 : ys.length ≤ 4194304 := by omega
  clear h hown hd hf hy
  go_enter Try.func69, Try.ntmps69
  go_wp2_with fail
  refine ht.out.mono ?_
  rintro e w' ⟨rfl, rfl⟩
  go_wp2_with fail
  refine hn.out.mono ?_
  rintro e w' ⟨rfl, rfl⟩
  go_wp2_with (at_builtin; refine list_appY1 rfl _ _ rfl B v ys rfl (O.out.alloc _) ⟨w.heap.size, 0, none⟩ 1 70 70 rfl (World.cell?_alloc_at _ _ _ _ rfl) rfl (by omega) (by simp; omega) ?_)
  intro v1 w1 ho1 hg1
  have BA := Lib.hid ((Below.refl B w).alloc hB (.cells #[.int .u8 70] 5))
  have B1 := Lib.hid (below_appY BA.out (by simp; omega) (World.ownsRow.alloc O.out _) hg1)
  have O1 := Lib.hid ho1
  clear ho1 hg1
  go_wp2
  go_ret
  exact ⟨_, rfl, O1.out, B1.out⟩

set_option maxHeartbeats 4000000 in
theorem bare_un5 (a : Fm) (hf : (Fm.un 5 a).ok) (hp : PartC a) : BareC (.un 5 a) := by
  intro xs b off len cap w i r v B ys hl h hbB hB hd hown hy
  have H := Lib.hid h
  have O := Lib.hid hown
  have ht := Lib.hid (show Calls Try.prog 81 #[.slice (some ⟨b, off, none⟩) len cap, .int .i64 i] w fun e w' => e = .returned (.bool false) ∧ w = w' from isTruthAt_any xs b off len cap w hl h _ hf i r hd)
  have hn := Lib.hid (show Calls Try.prog 82 #[.slice (some ⟨b, off, none⟩) len cap, .int .i64 i] w fun e w' => e = .returned (.bool false) ∧ w = w' from isNegationAt_any xs b off len cap w hl h _ hf i r hd)
  have c1 : w.cell? ⟨b, off + i * 2, none⟩ = some (.int .i64 5) := (h.kindAt hd).2.2
  have hi := (h.kindAt hd).1
  have hb := (h.kindAt hd).2.1
  have hs : (Fm.un 5 a).sz = 1 + a.sz := rfl
  have hy2 : ys.length + 8 * a.sz + 8 ≤ 4194304 := by omega
  have D1 := Lib.hid (show xs.drop (i + 1) = a.enc ++ r from drop_next (x := (5, 0)) (by rw [hd]; simp [Fm.enc]))
  have HP := Lib.hid hp
  clear h hown hd hf hy hs hp
  go_enter Try.func69, Try.ntmps69
  go_wp2_with fail
  refine ht.out.mono ?_
  rintro e w' ⟨rfl, rfl⟩
  go_wp2_with fail
  refine hn.out.mono ?_
  rintro e w' ⟨rfl, rfl⟩
  go_wp2_with (at_builtin; refine list_appYS rfl _ _ rfl B v ys [91, 93] rfl O.out rfl (by omega) (by decide) hB ?_)
  intro v1 w1 ho1 hg1
  have B1 := Lib.hid (below_appY (Below.refl B w) hB O.out hg1)
  have O1 := Lib.hid ho1
  clear ho1 hg1
  go_wp2_with fail
  have hcall := HP.out xs b off len cap w1 (i + 1) r v1 B (ys ++ [91, 93]) 3 hl (H.out.keepB B1.out hbB) hbB (Nat.le_trans hB B1.out.size) D1.out O1.out (by simp; omega) (by omega)
  rw [show ((i + 1 : Nat) : Int) = (i : Int) + 1 by omega] at hcall
  refine hcall.mono ?_
  clear hcall
  rintro e w2 ⟨v2, rfl, ho2, hb2⟩
  have B2 := Lib.hid (B1.out.trans hb2)
  have O2 := Lib.hid ho2
  clear ho2 hb2
  go_wp2
  go_ret
  refine ⟨_, rfl, ?_, B2.out⟩
  have e : ys ++ (Fm.un 5 a).wr 0 = ys ++ [91, 93] ++ a.wr 3 := by simp [Fm.wr]
  rw [e]
  first | exact O2.out | (have h3 := O2.out; simp only [List.append_assoc, List.cons_append, List.nil_append] at h3 ⊢; exact h3)

set_option maxHeartbeats 4000000 in
theorem bare_un6 (a : Fm) (hf : (Fm.un 6 a).ok) (hp : PartC a) : BareC (.un 6 a) := by
  intro xs b off len cap w i r v B ys hl h hbB hB hd hown hy
  have H := Lib.hid h
  have O := Lib.hid hown
  have ht := Lib.hid (show Calls Try.prog 81 #[.slice (some ⟨b, off, none⟩) len cap, .int .i64 i] w fun e w' => e = .returned (.bool false) ∧ w = w' from isTruthAt_any xs b off len cap w hl h _ hf i r hd)
  have hn := Lib.hid (show Calls Try.prog 82 #[.slice (some ⟨b, off, none⟩) len cap, .int .i64 i] w fun e w' => e = .returned (.bool false) ∧ w = w' from isNegationAt_any xs b off len cap w hl h _ hf i r hd)
  have c1 : w.cell? ⟨b, off + i * 2, none⟩ = some (.int .i64 6) := (h.kindAt hd).2.2
  have hi := (h.kindAt hd).1
  have hb := (h.kindAt hd).2.1
  have hs : (Fm.un 6 a).sz = 1 + a.sz := rfl
  have hy2 : ys.length + 8 * a.sz + 8 ≤ 4194304 := by omega
  have D1 := Lib.hid (show xs.drop (i + 1) = a.enc ++ r from drop_next (x := (6, 0)) (by rw [hd]; simp [Fm.enc]))
  have HP := Lib.hid hp
  clear h hown hd hf hy hs hp
  go_enter Try.func69, Try.ntmps69
  go_wp2_with fail
  refine ht.out.mono ?_
  rintro e w' ⟨rfl, rfl⟩
  go_wp2_with fail
  refine hn.out.mono ?_
  rintro e w' ⟨rfl, rfl⟩
  go_wp2_with (at_builtin; refine list_appYS rfl _ _ rfl B v ys [60, 62] rfl O.out rfl (by omega) (by decide) hB ?_)
  intro v1 w1 ho1 hg1
  have B1 := Lib.hid (below_appY (Below.refl B w) hB O.out hg1)
  have O1 := Lib.hid ho1
  clear ho1 hg1
  go_wp2_with fail
  have hcall := HP.out xs b off len cap w1 (i + 1) r v1 B (ys ++ [60, 62]) 3 hl (H.out.keepB B1.out hbB) hbB (Nat.le_trans hB B1.out.size) D1.out O1.out (by simp; omega) (by omega)
  rw [show ((i + 1 : Nat) : Int) = (i : Int) + 1 by omega] at hcall
  refine hcall.mono ?_
  clear hcall
  rintro e w2 ⟨v2, rfl, ho2, hb2⟩
  have B2 := Lib.hid (B1.out.trans hb2)
  have O2 := Lib.hid ho2
  clear ho2 hb2
  go_wp2
  go_ret
  refine ⟨_, rfl, ?_, B2.out⟩
  have e : ys ++ (Fm.un 6 a).wr 0 = ys ++ [60, 62] ++ a.wr 3 := by simp [Fm.wr]
  rw [e]
  first | exact O2.out | (have h3 := O2.out; simp only [List.append_assoc, List.cons_append, List.nil_append] at h3 ⊢; exact h3)

set_option maxHeartbeats 4000000 in
theorem bare_bi2 (f g : Fm) (hf : (Fm.bi 2 f g).ok) (hpf : PartC f) (hpg : PartC g) : BareC (.bi 2 f g) := by
  intro xs b off len cap w i r v B ys hl h hbB hB hd hown hy
  have H := Lib.hid h
  have O := Lib.hid hown
  have ht := Lib.hid (show Calls Try.prog 81 #[.slice (some ⟨b, off, none⟩) len cap, .int .i64 i] w fun e w' => e = .returned (.bool false) ∧ w = w' from isTruthAt_any xs b off len cap w hl h _ hf i r hd)
  have hn := Lib.hid (show Calls Try.prog 82 #[.slice (some ⟨b, off, none⟩) len cap, .int .i64 i] w fun e w' => e = .returned (.bool false) ∧ w = w' from isNegationAt_any xs b off len cap w hl h _ hf i r hd)
  have c1 : w.cell? ⟨b, off + i * 2, none⟩ = some (.int .i64 2) := (h.kindAt hd).2.2
  have hi := (h.kindAt hd).1
  have hb := (h.kindAt hd).2.1
  have L := Lib.hid (linked_of 2 f g hf.2.1 hpf hpg 38 2 3 (by omega) (by omega) xs b off len cap w i r v B ys hl h hbB hB hd hown hy)
  clear h hown hd hf hy hpf hpg
  go_enter Try.func69, Try.ntmps69
  go_wp2_with fail
  refine ht.out.mono ?_
  rintro e w' ⟨rfl, rfl⟩
  go_wp2_with fail
  refine hn.out.mono ?_
  rintro e w' ⟨rfl, rfl⟩
  go_wp2_with fail
  refine L.out.mono ?_
  rintro e w1 ⟨v1, rfl, ho1, hb1⟩
  have O1 := Lib.hid ho1
  clear ho1
  go_wp2
  go_ret
  exact ⟨_, rfl, O1.out, hb1⟩

set_option maxHeartbeats 4000000 in
theorem bare_bi3 (f g : Fm) (hf : (Fm.bi 3 f g).ok) (hpf : PartC f) (hpg : PartC g) : BareC (.bi 3 f g) := by
  intro xs b off len cap w i r v B ys hl h hbB hB hd hown hy
  have H := Lib.hid h
  have O := Lib.hid hown
  have ht := Lib.hid (show Calls Try.prog 81 #[.slice (some ⟨b, off, none⟩) len cap, .int .i64 i] w fun e w' => e = .returned (.bool false) ∧ w = w' from isTruthAt_any xs b off len cap w hl h _ hf i r hd)
  have hn := Lib.hid (show Calls Try.prog 82 #[.slice (some ⟨b, off, none⟩) len cap, .int .i64 i] w fun e w' => e = .returned (.bool false) ∧ w = w' from isNegationAt_any xs b off len cap w hl h _ hf i r hd)
  have c1 : w.cell? ⟨b, off + i * 2, none⟩ = some (.int .i64 3) := (h.kindAt hd).2.2
  have hi := (h.kindAt hd).1
  have hb := (h.kindAt hd).2.1
  have L := Lib.hid (linked_of 3 f g hf.2.1 hpf hpg 124 1 2 (by omega) (by omega) xs b off len cap w i r v B ys hl h hbB hB hd hown hy)
  clear h hown hd hf hy hpf hpg
  go_enter Try.func69, Try.ntmps69
  go_wp2_with fail
  refine ht.out.mono ?_
  rintro e w' ⟨rfl, rfl⟩
  go_wp2_with fail
  refine hn.out.mono ?_
  rintro e w' ⟨rfl, rfl⟩
  go_wp2_with fail
  refine L.out.mono ?_
  rintro e w1 ⟨v1, rfl, ho1, hb1⟩
  have O1 := Lib.hid ho1
  clear ho1
  go_wp2
  go_ret
  exact ⟨_, rfl, O1.out, hb1⟩

set_option maxHeartbeats 4000000 in
theorem bare_imp (f g : Fm) (hf : (Fm.bi 4 f g).ok) (hg : g.isFa = false) (hpf : PartC f) (hpg : PartC g) : BareC (.bi 4 f g) := by
  intro xs b off len cap w i r v B ys hl h hbB hB hd hown hy
  have e1 : (Fm.bi 4 f g).isTr = false := by simp [Fm.isTr, hg]
  have e2 : (Fm.bi 4 f g).isNeg = false := by simp [Fm.isNeg, hg]
  have ew : (Fm.bi 4 f g).wr 0 = f.wr 1 ++ 62 :: g.wr 0 := by simp [Fm.wr, hg, Fm.par]
  rw [ew]
  have H := Lib.hid h
  have O := Lib.hid hown
  have ht := Lib.hid (show Calls Try.prog 81 #[.slice (some ⟨b, off, none⟩) len cap, .int .i64 i] w fun e w' => e = .returned (.bool false) ∧ w = w' from by rw [← e1]; exact isTruthAt_any xs b off len cap w hl h _ hf i r hd)
  have hn := Lib.hid (show Calls Try.prog 82 #[.slice (some ⟨b, off, none⟩) len cap, .int .i64 i] w fun e w' => e = .returned (.bool false) ∧ w = w' from by rw [← e2]; exact isNegationAt_any xs b off len cap w hl h _ hf i r hd)
  have c1 : w.cell? ⟨b, off + i * 2, none⟩ = some (.int .i64 4) := (h.kindAt hd).2.2
  have hi := (h.kindAt hd).1
  have hb := (h.kindAt hd).2.1
  have L := Lib.hid (linked_of 4 f g hf.2.1 hpf hpg 62 1 0 (by omega) (by omega) xs b off len cap w i r v B ys hl h hbB hB hd hown hy)
  clear h hown hd hf hy hpf hpg e1 e2 ew
  go_enter Try.func69, Try.ntmps69
  go_wp2_with fail
  refine ht.out.mono ?_
  rintro e w' ⟨rfl, rfl⟩
  go_wp2_with fail
  refine hn.out.mono ?_
  rintro e w' ⟨rfl, rfl⟩
  go_wp2_with fail
  refine L.out.mono ?_
  rintro e w1 ⟨v1, rfl, ho1, hb1⟩
  have O1 := Lib.hid ho1
  clear ho1
  go_wp2
  go_ret
  exact ⟨_, rfl, O1.out, hb1⟩

set_option maxHeartbeats 4000000 in
theorem bare_tr (hf : (Fm.bi 4 .fa .fa).ok) : BareC (.bi 4 .fa .fa) := by
  intro xs b off len cap w i r v B ys hl h hbB hB hd hown hy
  have H := Lib.hid h
  have O := Lib.hid hown
  have ht := Lib.hid (show Calls Try.prog 81 #[.slice (some ⟨b, off, none⟩) len cap, .int .i64 i] w fun e w' => e = .returned (.bool true) ∧ w = w' from isTruthAt_any xs b off len cap w hl h _ hf i r hd)
  have hn := Lib.hid (show Calls Try.prog 82 #[.slice (some ⟨b, off, none⟩) len cap, .int .i64 i] w fun e w' => e = .returned (.bool true) ∧ w = w' from isNegationAt_any xs b off len cap w hl h _ hf i r hd)
  have c1 : w.cell? ⟨b, off + i * 2, none⟩ = some (.int .i64 4) := (h.kindAt hd).2.2
  have hi := (h.kindAt hd).1
  have hb := (h.kindAt hd).2.1
  have hy2 : ys.length ≤ 4194304 := by omega
  clear h hown hd hf hy hn
  go_enter Try.func69, Try.ntmps69
  go_wp2_with fail
  refine ht.out.mono ?_
  rintro e w' ⟨rfl, rfl⟩
  go_wp2_with (at_builtin; refine list_appY1 rfl _ _ rfl B v ys rfl (O.out.alloc _) ⟨w.heap.size, 0, none⟩ 1 84 84 rfl (World.cell?_alloc_at _ _ _ _ rfl) rfl (by omega) (by simp; omega) ?_)
  intro v1 w1 ho1 hg1
  have BA := Lib.hid ((Below.refl B w).alloc hB (.cells #[.int .u8 84] 5))
  have B1 := Lib.hid (below_appY BA.out (by simp; omega) (World.ownsRow.alloc O.out _) hg1)
  have O1 := Lib.hid ho1
  clear ho1 hg1
  go_wp2
  go_ret
  exact ⟨_, rfl, O1.out, B1.out⟩

set_option maxHeartbeats 4000000 in
theorem bare_not (a : Fm) (hf : (Fm.bi 4 a .fa).ok) (ha : a.isFa = false) (hp : PartC a) : BareC (.bi 4 a .fa) := by
  intro xs b off len cap w i r v B ys hl h hbB hB hd hown hy
  have e1 : (Fm.bi 4 a .fa).isTr = false := by simp [Fm.isTr, ha]
  have e2 : (Fm.bi 4 a .fa).isNeg = true := rfl
  have ew : (Fm.bi 4 a .fa).wr 0 = 126 :: a.wr 3 := by simp [Fm.wr, ha, show Fm.fa.isFa = true from rfl]
  rw [ew]
  have H := Lib.hid h
  have O := Lib.hid hown
  have ht := Lib.hid (show Calls Try.prog 81 #[.slice (some ⟨b, off, none⟩) len cap, .int .i64 i] w fun e w' => e = .returned (.bool false) ∧ w = w' from by rw [← e1]; exact isTruthAt_any xs b off len cap w hl h _ hf i r hd)
  have hn := Lib.hid (show Calls Try.prog 82 #[.slice (some ⟨b, off, none⟩) len cap, .int .i64 i] w fun e w' => e = .returned (.bool true) ∧ w = w' from by rw [← e2]; exact isNegationAt_any xs b off len cap w hl h _ hf i r hd)
  have c1 : w.cell? ⟨b, off + i * 2, none⟩ = some (.int .i64 4) := (h.kindAt hd).2.2
  have hi := (h.kindAt hd).1
  have hb := (h.kindAt hd).2.1
  have hs : (Fm.bi 4 a .fa).sz = 1 + a.sz + 1 := rfl
  have hy2 : ys.length + 8 * a.sz + 8 ≤ 4194304 := by omega
  have D1 := Lib.hid (show xs.drop (i + 1) = a.enc ++ (Fm.fa.enc ++ r) from drop_next (x := (4, 0)) (by rw [hd]; simp [Fm.enc]))
  have HP := Lib.hid hp
  clear h hown hd hf hy hs hp e1 e2 ew
  go_enter Try.func69, Try.ntmps69
  go_wp2_with fail
  refine ht.out.mono ?_
  rintro e w' ⟨rfl, rfl⟩
  go_wp2_with fail
  refine hn.out.mono ?_
  rintro e w' ⟨rfl, rfl⟩
  go_wp2_with (at_builtin; refine list_appY1 rfl _ _ rfl B v ys rfl (O.out.alloc _) ⟨w.heap.size, 0, none⟩ 1 126 126 rfl (World.cell?_alloc_at _ _ _ _ rfl) rfl (by omega) (by simp; omega) ?_)
  intro v1 w1 ho1 hg1
  have BA := Lib.hid ((Below.refl B w).alloc hB (.cells #[.int .u8 126] 5))
  have B1 := Lib.hid (below_appY BA.out (by simp; omega) (World.ownsRow.alloc O.out _) hg1)
  have O1 := Lib.hid ho1
  clear ho1 hg1
  go_wp2_with fail
  have hcall := HP.out xs b off len cap w1 (i + 1) _ v1 B (ys ++ [126]) 3 hl (H.out.keepB B1.out hbB) hbB (Nat.le_trans hB B1.out.size) D1.out O1.out (by simp; omega) (by omega)
  rw [show ((i + 1 : Nat) : Int) = (i : Int) + 1 by omega] at hcall
  refine hcall.mono ?_
  clear hcall
  rintro e w2 ⟨v2, rfl, ho2, hb2⟩
  have B2 := Lib.hid (B1.out.trans hb2)
  have O2 := Lib.hid ho2
  clear ho2 hb2
  go_wp2
  go_ret
  refine ⟨_, rfl, ?_, B2.out⟩
  have e : ys ++ 126 :: a.wr 3 = ys ++ [126] ++ a.wr 3 := by simp
  first | exact O2.out | (rw [e]; exact O2.out)

theorem bare_all (f : Fm) (hf : f.ok) : BareC f := by
  induction f with
  | va s => exact bare_va s hf
  | fa => exact bare_fa
  | un k a ih =>
    have hp := part_of a hf.2 (ih hf.2)
    rcases id hf.1 with h | h
    · subst h; exact bare_un5 a hf hp
    · subst h; exact bare_un6 a hf hp
  | bi k f g ihf ihg =>
    have hpf := part_of f hf.2.1 (ihf hf.2.1)
    have hpg := part_of g hf.2.2 (ihg hf.2.2)
    rcases id hf.1 with h | h | h
    · subst h; exact bare_bi2 f g hf hpf hpg
    · subst h; exact bare_bi3 f g hf hpf hpg
    · subst h
      cases hg : g.isFa
      · exact bare_imp f g hf hg hpf hpg
      · cases g with
        | fa =>
          cases ha : f.isFa
          · exact bare_not f hf ha hpf
          · cases f with
            | fa => exact bare_tr hf
            | _ => cases ha
        | _ => cases hg

set_option maxHeartbeats 1000000 in
theorem textOf_any (f : Fm) (hf : f.ok) (b off len cap : Nat) (w : World) (hl : len ≤ 262144) (h : AtF w b off len cap f) :
    Calls Try.prog 52 #[.slice (some ⟨b, off, none⟩) len cap] w fun e w' => e = .returned (.string ⟨(f.wr 0).toArray⟩) ∧ Below w.heap.size w w' := by
  have hlen := h.len
  have hsz : 8 * f.sz + 2 ≤ 4194304 := by omega
  have hh := h.head.1
  have P := Lib.hid (part_of f hf (bare_all f hf) f.enc b off len cap w 0 [] (.slice none 0 0) w.heap.size [] 0 (by omega) h.1 hh (Nat.le_refl _) (by simp) (ownY_nil _ _) (by simp; omega) (by omega))
  clear h hlen hsz
  go_enter Try.func52, Try.ntmps52
  go_wp2_with fail
  refine P.out.mono ?_
  rintro e w1 ⟨v1, rfl, ho1, hb1⟩
  rw [List.nil_append] at ho1
  have hconv := run_text ho1
  go_wp2
  go_ret
  exact ⟨rfl, hb1⟩

end Go.Proofs.Ytpccocmiadpgiaa
