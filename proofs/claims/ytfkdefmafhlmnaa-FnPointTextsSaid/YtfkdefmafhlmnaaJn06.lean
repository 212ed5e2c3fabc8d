/- 3 texts in one: PtA, Part, Deep. -/
import Derived.Test.YtfkdefmafhlmnaaPoS
import Derived.Test.YtfkdefmafhlmnaaJn04
import Derived.Test.YtfkdefmafhlmnaaJn07
/- Point formulas in memory, and the model's functions that go down them. Conditions: those in the theorems. -/
namespace Go.Proofs.Ytfkdefmafhlmnaa
open Go.RowKit

/-- The point formula f lies in memory as a list of len nodes. -/
def AtT (w : World) (b off len cap : Nat) (f : Pt) : Prop := AtP w (some ⟨b, off, none⟩) len f.enc ∧ len ≤ cap ∧ cap ≤ maxLen
def Pt.kind : Pt → Int
  | le k _ _ => k
  | bi k _ _ => k
  | un k _ _ => k
def Pt.fst : Pt → Int
  | le _ f _ => f
  | bi _ _ _ => 0
  | un _ x _ => x
def Pt.snd : Pt → Int
  | le _ _ s => s
  | _ => 0
theorem AtP.sub {w : World} {b off len : Nat} {xs : List Pd} (h : AtP w (some ⟨b, off, none⟩) len xs) (i n : Nat) (hi : i + n ≤ len) : AtP w (some ⟨b, off + i * 3, none⟩) n ((xs.drop i).take n) := by
  have hl := h.1
  refine ⟨by simp; omega, ?_⟩
  by_cases hn : n = 0
  · exact .inl hn
  obtain ⟨b', off', ha, hb, hc⟩ := h.2.resolve_left (by omega)
  cases ha
  refine .inr ⟨b, off + i * 3, rfl, hb, fun j hj => ?_⟩
  obtain ⟨c1, c2, c3⟩ := hc (i + j) (by omega)
  have e1 : kp ((xs.drop i).take n) j = kp xs (i + j) := by simp [kp, List.getD_eq_getElem?_getD, hj, List.getElem?_drop]
  have e2 : fp ((xs.drop i).take n) j = fp xs (i + j) := by simp [fp, List.getD_eq_getElem?_getD, hj, List.getElem?_drop]
  have e3 : tp ((xs.drop i).take n) j = tp xs (i + j) := by simp [tp, List.getD_eq_getElem?_getD, hj, List.getElem?_drop]
  rw [e1, e2, e3, show off + i * 3 + j * 3 = off + (i + j) * 3 by omega]
  exact ⟨c1, c2, c3⟩
theorem AtP.keep' {w w' : World} {C : Nat} {a : Option Addr} {len : Nat} {xs : List Pd} (h : AtP w a len xs) (hb : Below C w w') (hC : ∀ p, a = some p → p.block < C) : AtP w' a len xs := by
  refine ⟨h.1, h.2.imp id ?_⟩
  rintro ⟨b, off, ha, hlt, hc⟩
  have hbC := hC _ ha
  exact ⟨b, off, ha, Nat.lt_of_lt_of_le hlt hb.size, fun j hj => ⟨(hb.cell (p := ⟨b, off + j * 3, none⟩) hbC).trans (hc j hj).1, (hb.cell (p := ⟨b, off + j * 3 + 1, none⟩) hbC).trans (hc j hj).2.1, (hb.cell (p := ⟨b, off + j * 3 + 2, none⟩) hbC).trans (hc j hj).2.2⟩⟩
theorem AtT.len {w : World} {b off len cap : Nat} {f : Pt} (h : AtT w b off len cap f) : len = f.sz := by rw [← Pt.enc_len]; exact h.1.1
theorem AtT.keep {w w' : World} {C b off len cap : Nat} {f : Pt} (h : AtT w b off len cap f) (hb : Below C w w') (hC : w.heap.size ≤ C) : AtT w' b off len cap f := ⟨h.1.keep hb hC, h.2⟩
theorem AtT.drw {w : World} {b off len cap : Nat} {f : Pt} (h : AtT w b off len cap f) : AtT w.drew b off len cap f := h
theorem AtT.head {w : World} {b off len cap : Nat} {f : Pt} (h : AtT w b off len cap f) : b < w.heap.size ∧ w.cell? ⟨b, off, none⟩ = some (.int .i64 f.kind) ∧ w.cell? ⟨b, off + 1, none⟩ = some (.int .i64 f.fst) ∧ w.cell? ⟨b, off + 2, none⟩ = some (.int .i64 f.snd) := by
  have hl := h.len
  have hp := f.sz_pos
  obtain ⟨b', off', ha, hb, hc⟩ := h.1.2.resolve_left (by omega)
  cases ha
  obtain ⟨c1, c2, c3⟩ := hc 0 (by omega)
  rw [Nat.zero_mul, Nat.add_zero] at c1 c2 c3
  have e : kp f.enc 0 = f.kind ∧ fp f.enc 0 = f.fst ∧ tp f.enc 0 = f.snd := by cases f <;> exact ⟨rfl, rfl, rfl⟩
  rw [e.1] at c1
  rw [e.2.1] at c2
  rw [e.2.2] at c3
  exact ⟨hb, c1, c2, c3⟩
theorem AtT.left {w : World} {b off len cap : Nat} {k : Int} {f g : Pt} (h : AtT w b off len cap (.bi k f g)) : AtT w b (off + 3) f.sz (cap - 1) f := by
  have hl := h.len
  have hp := g.sz_pos
  have hs : (Pt.bi k f g).sz = 1 + f.sz + g.sz := rfl
  have h1 := h.2.1
  have h2 := h.2.2
  have := h.1.sub 1 f.sz (by omega)
  have e : ((Pt.bi k f g).enc.drop 1).take f.sz = f.enc := by
    rw [← Pt.enc_len]; simp [Pt.enc]
  rw [e] at this
  exact ⟨this, by omega, by omega⟩
theorem AtT.right {w : World} {b off len cap : Nat} {k : Int} {f g : Pt} (h : AtT w b off len cap (.bi k f g)) : AtT w b (off + (1 + f.sz) * 3) g.sz (cap - (1 + f.sz)) g := by
  have hl := h.len
  have hs : (Pt.bi k f g).sz = 1 + f.sz + g.sz := rfl
  have h1 := h.2.1
  have h2 := h.2.2
  have := h.1.sub (1 + f.sz) g.sz (by omega)
  have e : ((Pt.bi k f g).enc.drop (1 + f.sz)).take g.sz = g.enc := by
    rw [← Pt.enc_len g, ← Pt.enc_len f, ← List.drop_drop]
    simp [Pt.enc]
  rw [e] at this
  exact ⟨this, by omega, by omega⟩
theorem AtT.under {w : World} {b off len cap : Nat} {k x : Int} {f : Pt} (h : AtT w b off len cap (.un k x f)) : AtT w b (off + 3) (len - 1) (cap - 1) f := by
  have hl := h.len
  have hs : (Pt.un k x f).sz = 1 + f.sz := rfl
  have h1 := h.2.1
  have h2 := h.2.2
  have := h.1.sub 1 (len - 1) (by omega)
  have e : ((Pt.un k x f).enc.drop 1).take (len - 1) = f.enc := by
    rw [hl, hs, Nat.add_sub_cancel_left, ← Pt.enc_len]; simp [Pt.enc]
  rw [e] at this
  exact ⟨this, by omega, by omega⟩
theorem InP.at' {w : World} {lo hi : Nat} {v : Value} {xs : List Pd} (h : InP w lo hi v xs) : ∃ a cap, v = .slice a xs.length cap ∧ AtP w a xs.length xs ∧ xs.length ≤ cap ∧ cap ≤ maxLen := by
  obtain ⟨a, cap, hv, hat, hc, -⟩ := h.1.at
  refine ⟨a, cap, hv, hat, hc, ?_⟩
  rcases h.1.2 with ⟨h2, -⟩ | ⟨g, cap', cur, h2, -, -, -, hm, -⟩
  · rw [hv] at h2; simp at h2; rw [h2.2.2]; exact Nat.zero_le _
  · rw [hv] at h2; simp at h2; rw [h2.2]; exact hm
/-- A list of point nodes that is a point formula, as one in memory. -/
theorem AtP.pformula {w : World} {a : Option Addr} {cap : Nat} {xs : List Pd} (hb : isP xs xs.length = true) (h : AtP w a xs.length xs) (h1 : xs.length ≤ cap) (h2 : cap ≤ maxLen) :
    ∃ b off, a = some ⟨b, off, none⟩ ∧ AtT w b off xs.length cap (toPt xs) := by
  obtain ⟨f1, f2, f3⟩ := toPt_of hb
  generalize hg : xs.length = len at h h1 ⊢
  rw [f2] at h
  have hl := h.1
  rw [Pt.enc_len] at hl
  have hp := (toPt xs).sz_pos
  obtain ⟨b, off, ha, -, -⟩ := h.2.resolve_left (by omega)
  subst ha
  exact ⟨b, off, rfl, h, h1, h2⟩

theorem l10End_at (f : Pt) (hf : f.ok) (xs : List Pd) (ht : treeToP xs xs.length = true) (a : Option Addr) (len cap i : Nat) (r : List Pd) (w : World) (hl : len ≤ 1048576) (h : AtP w a len xs) (hd : xs.drop i = f.enc ++ r) :
    Calls Try.prog 67 #[.slice a len cap, .int .i64 i] w fun e w' => e = .returned (.int .i64 (i + f.sz : Nat)) ∧ w = w' := by
  have hp := peP_end f hf hd
  have h1 := h.1
  have hi : i ≤ len := by
    have := congrArg List.length hd
    rw [List.length_drop, List.length_append, Pt.enc_len] at this
    have := f.sz_pos
    omega
  rw [← h1] at hp ht
  have := l10End_n xs a len cap hl ht (len - i) i w hi rfl h
  rw [hp] at this
  exact this

set_option maxHeartbeats 400000 in
theorem l10Left_any (k : Int) (f g : Pt) (hfg : (Pt.bi k f g).ok) (b off len cap : Nat) (w : World) (hl : len ≤ 1048576) (h : AtT w b off len cap (.bi k f g)) :
    Calls Try.prog 71 #[.slice (some ⟨b, off, none⟩) len cap] w fun e w' => e = .returned (.slice (some ⟨b, off + 3, none⟩) f.sz (cap - 1)) ∧ w = w' := by
  have hlen := h.len
  have hp := g.sz_pos
  have hs : (Pt.bi k f g).sz = 1 + f.sz + g.sz := rfl
  have hcall := l10End_at f hfg.2.1 (Pt.bi k f g).enc (treeToP_of (okP_enc _ hfg) _ (Nat.le_refl _)) (some ⟨b, off, none⟩) len cap 1 g.enc w hl h.1 (by simp [Pt.enc])
  have HC := Lib.hid hcall
  have h1 : 1 + f.sz ≤ len := by omega
  have h2 : 1 + f.sz < cap := by have := h.2.1; omega
  have hc2 := h.2.2
  clear h hlen hs hp hcall
  unfold maxLen at hc2
  go_enter Try.func71, Try.ntmps71
  go_wp2_with fail
  refine HC.out.mono ?_
  rintro e w' ⟨rfl, rfl⟩
  go_wp2
  go_ret
  refine ⟨?_, rfl⟩
  show Ending.returned (.slice (some ⟨b, off + 3, none⟩) (1 + f.sz - 1) (cap - 1)) = _
  rw [Nat.add_sub_cancel_left]
set_option maxHeartbeats 400000 in
theorem l10Right_any (k : Int) (f g : Pt) (hfg : (Pt.bi k f g).ok) (b off len cap : Nat) (w : World) (hl : len ≤ 1048576) (h : AtT w b off len cap (.bi k f g)) :
    Calls Try.prog 72 #[.slice (some ⟨b, off, none⟩) len cap] w fun e w' => e = .returned (.slice (some ⟨b, off + (1 + f.sz) * 3, none⟩) g.sz (cap - (1 + f.sz))) ∧ w = w' := by
  have hlen := h.len
  have hp := g.sz_pos
  have hs : (Pt.bi k f g).sz = 1 + f.sz + g.sz := rfl
  have hcall := l10End_at f hfg.2.1 (Pt.bi k f g).enc (treeToP_of (okP_enc _ hfg) _ (Nat.le_refl _)) (some ⟨b, off, none⟩) len cap 1 g.enc w hl h.1 (by simp [Pt.enc])
  have HC := Lib.hid hcall
  have h1 : 1 + f.sz ≤ len := by omega
  have h2 : 1 + f.sz < cap := by have := h.2.1; omega
  have h3 := h.2.1
  have hc2 := h.2.2
  have hg : g.sz = len - (1 + f.sz) := by omega
  rw [hg]
  clear h hlen hs hp hcall hg
  unfold maxLen at hc2
  go_enter Try.func72, Try.ntmps72
  go_wp2_with fail
  refine HC.out.mono ?_
  rintro e w' ⟨rfl, rfl⟩
  go_wp2
  go_ret
  exact ⟨rfl, rfl⟩

end Go.Proofs.Ytfkdefmafhlmnaa

/- Contracts of the program's functions that walk the parts of a list of nodes: where a part ends, is it a negation, how high and deep is it. Conditions: those in the theorems. -/
namespace Go.Proofs.Ytfkdefmafhlmnaa
open Go.RowKit

theorem pe_lt {xs : List Nd} {len : Nat} {o : Int} {i : Nat} (ho : 0 < o) (hi : i ≤ len) (h : 0 ≤ pe xs (len - i) o i) : i < len := by
  by_cases e : i = len
  · subst e; rw [Nat.sub_self, pe, if_neg (by omega)] at h; omega
  · omega
theorem pe_step {xs : List Nd} {len : Nat} {o : Int} {i : Nat} (ho : 0 < o) (hi : i < len) : pe xs (len - i) o i = pe xs (len - (i + 1)) (o - 1 + prt (kd xs i)) (i + 1) := by
  rw [show len - i = (len - (i + 1)) + 1 by omega, pe, if_neg (by omega)]
theorem pe_zero {xs : List Nd} {f : Nat} {i : Nat} : pe xs f 0 i = i := by cases f <;> rw [pe, if_pos (by omega)]

end Go.Proofs.Ytfkdefmafhlmnaa

/- Contracts of the functions that go down a formula: its two parts, and its height and modal depth, of the model and of the program. Conditions: those in the theorems. -/
namespace Go.Proofs.Ytfkdefmafhlmnaa
open Go.RowKit

/-- The formula f lies in memory as a list of len nodes. -/
def AtF (w : World) (b off len cap : Nat) (f : Fm) : Prop := AtN w (some ⟨b, off, none⟩) len f.enc ∧ len ≤ cap ∧ cap ≤ maxLen
def Fm.kind : Fm → Int
  | va _ => 0
  | fa => 1
  | bi k _ _ => k
  | un k _ => k
def Fm.sym : Fm → Int
  | va s => s
  | _ => 0
theorem AtF.len {w : World} {b off len cap : Nat} {f : Fm} (h : AtF w b off len cap f) : len = f.sz := by rw [← Fm.enc_len]; exact h.1.1
theorem AtF.keep {w w' : World} {C b off len cap : Nat} {f : Fm} (h : AtF w b off len cap f) (hb : Below C w w') (hC : w.heap.size ≤ C) : AtF w' b off len cap f := ⟨h.1.keep hb hC, h.2⟩
theorem AtF.head {w : World} {b off len cap : Nat} {f : Fm} (h : AtF w b off len cap f) : b < w.heap.size ∧ w.cell? ⟨b, off, none⟩ = some (.int .i64 f.kind) ∧ w.cell? ⟨b, off + 1, none⟩ = some (.int .i64 f.sym) := by
  have hl := h.len
  have hp := f.sz_pos
  obtain ⟨b', off', ha, hb, hc⟩ := h.1.2.resolve_left (by omega)
  cases ha
  obtain ⟨c1, c2⟩ := hc 0 (by omega)
  rw [Nat.zero_mul, Nat.add_zero] at c1 c2
  have e : kd f.enc 0 = f.kind ∧ sy f.enc 0 = f.sym := by cases f <;> exact ⟨rfl, rfl⟩
  rw [e.1] at c1
  rw [e.2] at c2
  exact ⟨hb, c1, c2⟩
theorem AtF.left {w : World} {b off len cap : Nat} {k : Int} {f g : Fm} (h : AtF w b off len cap (.bi k f g)) : AtF w b (off + 2) f.sz (cap - 1) f := by
  have hl := h.len
  have hp := g.sz_pos
  have hs : (Fm.bi k f g).sz = 1 + f.sz + g.sz := rfl
  have h1 := h.2.1
  have h2 := h.2.2
  have := h.1.sub 1 f.sz (by omega)
  have e : ((Fm.bi k f g).enc.drop 1).take f.sz = f.enc := by
    rw [← Fm.enc_len]; simp [Fm.enc]
  rw [e] at this
  exact ⟨this, by omega, by omega⟩
theorem AtF.right {w : World} {b off len cap : Nat} {k : Int} {f g : Fm} (h : AtF w b off len cap (.bi k f g)) : AtF w b (off + (1 + f.sz) * 2) g.sz (cap - (1 + f.sz)) g := by
  have hl := h.len
  have hs : (Fm.bi k f g).sz = 1 + f.sz + g.sz := rfl
  have h1 := h.2.1
  have h2 := h.2.2
  have := h.1.sub (1 + f.sz) g.sz (by omega)
  have e : ((Fm.bi k f g).enc.drop (1 + f.sz)).take g.sz = g.enc := by
    rw [← Fm.enc_len g, ← Fm.enc_len f, ← List.drop_drop]
    simp [Fm.enc]
  rw [e] at this
  exact ⟨this, by omega, by omega⟩
theorem AtF.under {w : World} {b off len cap : Nat} {k : Int} {f : Fm} (h : AtF w b off len cap (.un k f)) : AtF w b (off + 2) (len - 1) (cap - 1) f := by
  have hl := h.len
  have hs : (Fm.un k f).sz = 1 + f.sz := rfl
  have h1 := h.2.1
  have h2 := h.2.2
  have := h.1.sub 1 (len - 1) (by omega)
  have e : ((Fm.un k f).enc.drop 1).take (len - 1) = f.enc := by
    rw [hl, hs, Nat.add_sub_cancel_left, ← Fm.enc_len]; simp [Fm.enc]
  rw [e] at this
  exact ⟨this, by omega, by omega⟩
theorem is_pos' {xs : List Nd} (h : isB xs xs.length = true) : 0 < xs.length ∧ xs.length ≤ 40 := by
  simp only [isB, treeB, Bool.and_eq_true, decide_eq_true_eq] at h
  exact ⟨h.2.1.2, h.1⟩
theorem InN.at' {w : World} {lo hi : Nat} {v : Value} {xs : List Nd} (h : InN w lo hi v xs) : ∃ a cap, v = .slice a xs.length cap ∧ AtN w a xs.length xs ∧ xs.length ≤ cap ∧ cap ≤ maxLen := by
  obtain ⟨a, cap, hv, hat, hc, -⟩ := h.1.at
  refine ⟨a, cap, hv, hat, hc, ?_⟩
  rcases h.1.2 with ⟨h2, -⟩ | ⟨g, cap', cur, h2, -, -, -, hm, -⟩
  · rw [hv] at h2; simp at h2; rw [h2.2.2]; exact Nat.zero_le _
  · rw [hv] at h2; simp at h2; rw [h2.2]; exact hm
theorem AtN.fm {w : World} {a : Option Addr} {len cap : Nat} {f : Fm} (h : AtN w a len f.enc) (h1 : len ≤ cap) (h2 : cap ≤ maxLen) : ∃ b off, a = some ⟨b, off, none⟩ ∧ AtF w b off len cap f := by
  have hl := h.1
  rw [Fm.enc_len] at hl
  have hp := f.sz_pos
  obtain ⟨b, off, ha, -, -⟩ := h.2.resolve_left (by omega)
  subst ha
  exact ⟨b, off, rfl, h, h1, h2⟩

/-- A list of nodes that is a formula, as one in memory. -/
theorem AtN.formula {w : World} {a : Option Addr} {cap : Nat} {xs : List Nd} (hb : isB xs xs.length = true) (h : AtN w a xs.length xs) (h1 : xs.length ≤ cap) (h2 : cap ≤ maxLen) :
    ∃ b off, a = some ⟨b, off, none⟩ ∧ AtF w b off xs.length cap (toFm xs) := by
  obtain ⟨f1, f2, f3⟩ := toFm_of hb
  generalize hg : xs.length = len at h h1 ⊢
  rw [f2] at h
  exact h.fm h1 h2

set_option maxHeartbeats 400000 in
theorem l02Left_any (k : Int) (f g : Fm) (hf : f.ok) (b off len cap : Nat) (w : World) (hl : len ≤ 1048576) (h : AtF w b off len cap (.bi k f g)) :
    Calls Try.prog 116 #[.slice (some ⟨b, off, none⟩) len cap] w fun e w' => e = .returned (.slice (some ⟨b, off + 2, none⟩) f.sz (cap - 1)) ∧ w = w' := by
  have hlen := h.len
  have hp := g.sz_pos
  have hs : (Fm.bi k f g).sz = 1 + f.sz + g.sz := rfl
  have hpe : pe (Fm.bi k f g).enc (len - 1) 1 1 = ((1 + f.sz : Nat) : Int) := by
    have := pe_end f hf (xs := (Fm.bi k f g).enc) (i := 1) (r := g.enc) (by simp [Fm.enc])
    rw [Fm.enc_len, ← hlen] at this
    exact this
  have H := Lib.hid h.1
  have HP := Lib.hid hpe
  have h1 : 1 + f.sz ≤ len := by omega
  have h2 : 1 + f.sz < cap := by have := h.2.1; omega
  have hc2 := h.2.2
  clear h hpe hlen hs hp
  unfold maxLen at hc2
  go_enter Try.func116, Try.ntmps116
  go_wp2_with fail
  have hcall := l02Part_any (Fm.bi k f g).enc (some ⟨b, off, none⟩) len cap 1 w hl (by omega) H.out
  rw [HP.out] at hcall
  refine hcall.mono ?_
  clear hcall
  rintro e w' ⟨rfl, rfl⟩
  go_wp2
  go_ret
  refine ⟨?_, rfl⟩
  show Ending.returned (.slice (some ⟨b, off + 2, none⟩) (1 + f.sz - 1) (cap - 1)) = _
  rw [Nat.add_sub_cancel_left]
set_option maxHeartbeats 400000 in
theorem l02Right_any (k : Int) (f g : Fm) (hf : f.ok) (b off len cap : Nat) (w : World) (hl : len ≤ 1048576) (h : AtF w b off len cap (.bi k f g)) :
    Calls Try.prog 117 #[.slice (some ⟨b, off, none⟩) len cap] w fun e w' => e = .returned (.slice (some ⟨b, off + (1 + f.sz) * 2, none⟩) g.sz (cap - (1 + f.sz))) ∧ w = w' := by
  have hlen := h.len
  have hp := g.sz_pos
  have hs : (Fm.bi k f g).sz = 1 + f.sz + g.sz := rfl
  have hpe : pe (Fm.bi k f g).enc (len - 1) 1 1 = ((1 + f.sz : Nat) : Int) := by
    have := pe_end f hf (xs := (Fm.bi k f g).enc) (i := 1) (r := g.enc) (by simp [Fm.enc])
    rw [Fm.enc_len, ← hlen] at this
    exact this
  have H := Lib.hid h.1
  have HP := Lib.hid hpe
  have h1 : 1 + f.sz ≤ len := by omega
  have h2 : 1 + f.sz < cap := by have := h.2.1; omega
  have h3 := h.2.1
  have hc2 := h.2.2
  have hg : g.sz = len - (1 + f.sz) := by omega
  rw [hg]
  clear h hpe hlen hs hp hg
  unfold maxLen at hc2
  go_enter Try.func117, Try.ntmps117
  go_wp2_with fail
  have hcall := l02Part_any (Fm.bi k f g).enc (some ⟨b, off, none⟩) len cap 1 w hl (by omega) H.out
  rw [HP.out] at hcall
  refine hcall.mono ?_
  clear hcall
  rintro e w' ⟨rfl, rfl⟩
  go_wp2
  go_ret
  exact ⟨rfl, rfl⟩

theorem ret_pair {i j : Int} {k l : IntKind} {a b : Int} (h1 : i = a) (h2 : j = b) : Ending.returned (.tuple #[.int k i, .int l j]) = .returned (.tuple #[.int k a, .int l b]) := by rw [h1, h2]
theorem prt_kind {f : Fm} (hf : f.ok) : prt f.kind = match f with | .va _ => 0 | .fa => 0 | .bi _ _ _ => 2 | .un _ _ => 1 := by
  cases f with
  | va s => rfl
  | fa => rfl
  | bi k a b => rcases hf.1 with h | h | h <;> (show prt k = 2; rw [h]; rfl)
  | un k a => rcases hf.1 with h | h <;> (show prt k = 1; rw [h]; rfl)

theorem ret_three {i j e : Int} {k l m : IntKind} {a b c : Int} (h1 : i = a) (h2 : j = b) (h3 : e = c) : Ending.returned (.tuple #[.int k i, .int l j, .int m e]) = .returned (.tuple #[.int k a, .int l b, .int m c]) := by rw [h1, h2, h3]
theorem kind_modal {f : Fm} (hf : f.ok) : (f.kind == 5 || f.kind == 6) = match f with | .un _ _ => true | _ => false := by
  cases f with
  | va s => rfl
  | fa => rfl
  | bi k a b => rcases hf.1 with h | h | h <;> (show (k == 5 || k == 6) = false; rw [h]; rfl)
  | un k a => rcases hf.1 with h | h <;> (show (k == 5 || k == 6) = true; rw [h]; rfl)
/-- The kind of the node at which a formula stands in a list. -/
theorem AtN.kindAt {w : World} {b off len : Nat} {xs : List Nd} (h : AtN w (some ⟨b, off, none⟩) len xs) {i : Nat} {f : Fm} {r : List Nd} (hd : xs.drop i = f.enc ++ r) : i < len ∧ b < w.heap.size ∧ w.cell? ⟨b, off + i * 2, none⟩ = some (.int .i64 f.kind) := by
  have hl := h.1
  have hi : i < xs.length := by
    have := congrArg List.length hd
    have hp := f.sz_pos
    simp [Fm.enc_len] at this
    omega
  obtain ⟨b', off', ha, hb, hc⟩ := h.2.resolve_left (by omega)
  cases ha
  have e : kd xs i = f.kind := by
    cases f with
    | va s => exact kd_at hd
    | fa => exact kd_at hd
    | bi k a c => exact kd_at (x := (k, 0)) (r := a.enc ++ c.enc ++ r) (by rw [hd]; simp [Fm.enc])
    | un k a => exact kd_at (x := (k, 0)) (r := a.enc ++ r) (by rw [hd]; simp [Fm.enc])
  have := (hc i (by omega)).1
  rw [e] at this
  exact ⟨by omega, hb, this⟩

end Go.Proofs.Ytfkdefmafhlmnaa
