/- The contract of the model's function that writes the text of a formula where a level of binding is needed. Conditions: those in the theorems. -/
import Derived.Test.YtfkdefmafhlmnaaWrite
namespace Go.Proofs.Ytfkdefmafhlmnaa
open Go.RowKit

def str (ys : List UInt8) : ByteArray := ⟨ys.toArray⟩
theorem str_size (ys : List UInt8) : (str ys).size = ys.length := by simp [str, ByteArray.size]
theorem str_app (xs ys : List UInt8) : str xs ++ str ys = str (xs ++ ys) := ByteArray.mk_append_mk xs ys
/-- What l02Write does at a formula. -/
def WriteC (f : Fm) : Prop := ∀ (b off len cap : Nat) (w : World) (l : Nat), len ≤ 262144 → l ≤ 3 → AtF w b off len cap f →
    Calls Try.prog 102 #[.slice (some ⟨b, off, none⟩) len cap, .int .i64 l] w fun e w' => e = .returned (.string (str (f.wr l))) ∧ Below w.heap.size w w'

theorem add_str (xs ys : List UInt8) (h : xs.length + ys.length ≤ 1048576) (w : World) : (Op.stringOp .add (str xs) (str ys)).run Try.prog w = .ok (.string (str (xs ++ ys))) w := by
  rw [← str_app]
  exact run_string_add_sum w _ _ (by rw [str_size, str_size]; omega)

set_option maxHeartbeats 4000000 in
theorem write_va (s : Int) (hf : (Fm.va s).ok) : WriteC (.va s) := by
  intro b off len cap w l hl hl3 h
  obtain ⟨hb, c1, c2⟩ := h.head
  have hlen := h.len
  have h0 : 0 < len := by rw [hlen]; exact Fm.sz_pos _
  have c1' : w.cell? ⟨b, off, none⟩ = some (.int .i64 0) := c1
  have c2' : w.cell? ⟨b, off + 1, none⟩ = some (.int .i64 s) := c2
  have hcases : s = 0 ∨ s = 1 ∨ s = 2 ∨ s = 3 ∨ s = 4 ∨ s = 5 := by have := hf.1; have := hf.2; omega
  have h3 : ¬ (3 < l) := by omega
  clear h hlen c1 c2 hf
  rcases hcases with rfl | rfl | rfl | rfl | rfl | rfl
  all_goals
    go_enter Try.func102, Try.ntmps102
    go_wp2
    go_region
    all_goals
      go_wp2
      go_ret
      exact ⟨rfl, (Below.refl _ _).drew⟩

set_option maxHeartbeats 4000000 in
theorem write_fa : WriteC .fa := by
  intro b off len cap w l hl hl3 h
  obtain ⟨hb, c1, c2⟩ := h.head
  have hlen := h.len
  have h0 : 0 < len := by rw [hlen]; exact Fm.sz_pos _
  have c1' : w.cell? ⟨b, off, none⟩ = some (.int .i64 1) := c1
  have h3 : ¬ (3 < l) := by omega
  clear h hlen c1 c2
  go_enter Try.func102, Try.ntmps102
  go_wp2
  go_ret
  exact ⟨rfl, Below.refl _ _⟩

set_option maxHeartbeats 4000000 in
theorem write_un5 (a : Fm) (ih : WriteC a) : WriteC (.un 5 a) := by
  intro b off len cap w l hl hl3 h
  obtain ⟨hb, c1, c2⟩ := h.head
  have hlen := h.len
  have hs : (Fm.un 5 a).sz = 1 + a.sz := rfl
  have hgp := a.sz_pos
  have h0 : 1 < len := by omega
  have h1 := h.2.1
  have h2 := h.2.2
  unfold maxLen at h2
  have c1' : w.cell? ⟨b, off, none⟩ = some (.int .i64 5) := c1
  have hw := a.wr_len 3
  have C := Lib.hid (ih b (off + 2) (len - 1) (cap - 1) w 3 (by omega) (by omega) h.under)
  obtain ⟨S, hS⟩ : ∃ S, S = str (a.wr 3) := ⟨_, rfl⟩
  obtain ⟨T, hT⟩ : ∃ T, T = str ([91, 93] ++ a.wr 3) := ⟨_, rfl⟩
  have HS := Lib.hid hS
  have HT := Lib.hid hT
  have hadd : ∀ w, (Op.stringOp .add ⟨#[91, 93]⟩ S).run Try.prog w = .ok (.string T) w := by
    intro w
    rw [hS, hT]
    have := add_str [91, 93] (a.wr 3) (by simp; omega) w
    exact this
  have h3 : ¬ (3 < l) := by omega
  clear h hlen hs hgp c1 c2 hw ih hS hT
  go_enter Try.func102, Try.ntmps102
  go_wp2_with fail
  refine C.out.mono ?_
  rw [← HS.out]
  rintro e w1 ⟨rfl, hb1⟩
  go_wp2
  go_ret
  refine ⟨?_, hb1⟩
  rw [HT.out]
  rfl

set_option maxHeartbeats 4000000 in
theorem write_un6 (a : Fm) (ih : WriteC a) : WriteC (.un 6 a) := by
  intro b off len cap w l hl hl3 h
  obtain ⟨hb, c1, c2⟩ := h.head
  have hlen := h.len
  have hs : (Fm.un 6 a).sz = 1 + a.sz := rfl
  have hgp := a.sz_pos
  have h0 : 1 < len := by omega
  have h1 := h.2.1
  have h2 := h.2.2
  unfold maxLen at h2
  have c1' : w.cell? ⟨b, off, none⟩ = some (.int .i64 6) := c1
  have hw := a.wr_len 3
  have C := Lib.hid (ih b (off + 2) (len - 1) (cap - 1) w 3 (by omega) (by omega) h.under)
  obtain ⟨S, hS⟩ : ∃ S, S = str (a.wr 3) := ⟨_, rfl⟩
  obtain ⟨T, hT⟩ : ∃ T, T = str ([60, 62] ++ a.wr 3) := ⟨_, rfl⟩
  have HS := Lib.hid hS
  have HT := Lib.hid hT
  have hadd : ∀ w, (Op.stringOp .add ⟨#[60, 62]⟩ S).run Try.prog w = .ok (.string T) w := by
    intro w
    rw [hS, hT]
    have := add_str [60, 62] (a.wr 3) (by simp; omega) w
    exact this
  have h3 : ¬ (3 < l) := by omega
  clear h hlen hs hgp c1 c2 hw ih hS hT
  go_enter Try.func102, Try.ntmps102
  go_wp2_with fail
  refine C.out.mono ?_
  rw [← HS.out]
  rintro e w1 ⟨rfl, hb1⟩
  go_wp2
  go_ret
  refine ⟨?_, hb1⟩
  rw [HT.out]
  rfl

set_option maxHeartbeats 4000000 in
theorem write_bi2 (f g : Fm) (hf : (Fm.bi 2 f g).ok) (ihf : WriteC f) (ihg : WriteC g) : WriteC (.bi 2 f g) := by
  intro b off len cap w l hl hl3 h
  obtain ⟨hb, c1, c2⟩ := h.head
  have hlen := h.len
  have hs : (Fm.bi 2 f g).sz = 1 + f.sz + g.sz := rfl
  have hgp := g.sz_pos
  have h0 : 0 < len := by omega
  have c1' : w.cell? ⟨b, off, none⟩ = some (.int .i64 2) := c1
  have hw := f.wr_len 2
  have hw' := g.wr_len 3
  have F := Lib.hid h
  have IF := Lib.hid ihf
  have IG := Lib.hid ihg
  have hfl : f.sz ≤ 262144 := by omega
  have hgl : g.sz ≤ 262144 := by omega
  obtain ⟨S1, hS1⟩ : ∃ S, S = str (f.wr 2) := ⟨_, rfl⟩
  obtain ⟨S2, hS2⟩ : ∃ S, S = str (g.wr 3) := ⟨_, rfl⟩
  obtain ⟨T1, hT1⟩ : ∃ T, T = str (f.wr 2 ++ [38]) := ⟨_, rfl⟩
  obtain ⟨T2, hT2⟩ : ∃ T, T = str (f.wr 2 ++ [38] ++ g.wr 3) := ⟨_, rfl⟩
  obtain ⟨T3, hT3⟩ : ∃ T, T = str ([40] ++ (f.wr 2 ++ [38] ++ g.wr 3)) := ⟨_, rfl⟩
  obtain ⟨T4, hT4⟩ : ∃ T, T = str ([40] ++ (f.wr 2 ++ [38] ++ g.wr 3) ++ [41]) := ⟨_, rfl⟩
  have a1 : ∀ w, (Op.stringOp .add S1 ⟨#[38]⟩).run Try.prog w = .ok (.string T1) w := by
    intro w
    rw [hS1, hT1]
    exact add_str (f.wr 2) [38] (by simp; omega) w
  have a2 : ∀ w, (Op.stringOp .add T1 S2).run Try.prog w = .ok (.string T2) w := by
    intro w
    rw [hT1, hS2, hT2]
    exact add_str (f.wr 2 ++ [38]) (g.wr 3) (by simp; omega) w
  have a3 : ∀ w, (Op.stringOp .add ⟨#[40]⟩ T2).run Try.prog w = .ok (.string T3) w := by
    intro w
    rw [hT2, hT3]
    exact add_str [40] (f.wr 2 ++ [38] ++ g.wr 3) (by simp; omega) w
  have a4 : ∀ w, (Op.stringOp .add T3 ⟨#[41]⟩).run Try.prog w = .ok (.string T4) w := by
    intro w
    rw [hT3, hT4]
    exact add_str ([40] ++ (f.wr 2 ++ [38] ++ g.wr 3)) [41] (by simp; omega) w
  have W1 : Hid (2 < l → str ((Fm.bi 2 f g).wr l) = T4) := by
    show 2 < l → str ((Fm.bi 2 f g).wr l) = T4
    intro hlt
    rw [hT4]
    congr 1
    simp [Fm.wr, Fm.par, hlt]
  have W0 : Hid (¬ 2 < l → str ((Fm.bi 2 f g).wr l) = T2) := by
    show ¬ 2 < l → str ((Fm.bi 2 f g).wr l) = T2
    intro hlt
    rw [hT2]
    congr 1
    simp [Fm.wr, Fm.par, hlt]
  have H1 := Lib.hid hS1
  have H2 := Lib.hid hS2
  clear h hlen hs hgp c1 c2 hw hw' ihf ihg hS1 hS2 hT1 hT2 hT3 hT4
  by_cases hlt : 2 < l
  all_goals
    go_enter Try.func102, Try.ntmps102
    go_wp2_with fail
    refine (l02Left_any 2 f g hf.2.1 b off len cap _ (by omega) F.out).mono ?_
    rintro e w' ⟨rfl, rfl⟩
    go_wp2_with fail
    refine (IF.out b (off + 2) f.sz (cap - 1) _ 2 hfl (by omega) F.out.left).mono ?_
    rw [← H1.out]
    rintro e w1 ⟨rfl, hb1⟩
    have B1 := Lib.hid hb1
    clear hb1
    go_wp2_with fail
    refine (l02Right_any 2 f g hf.2.1 b off len cap _ (by omega) (F.out.keep B1.out (Nat.le_refl _))).mono ?_
    rintro e w' ⟨rfl, rfl⟩
    go_wp2_with fail
    refine (IG.out b (off + (1 + f.sz) * 2) g.sz (cap - (1 + f.sz)) _ 3 hgl (by omega) (F.out.keep B1.out (Nat.le_refl _)).right).mono ?_
    rw [← H2.out]
    rintro e w2 ⟨rfl, hb2⟩
    have B2 := Lib.hid (B1.out.trans (hb2.mono B1.out.size))
    clear hb2
    go_wp2
    go_ret
    first | exact ⟨by rw [W1.out hlt]; rfl, B2.out⟩ | exact ⟨by rw [W0.out hlt]; rfl, B2.out⟩

set_option maxHeartbeats 4000000 in
theorem write_bi3 (f g : Fm) (hf : (Fm.bi 3 f g).ok) (ihf : WriteC f) (ihg : WriteC g) : WriteC (.bi 3 f g) := by
  intro b off len cap w l hl hl3 h
  obtain ⟨hb, c1, c2⟩ := h.head
  have hlen := h.len
  have hs : (Fm.bi 3 f g).sz = 1 + f.sz + g.sz := rfl
  have hgp := g.sz_pos
  have h0 : 0 < len := by omega
  have c1' : w.cell? ⟨b, off, none⟩ = some (.int .i64 3) := c1
  have hw := f.wr_len 1
  have hw' := g.wr_len 2
  have F := Lib.hid h
  have IF := Lib.hid ihf
  have IG := Lib.hid ihg
  have hfl : f.sz ≤ 262144 := by omega
  have hgl : g.sz ≤ 262144 := by omega
  obtain ⟨S1, hS1⟩ : ∃ S, S = str (f.wr 1) := ⟨_, rfl⟩
  obtain ⟨S2, hS2⟩ : ∃ S, S = str (g.wr 2) := ⟨_, rfl⟩
  obtain ⟨T1, hT1⟩ : ∃ T, T = str (f.wr 1 ++ [124]) := ⟨_, rfl⟩
  obtain ⟨T2, hT2⟩ : ∃ T, T = str (f.wr 1 ++ [124] ++ g.wr 2) := ⟨_, rfl⟩
  obtain ⟨T3, hT3⟩ : ∃ T, T = str ([40] ++ (f.wr 1 ++ [124] ++ g.wr 2)) := ⟨_, rfl⟩
  obtain ⟨T4, hT4⟩ : ∃ T, T = str ([40] ++ (f.wr 1 ++ [124] ++ g.wr 2) ++ [41]) := ⟨_, rfl⟩
  have a1 : ∀ w, (Op.stringOp .add S1 ⟨#[124]⟩).run Try.prog w = .ok (.string T1) w := by
    intro w
    rw [hS1, hT1]
    exact add_str (f.wr 1) [124] (by simp; omega) w
  have a2 : ∀ w, (Op.stringOp .add T1 S2).run Try.prog w = .ok (.string T2) w := by
    intro w
    rw [hT1, hS2, hT2]
    exact add_str (f.wr 1 ++ [124]) (g.wr 2) (by simp; omega) w
  have a3 : ∀ w, (Op.stringOp .add ⟨#[40]⟩ T2).run Try.prog w = .ok (.string T3) w := by
    intro w
    rw [hT2, hT3]
    exact add_str [40] (f.wr 1 ++ [124] ++ g.wr 2) (by simp; omega) w
  have a4 : ∀ w, (Op.stringOp .add T3 ⟨#[41]⟩).run Try.prog w = .ok (.string T4) w := by
    intro w
    rw [hT3, hT4]
    exact add_str ([40] ++ (f.wr 1 ++ [124] ++ g.wr 2)) [41] (by simp; omega) w
  have W1 : Hid (1 < l → str ((Fm.bi 3 f g).wr l) = T4) := by
    show 1 < l → str ((Fm.bi 3 f g).wr l) = T4
    intro hlt
    rw [hT4]
    congr 1
    simp [Fm.wr, Fm.par, hlt]
  have W0 : Hid (¬ 1 < l → str ((Fm.bi 3 f g).wr l) = T2) := by
    show ¬ 1 < l → str ((Fm.bi 3 f g).wr l) = T2
    intro hlt
    rw [hT2]
    congr 1
    simp [Fm.wr, Fm.par, hlt]
  have H1 := Lib.hid hS1
  have H2 := Lib.hid hS2
  clear h hlen hs hgp c1 c2 hw hw' ihf ihg hS1 hS2 hT1 hT2 hT3 hT4
  by_cases hlt : 1 < l
  all_goals
    go_enter Try.func102, Try.ntmps102
    go_wp2_with fail
    refine (l02Left_any 3 f g hf.2.1 b off len cap _ (by omega) F.out).mono ?_
    rintro e w' ⟨rfl, rfl⟩
    go_wp2_with fail
    refine (IF.out b (off + 2) f.sz (cap - 1) _ 1 hfl (by omega) F.out.left).mono ?_
    rw [← H1.out]
    rintro e w1 ⟨rfl, hb1⟩
    have B1 := Lib.hid hb1
    clear hb1
    go_wp2_with fail
    refine (l02Right_any 3 f g hf.2.1 b off len cap _ (by omega) (F.out.keep B1.out (Nat.le_refl _))).mono ?_
    rintro e w' ⟨rfl, rfl⟩
    go_wp2_with fail
    refine (IG.out b (off + (1 + f.sz) * 2) g.sz (cap - (1 + f.sz)) _ 2 hgl (by omega) (F.out.keep B1.out (Nat.le_refl _)).right).mono ?_
    rw [← H2.out]
    rintro e w2 ⟨rfl, hb2⟩
    have B2 := Lib.hid (B1.out.trans (hb2.mono B1.out.size))
    clear hb2
    go_wp2
    go_ret
    first | exact ⟨by rw [W1.out hlt]; rfl, B2.out⟩ | exact ⟨by rw [W0.out hlt]; rfl, B2.out⟩

theorem kind_fa' {f : Fm} (hf : f.ok) : (f.kind == 1) = f.isFa := by
  cases f with
  | va s => rfl
  | fa => rfl
  | bi k a b => rcases hf.1 with h | h | h <;> (show (k == 1) = false; rw [h]; rfl)
  | un k a => rcases hf.1 with h | h <;> (show (k == 1) = false; rw [h]; rfl)
theorem enc_true {f g : Fm} (hf : (Fm.bi 4 f g).ok) : decide ((Fm.bi 4 f g).enc = [(4, 0), (1, 0), (1, 0)]) = (f.isFa && g.isFa) := by
  have e0 : (Fm.bi 4 Fm.fa Fm.fa).enc = [(4, 0), (1, 0), (1, 0)] := rfl
  rw [← e0, Bool.eq_iff_iff, decide_eq_true_iff, Bool.and_eq_true]
  constructor
  · intro h
    have := (enc_inj (Fm.bi 4 f g) hf (Fm.bi 4 .fa .fa) [] [] ⟨by omega, trivial, trivial⟩ (by rw [h])).1
    cases this
    exact ⟨rfl, rfl⟩
  · rintro ⟨h1, h2⟩
    cases f <;> cases h1
    cases g <;> cases h2
    rfl

set_option maxHeartbeats 4000000 in
theorem write_imp (f g : Fm) (hf : (Fm.bi 4 f g).ok) (hg : g.isFa = false) (ihf : WriteC f) (ihg : WriteC g) : WriteC (.bi 4 f g) := by
  intro b off len cap w l hl hl3 h
  obtain ⟨hb, c1, c2⟩ := h.head
  have hlen := h.len
  have hs : (Fm.bi 4 f g).sz = 1 + f.sz + g.sz := rfl
  have hgp := g.sz_pos
  have h0 : 0 < len := by omega
  have c1' : w.cell? ⟨b, off, none⟩ = some (.int .i64 4) := c1
  have hw := f.wr_len 1
  have hw' := g.wr_len 0
  have F := Lib.hid h
  have IF := Lib.hid ihf
  have IG := Lib.hid ihg
  have hfl : f.sz ≤ 262144 := by omega
  have hgl : g.sz ≤ 262144 := by omega
  obtain ⟨S1, hS1⟩ : ∃ S, S = str (f.wr 1) := ⟨_, rfl⟩
  obtain ⟨S2, hS2⟩ : ∃ S, S = str (g.wr 0) := ⟨_, rfl⟩
  obtain ⟨T1, hT1⟩ : ∃ T, T = str (f.wr 1 ++ [62]) := ⟨_, rfl⟩
  obtain ⟨T2, hT2⟩ : ∃ T, T = str (f.wr 1 ++ [62] ++ g.wr 0) := ⟨_, rfl⟩
  obtain ⟨T3, hT3⟩ : ∃ T, T = str ([40] ++ (f.wr 1 ++ [62] ++ g.wr 0)) := ⟨_, rfl⟩
  obtain ⟨T4, hT4⟩ : ∃ T, T = str ([40] ++ (f.wr 1 ++ [62] ++ g.wr 0) ++ [41]) := ⟨_, rfl⟩
  have a1 : ∀ w, (Op.stringOp .add S1 ⟨#[62]⟩).run Try.prog w = .ok (.string T1) w := by
    intro w
    rw [hS1, hT1]
    exact add_str (f.wr 1) [62] (by simp; omega) w
  have a2 : ∀ w, (Op.stringOp .add T1 S2).run Try.prog w = .ok (.string T2) w := by
    intro w
    rw [hT1, hS2, hT2]
    exact add_str (f.wr 1 ++ [62]) (g.wr 0) (by simp; omega) w
  have a3 : ∀ w, (Op.stringOp .add ⟨#[40]⟩ T2).run Try.prog w = .ok (.string T3) w := by
    intro w
    rw [hT2, hT3]
    exact add_str [40] (f.wr 1 ++ [62] ++ g.wr 0) (by simp; omega) w
  have a4 : ∀ w, (Op.stringOp .add T3 ⟨#[41]⟩).run Try.prog w = .ok (.string T4) w := by
    intro w
    rw [hT3, hT4]
    exact add_str ([40] ++ (f.wr 1 ++ [62] ++ g.wr 0)) [41] (by simp; omega) w
  have W1 : Hid (0 < l → str ((Fm.bi 4 f g).wr l) = T4) := by
    show 0 < l → str ((Fm.bi 4 f g).wr l) = T4
    intro hlt
    rw [hT4]
    congr 1
    simp [Fm.wr, Fm.par, hlt, hg]
  have W0 : Hid (¬ 0 < l → str ((Fm.bi 4 f g).wr l) = T2) := by
    show ¬ 0 < l → str ((Fm.bi 4 f g).wr l) = T2
    intro hlt
    rw [hT2]
    congr 1
    simp [Fm.wr, Fm.par, hlt, hg]
  have H1 := Lib.hid hS1
  have H2 := Lib.hid hS2
  have HQ := Lib.hid (show decide ((Fm.bi 4 f g).enc = [(4, 0), (1, 0), (1, 0)]) = false by rw [enc_true hf, hg, Bool.and_false])
  have hgk : (g.kind == 1) = false := by rw [kind_fa' hf.2.2]; exact hg
  have hgp2 := g.sz_pos
  clear h hlen hs hgp c1 c2 hw hw' ihf ihg hS1 hS2 hT1 hT2 hT3 hT4
  by_cases hlt : 0 < l
  all_goals
    go_enter Try.func102, Try.ntmps102
    go_wp2_with fail
    refine (l02True_any _).mono ?_
    rintro e w3 ⟨v3, rfl, ho3, hb3⟩
    obtain ⟨a3', c3', rfl, at3, -, -, -⟩ := ho3.at
    have B3 := Lib.hid hb3
    have A3 := Lib.hid at3
    clear ho3 hb3 at3
    go_wp2_with fail
    have hcall := l02Equal_any (Fm.bi 4 f g).enc [(4, 0), (1, 0), (1, 0)] (some ⟨b, off, none⟩) a3' len 3 cap c3' w3 (by omega) (by omega) (F.out.keep B3.out (Nat.le_refl _)).1 A3.out
    rw [HQ.out] at hcall
    refine hcall.mono ?_
    clear hcall
    rintro e w4 ⟨rfl, hb4⟩
    have BB := Lib.hid (B3.out.trans (hb4.mono B3.out.size))
    clear hb4
    go_wp2_with fail
    refine (l02Right_any 4 f g hf.2.1 b off len cap _ (by omega) (F.out.keep BB.out (Nat.le_refl _))).mono ?_
    rintro e w' ⟨rfl, rfl⟩
    obtain ⟨gb, gc, -⟩ := (F.out.keep BB.out (Nat.le_refl _)).right.head
    go_wp2_with fail
    refine (l02Left_any 4 f g hf.2.1 b off len cap _ (by omega) (F.out.keep BB.out (Nat.le_refl _))).mono ?_
    rintro e w' ⟨rfl, rfl⟩
    go_wp2_with fail
    refine (IF.out b (off + 2) f.sz (cap - 1) _ 1 hfl (by omega) (F.out.keep BB.out (Nat.le_refl _)).left).mono ?_
    rw [← H1.out]
    rintro e w1 ⟨rfl, hb1⟩
    have B1 := Lib.hid (BB.out.trans (hb1.mono BB.out.size))
    clear hb1
    go_wp2_with fail
    refine (l02Right_any 4 f g hf.2.1 b off len cap _ (by omega) (F.out.keep B1.out (Nat.le_refl _))).mono ?_
    rintro e w' ⟨rfl, rfl⟩
    go_wp2_with fail
    refine (IG.out b (off + (1 + f.sz) * 2) g.sz (cap - (1 + f.sz)) _ 0 hgl (by omega) (F.out.keep B1.out (Nat.le_refl _)).right).mono ?_
    rw [← H2.out]
    rintro e w2 ⟨rfl, hb2⟩
    have B2 := Lib.hid (B1.out.trans (hb2.mono B1.out.size))
    clear hb2
    go_wp2
    go_ret
    first | exact ⟨by rw [W1.out hlt]; rfl, B2.out⟩ | exact ⟨by rw [W0.out hlt]; rfl, B2.out⟩


end Go.Proofs.Ytfkdefmafhlmnaa
