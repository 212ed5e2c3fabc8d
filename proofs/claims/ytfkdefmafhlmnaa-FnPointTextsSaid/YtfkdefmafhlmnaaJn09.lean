/- 2 texts in one: Write3, LkP. -/
import Derived.Test.YtfkdefmafhlmnaaWrite2
import Derived.Test.YtfkdefmafhlmnaaWrite
import Derived.Test.YtfkdefmafhlmnaaJn04
/- The contract of the model's function that writes the text of a formula: negations and truth, every formula, and l02Text. Conditions: those in the theorems. -/
namespace Go.Proofs.Ytfkdefmafhlmnaa
open Go.RowKit

set_option maxHeartbeats 4000000 in
theorem write_not (f : Fm) (hf : (Fm.bi 4 f .fa).ok) (hn : f.isFa = false) (ihf : WriteC f) : WriteC (.bi 4 f .fa) := by
  intro b off len cap w l hl hl3 h
  obtain ⟨hb, c1, c2⟩ := h.head
  have hlen := h.len
  have hs : (Fm.bi 4 f .fa).sz = 1 + f.sz + 1 := rfl
  have h0 : 0 < len := by omega
  have c1' : w.cell? ⟨b, off, none⟩ = some (.int .i64 4) := c1
  have hw := f.wr_len 3
  have F := Lib.hid h
  have hfl : f.sz ≤ 262144 := by omega
  have h3 : ¬ (3 < l) := by omega
  have IF := Lib.hid ihf
  have HQ := Lib.hid (show decide ((Fm.bi 4 f .fa).enc = [(4, 0), (1, 0), (1, 0)]) = false by rw [enc_true hf, hn]; rfl)
  obtain ⟨S, hS⟩ : ∃ S, S = str (f.wr 3) := ⟨_, rfl⟩
  obtain ⟨T, hT⟩ : ∃ T, T = str ([126] ++ f.wr 3) := ⟨_, rfl⟩
  have hadd : ∀ w, (Op.stringOp .add ⟨#[126]⟩ S).run Try.prog w = .ok (.string T) w := by
    intro w
    rw [hS, hT]
    exact add_str [126] (f.wr 3) (by simp; omega) w
  have HS := Lib.hid hS
  have W0 : Hid (str ((Fm.bi 4 f .fa).wr l) = T) := by
    show str ((Fm.bi 4 f .fa).wr l) = T
    rw [hT]
    congr 1
    simp [Fm.wr, hn, show Fm.fa.isFa = true from rfl]
  clear h hlen hs c1 c2 hw ihf hS hT
  go_enter Try.func102, Try.ntmps102
  go_wp2_with fail
  refine (l02True_any _).mono ?_
  rintro e w3 ⟨v3, rfl, ho3, hb3⟩
  obtain ⟨a3', c3', rfl, at3, -, -, -⟩ := ho3.at
  have B3 := Lib.hid hb3
  have A3 := Lib.hid at3
  clear ho3 hb3 at3
  go_wp2_with fail
  have hcall := l02Equal_any (Fm.bi 4 f .fa).enc [(4, 0), (1, 0), (1, 0)] (some ⟨b, off, none⟩) a3' len 3 cap c3' w3 (by omega) (by omega) (F.out.keep B3.out (Nat.le_refl _)).1 A3.out
  rw [HQ.out] at hcall
  refine hcall.mono ?_
  clear hcall
  rintro e w4 ⟨rfl, hb4⟩
  have BB := Lib.hid (B3.out.trans (hb4.mono B3.out.size))
  clear hb4
  go_wp2_with fail
  refine (l02Right_any 4 f .fa hf.2.1 b off len cap _ (by omega) (F.out.keep BB.out (Nat.le_refl _))).mono ?_
  rintro e w' ⟨rfl, rfl⟩
  obtain ⟨gb, gc, -⟩ := (F.out.keep BB.out (Nat.le_refl _)).right.head
  have gc' : w4.cell? ⟨b, off + (1 + f.sz) * 2, none⟩ = some (.int .i64 1) := gc
  have hfa : Fm.fa.sz = 1 := rfl
  rw [hfa]
  clear gc
  go_wp2_with fail
  refine (l02Left_any 4 f .fa hf.2.1 b off len cap _ (by omega) (F.out.keep BB.out (Nat.le_refl _))).mono ?_
  rintro e w' ⟨rfl, rfl⟩
  go_wp2_with fail
  refine (IF.out b (off + 2) f.sz (cap - 1) _ 3 hfl (by omega) (F.out.keep BB.out (Nat.le_refl _)).left).mono ?_
  rw [← HS.out]
  rintro e w1 ⟨rfl, hb1⟩
  have B1 := Lib.hid (BB.out.trans (hb1.mono BB.out.size))
  clear hb1
  go_wp2
  go_ret
  exact ⟨by rw [W0.out]; rfl, B1.out⟩

set_option maxHeartbeats 4000000 in
theorem write_tr (hf : (Fm.bi 4 .fa .fa).ok) : WriteC (.bi 4 .fa .fa) := by
  intro b off len cap w l hl hl3 h
  obtain ⟨hb, c1, c2⟩ := h.head
  have hlen := h.len
  have hs : (Fm.bi 4 .fa .fa).sz = 1 + Fm.fa.sz + 1 := rfl
  have h0 : 0 < len := by omega
  have c1' : w.cell? ⟨b, off, none⟩ = some (.int .i64 4) := c1
  have F := Lib.hid h
  have hfl : Fm.fa.sz ≤ 262144 := by omega
  have h3 : ¬ (3 < l) := by omega
  have HQ := Lib.hid (show decide ((Fm.bi 4 .fa .fa).enc = [(4, 0), (1, 0), (1, 0)]) = true by rw [enc_true hf]; rfl)
  clear h hlen hs c1 c2
  go_enter Try.func102, Try.ntmps102
  go_wp2_with fail
  refine (l02True_any _).mono ?_
  rintro e w3 ⟨v3, rfl, ho3, hb3⟩
  obtain ⟨a3', c3', rfl, at3, -, -, -⟩ := ho3.at
  have B3 := Lib.hid hb3
  have A3 := Lib.hid at3
  clear ho3 hb3 at3
  go_wp2_with fail
  have hcall := l02Equal_any (Fm.bi 4 .fa .fa).enc [(4, 0), (1, 0), (1, 0)] (some ⟨b, off, none⟩) a3' len 3 cap c3' w3 (by omega) (by omega) (F.out.keep B3.out (Nat.le_refl _)).1 A3.out
  rw [HQ.out] at hcall
  refine hcall.mono ?_
  clear hcall
  rintro e w4 ⟨rfl, hb4⟩
  have BB := Lib.hid (B3.out.trans (hb4.mono B3.out.size))
  clear hb4
  go_wp2
  go_ret
  exact ⟨rfl, BB.out⟩

theorem write_all (f : Fm) (hf : f.ok) : WriteC f := by
  induction f with
  | va s => exact write_va s hf
  | fa => exact write_fa
  | un k a ih =>
    rcases id hf.1 with h | h
    · subst h; exact write_un5 a (ih hf.2)
    · subst h; exact write_un6 a (ih hf.2)
  | bi k f g ihf ihg =>
    rcases id hf.1 with h | h | h
    · subst h; exact write_bi2 f g hf (ihf hf.2.1) (ihg hf.2.2)
    · subst h; exact write_bi3 f g hf (ihf hf.2.1) (ihg hf.2.2)
    · subst h
      cases hg : g.isFa
      · exact write_imp f g hf hg (ihf hf.2.1) (ihg hf.2.2)
      · cases g with
        | fa =>
          cases ha : f.isFa
          · exact write_not f hf ha (ihf hf.2.1)
          · cases f with
            | fa => exact write_tr hf
            | _ => cases ha
        | _ => cases hg

theorem l02Text_any (f : Fm) (hf : f.ok) (b off len cap : Nat) (w : World) (hl : len ≤ 262144) (h : AtF w b off len cap f) :
    Calls Try.prog 69 #[.slice (some ⟨b, off, none⟩) len cap] w fun e w' => e = .returned (.string (str (f.wr 0))) ∧ Below w.heap.size w w' := by
  have C := Lib.hid (write_all f hf b off len cap w 0 hl (by omega) h)
  clear h
  go_enter Try.func69, Try.ntmps69
  go_wp2_with fail
  refine C.out.mono ?_
  rintro e w1 ⟨rfl, hb1⟩
  go_wp2
  go_ret
  exact ⟨rfl, hb1⟩

end Go.Proofs.Ytfkdefmafhlmnaa

/- The law package's function that compares two lists of point nodes, at equal lists. Conditions: those in the theorems. -/
namespace Go.Proofs.Ytfkdefmafhlmnaa
open Go.RowKit

theorem nePoint (x y z x' y' z' : Int) (w : World) : (binOp .neq 61 (.agg #[.int .i64 x, .int .i64 y, .int .i64 z]) (.agg #[.int .i64 x', .int .i64 y', .int .i64 z'])).run Try.prog w = .ok (.bool (!(x == x' && y == y' && z == z'))) w := by
  have u3 := Try.underlying2
  have hS : Try.prog.underlying 61 = some (.struct (Try.prog.fieldsOf 61)) := by kernel_rfl
  have hp : Try.prog.stoodInHeld 61 = false := by kernel_rfl
  rw [run_neq_struct, show (10000 : Nat) = 9999 + 1 from rfl, run_equalIn_agg w 9999 61 _ _ hS hp]
  simp only [Program.fieldsOf, Try.underlying61]
  go_simp
  by_cases h1 : x = x' <;> by_cases h2 : y = y' <;> by_cases h3 : z = z' <;> simp [h1, h2, h3]
theorem guPoint : Try.prog.eqGuardType Try.prog.depth 61 = false := by kernel_rfl

set_option maxHeartbeats 1000000 in
theorem likePoints_any (xs : List Pd) (a a' : Option Addr) (len cap cap' : Nat) (w : World) (hl : len ≤ 1048576) (h : AtP w a len xs) (h' : AtP w a' len xs) :
    Calls Try.prog 12 #[.slice a len cap, .slice a' len cap'] w fun e w' => e = .returned (.bool true) ∧ Below w.heap.size w w' := by
  have H := Lib.hid h
  have H' := Lib.hid h'
  clear h h'
  have hne := nePoint
  have hgu := guPoint
  go_enter Try.func12, Try.ntmps12
  go_wp2
  go_loopw [5] (fun i wr => ∃ k : Nat, k ≤ len ∧ i = .int .i64 k ∧ Below w.heap.size w wr) (fun i _ => len - (intOf i).toNat)
  case atStart => exact ⟨0, Nat.zero_le _, rfl, Below.refl _ _⟩
  case round =>
    obtain ⟨k, hk, rfl, hbel⟩ := hrel
    by_cases hlt : k < len
    · obtain ⟨b, off, rfl, hb, hc⟩ := H.out.2.resolve_left (by omega)
      obtain ⟨b', off', rfl, hb', hc'⟩ := H'.out.2.resolve_left (by omega)
      have g1 : wr.cell? ⟨b, off + k * 3, none⟩ = some (.int .i64 (kp xs k)) := (hbel.cell (p := ⟨b, off + k * 3, none⟩) hb).trans (hc k hlt).1
      have g2 : wr.cell? ⟨b, off + k * 3 + 1, none⟩ = some (.int .i64 (fp xs k)) := (hbel.cell (p := ⟨b, off + k * 3 + 1, none⟩) hb).trans (hc k hlt).2.1
      have g3 : wr.cell? ⟨b, off + k * 3 + 2, none⟩ = some (.int .i64 (tp xs k)) := (hbel.cell (p := ⟨b, off + k * 3 + 2, none⟩) hb).trans (hc k hlt).2.2
      have g1' : wr.cell? ⟨b', off' + k * 3, none⟩ = some (.int .i64 (kp xs k)) := (hbel.cell (p := ⟨b', off' + k * 3, none⟩) hb').trans (hc' k hlt).1
      have g2' : wr.cell? ⟨b', off' + k * 3 + 1, none⟩ = some (.int .i64 (fp xs k)) := (hbel.cell (p := ⟨b', off' + k * 3 + 1, none⟩) hb').trans (hc' k hlt).2.1
      have g3' : wr.cell? ⟨b', off' + k * 3 + 2, none⟩ = some (.int .i64 (tp xs k)) := (hbel.cell (p := ⟨b', off' + k * 3 + 2, none⟩) hb').trans (hc' k hlt).2.2
      have hq : (kp xs k == kp xs k && fp xs k == fp xs k && tp xs k == tp xs k) = true := by simp
      have BL := Lib.hid hbel
      clear hc hc' hbel
      go_wp2
      go_region
      all_goals
        go_wp2
        go_roundw
        case rel => exact ⟨k + 1, hlt, by go_num, BL.out.drew⟩
        case measure => simp [intOf]; omega
    · obtain rfl : k = len := by omega
      go_wp2
      go_ret
      exact ⟨rfl, hbel⟩
theorem likePoints_in (xs : List Pd) (v v' : Value) (lo hi lo' hi' : Nat) (w : World) (hl : xs.length ≤ 1048576) (h : InP w lo hi v xs) (h' : InP w lo' hi' v' xs) :
    Calls Try.prog 12 #[v, v'] w fun e w' => e = .returned (.bool true) ∧ Below w.heap.size w w' := by
  obtain ⟨a, cap, rfl, hat⟩ := h.at
  obtain ⟨a', cap', rfl, hat'⟩ := h'.at
  exact likePoints_any xs a a' xs.length cap cap' w hl hat hat'

end Go.Proofs.Ytfkdefmafhlmnaa
