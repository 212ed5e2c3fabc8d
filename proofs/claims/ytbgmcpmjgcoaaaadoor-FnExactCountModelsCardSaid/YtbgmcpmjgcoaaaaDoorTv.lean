/- The value of a plain formula in a row and its table, by the model; lists of bool that a call owns. Conditions: those in the theorems. -/
import Derived.Test.YtbgmcpmjgcoaaaaDoorBw
import Derived.Test.YtbgmcpmjgcoaaaaDoorCk
import Derived.Test.YtbgmcpmjgcoaaaaDoorMem
namespace Go.Proofs.YtbgmcpmjgcoaaaaDoor
open Go.RowKit

theorem bit_row (r s : Nat) (hr : r < 64) : bitB (r : Int) (s : Int) = r.testBit s := by
  rw [bitB_nat r s (by omega), bitN, Nat.testBit_eq_decide_div_mod_eq]

/-- What l04Value does at a formula. -/
def ValC (f : Fm) : Prop := ∀ (r : Nat) (b off len cap : Nat) (w : World), r < 64 → len ≤ 1048576 → AtF w b off len cap f →
    Calls Tryd.prog 30 #[.slice (some ⟨b, off, none⟩) len cap, .int .i64 r] w fun e w' => e = .returned (.bool (f.ev r)) ∧ w = w'
theorem val_va (s : Int) (hf : (Fm.va s).ok) : ValC (.va s) := by
  intro r b off len cap w hr hl h
  obtain ⟨hb, c1, c2⟩ := h.head
  have hlen := h.len
  have h0 : 0 < len := by rw [hlen]; exact Fm.sz_pos _
  have h1 := hf.1
  have h2 := hf.2
  have h3 : s ≤ 30 := by omega
  replace c1 : w.cell? ⟨b, off, none⟩ = some (.int .i64 0) := c1
  replace c2 : w.cell? ⟨b, off + 1, none⟩ = some (.int .i64 s) := c2
  have E := Lib.hid (show bitB (r : Int) s = (Fm.va s).ev r by
    have := bit_row r s.toNat hr
    rw [show ((s.toNat : Nat) : Int) = s by omega] at this
    exact this)
  clear h hlen hf
  go_enter Tryd.func30, Tryd.ntmps30
  go_wp2_with fail
  refine (l01Bit_any _ _ _ h1 h3).mono ?_
  rintro e w' ⟨rfl, rfl⟩
  go_wp2
  go_ret
  exact ⟨ret_bool E.out, rfl⟩
theorem val_fa : ValC .fa := by
  intro r b off len cap w hr hl h
  obtain ⟨hb, c1, c2⟩ := h.head
  have hlen := h.len
  have h0 : 0 < len := by rw [hlen]; exact Fm.sz_pos _
  replace c1 : w.cell? ⟨b, off, none⟩ = some (.int .i64 1) := c1
  clear h hlen c2
  go_enter Tryd.func30, Tryd.ntmps30
  go_wp2
  go_ret
  exact ⟨rfl, rfl⟩
def evB (k : Int) (x y : Bool) : Bool := if k = 2 then x && y else if k = 3 then x || y else !x || y
set_option maxHeartbeats 2000000 in
theorem val_bi (k : Int) (g d : Fm) (hk : k = 2 ∨ k = 3 ∨ k = 4) (hg : g.ok) (ihg : ValC g) (ihd : ValC d) : ValC (.bi k g d) := by
  intro r b off len cap w hr hl h
  obtain ⟨hb, c1, c2⟩ := h.head
  have hlen := h.len
  have hsz : (Fm.bi k g d).sz = 1 + g.sz + d.sz := rfl
  have hgp := g.sz_pos
  have hdp := d.sz_pos
  have h0 : 0 < len := by omega
  have hl2 : g.sz ≤ 1048576 := by omega
  have hl3 : d.sz ≤ 1048576 := by omega
  replace c1 : w.cell? ⟨b, off, none⟩ = some (.int .i64 k) := c1
  have HF := Lib.hid h
  have ig := ihg r b (off + 2) g.sz (cap - 1) w hr hl2 h.left
  have id := ihd r b (off + (1 + g.sz) * 2) d.sz (cap - (1 + g.sz)) w hr hl3 h.right
  have e0 : evB k (g.ev r) (d.ev r) = (Fm.bi k g d).ev r := rfl
  rw [← e0]
  generalize g.ev r = x at ig ⊢
  generalize d.ev r = y at id ⊢
  have IG := Lib.hid ig
  have ID := Lib.hid id
  clear h hlen hsz c2 ihg ihd ig id e0
  rcases hk with rfl | rfl | rfl
  all_goals
    cases x
    all_goals
      go_enter Tryd.func30, Tryd.ntmps30
      go_wp2_with fail
      refine (l02Left_any _ g d hg b off len cap _ hl HF.out).mono ?_
      rintro e w' ⟨rfl, rfl⟩
      go_wp2_with fail
      refine IG.out.mono ?_
      rintro e w' ⟨rfl, rfl⟩
      first
      | (go_wp2_with fail
         refine (l02Right_any _ g d hg b off len cap _ hl HF.out).mono ?_
         rintro e w' ⟨rfl, rfl⟩
         go_wp2_with fail
         refine ID.out.mono ?_
         rintro e w' ⟨rfl, rfl⟩
         go_wp2
         go_ret
         exact ⟨ret_bool (by cases y <;> rfl), rfl⟩)
      | (go_wp2
         go_ret
         exact ⟨ret_bool (by cases y <;> rfl), rfl⟩)
theorem l04Value_any (f : Fm) (hf : f.ok) (hp : f.pl) : ValC f := by
  induction f with
  | va s => exact val_va s hf
  | fa => exact val_fa
  | bi k a b iha ihb => exact val_bi k a b hf.1 hf.2.1 (iha hf.2.1 hp.1) (ihb hf.2.2 hp.2)
  | un k a ih => exact hp.elim

end Go.Proofs.YtbgmcpmjgcoaaaaDoor
