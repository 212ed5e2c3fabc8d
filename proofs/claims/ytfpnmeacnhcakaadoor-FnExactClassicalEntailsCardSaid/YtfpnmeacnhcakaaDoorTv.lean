/- The value of a plain formula in a row and its table, by the model; lists of bool that a call owns. Conditions: those in the theorems. -/
import Derived.Test.YtfpnmeacnhcakaaDoorBw
import Derived.Test.YtfpnmeacnhcakaaDoorCk
import Derived.Test.YtfpnmeacnhcakaaDoorMem
namespace Go.Proofs.YtfpnmeacnhcakaaDoor
open Go.RowKit

theorem bit_row (r s : Nat) (hr : r < 64) : bitB (r : Int) (s : Int) = r.testBit s := by
  rw [bitB_nat r s (by omega), bitN, Nat.testBit_eq_decide_div_mod_eq]

/-- What l04Value does at a formula. -/
def ValC (f : Fm) : Prop := ∀ (r : Nat) (b off len cap : Nat) (w : World), r < 64 → len ≤ 1048576 → AtF w b off len cap f →
    Calls Tryd.prog 43 #[.slice (some ⟨b, off, none⟩) len cap, .int .i64 r] w fun e w' => e = .returned (.bool (f.ev r)) ∧ w = w'
theorem val_va (s : Int) (hf : (Fm.va s).ok) : ValC (.va s) := by
  intro r b off len cap w hr hl h
  obtain ⟨hb, c1, c2⟩ := h.head
  have hlen := h.len
  have h0 : 0 < len := by rw [hlen]; exact Fm.sz_pos _
  have h1 := hf.1
  have h2 := hf.2
  have h3 : s ≤ 30 := by omega
  replace c1 : w.cell? ⟨b, off, none⟩ = some (.int .i64 0) := c1
  replace c2 : w.cell? ⟨b, off + 1, none⟩ = some (.int .i64 s) := c2
  have E := Lib.hid (show bitB (r : Int) s = (Fm.va s).ev r by
    have := bit_row r s.toNat hr
    rw [show ((s.toNat : Nat) : Int) = s by omega] at this
    exact this)
  clear h hlen hf
  go_enter Tryd.func43, Tryd.ntmps43
  go_wp2_with fail
  refine (l01Bit_any _ _ _ h1 h3).mono ?_
  rintro e w' ⟨rfl, rfl⟩
  go_wp2
  go_ret
  exact ⟨ret_bool E.out, rfl⟩
theorem val_fa : ValC .fa := by
  intro r b off len cap w hr hl h
  obtain ⟨hb, c1, c2⟩ := h.head
  have hlen := h.len
  have h0 : 0 < len := by rw [hlen]; exact Fm.sz_pos _
  replace c1 : w.cell? ⟨b, off, none⟩ = some (.int .i64 1) := c1
  clear h hlen c2
  go_enter Tryd.func43, Tryd.ntmps43
  go_wp2
  go_ret
  exact ⟨rfl, rfl⟩
def evB (k : Int) (x y : Bool) : Bool := if k = 2 then x && y else if k = 3 then x || y else !x || y
set_option maxHeartbeats 2000000 in
theorem val_bi (k : Int) (g d : Fm) (hk : k = 2 ∨ k = 3 ∨ k = 4) (hg : g.ok) (ihg : ValC g) (ihd : ValC d) : ValC (.bi k g d) := by
  intro r b off len cap w hr hl h
  obtain ⟨hb, c1, c2⟩ := h.head
  have hlen := h.len
  have hsz : (Fm.bi k g d).sz = 1 + g.sz + d.sz := rfl
  have hgp := g.sz_pos
  have hdp := d.sz_pos
  have h0 : 0 < len := by omega
  have hl2 : g.sz ≤ 1048576 := by omega
  have hl3 : d.sz ≤ 1048576 := by omega
  replace c1 : w.cell? ⟨b, off, none⟩ = some (.int .i64 k) := c1
  have HF := Lib.hid h
  have ig := ihg r b (off + 2) g.sz (cap - 1) w hr hl2 h.left
  have id := ihd r b (off + (1 + g.sz) * 2) d.sz (cap - (1 + g.sz)) w hr hl3 h.right
  have e0 : evB k (g.ev r) (d.ev r) = (Fm.bi k g d).ev r := rfl
  rw [← e0]
  generalize g.ev r = x at ig ⊢
  generalize d.ev r = y at id ⊢
  have IG := Lib.hid ig
  have ID := Lib.hid id
  clear h hlen hsz c2 ihg ihd ig id e0
  rcases hk with rfl | rfl | rfl
  all_goals
    cases x
    all_goals
      go_enter Tryd.func43, Tryd.ntmps43
      go_wp2_with fail
      refine (l02Left_any _ g d hg b off len cap _ hl HF.out).mono ?_
      rintro e w' ⟨rfl, rfl⟩
      go_wp2_with fail
      refine IG.out.mono ?_
      rintro e w' ⟨rfl, rfl⟩
      first
      | (go_wp2_with fail
         refine (l02Right_any _ g d hg b off len cap _ hl HF.out).mono ?_
         rintro e w' ⟨rfl, rfl⟩
         go_wp2_with fail
         refine ID.out.mono ?_
         rintro e w' ⟨rfl, rfl⟩
         go_wp2
         go_ret
         exact ⟨ret_bool (by cases y <;> rfl), rfl⟩)
      | (go_wp2
         go_ret
         exact ⟨ret_bool (by cases y <;> rfl), rfl⟩)
theorem l04Value_any (f : Fm) (hf : f.ok) (hp : f.pl) : ValC f := by
  induction f with
  | va s => exact val_va s hf
  | fa => exact val_fa
  | bi k a b iha ihb => exact val_bi k a b hf.1 hf.2.1 (iha hf.2.1 hp.1) (ihb hf.2.2 hp.2)
  | un k a ih => exact hp.elim

/-! Lists of bool. -/
theorem infoBo : (Tryd.prog.info? 4).map (fun i => (i.zero, i.size, i.bytes)) = some (some (.bool false), 1, 1) := by kernel_rfl
def OwnB (w : World) (B : Nat) (v : Value) (bs : List Bool) : Prop := w.ownsRow B 4 1 v bs.length (bs.map Value.bool)
def AtB (w : World) (a : Option Addr) (len : Nat) (bs : List Bool) : Prop :=
  len = bs.length ∧ (len = 0 ∨ ∃ b off, a = some ⟨b, off, none⟩ ∧ b < w.heap.size ∧ ∀ j, j < len → w.cell? ⟨b, off + j, none⟩ = some (.bool (bs.getD j false)))
theorem OwnB.at {w : World} {B : Nat} {v : Value} {bs : List Bool} (h : OwnB w B v bs) :
    ∃ a cap, v = .slice a bs.length cap ∧ AtB w a bs.length bs := by
  have h' := h
  rcases h.2 with ⟨hv, hn⟩ | ⟨g, cap, cur, hv, hg, hh, hc, hm, hs, ht⟩
  · exact ⟨none, 0, by rw [hv, hn], rfl, .inl hn⟩
  · have hlt : g < w.heap.size := (Array.getElem?_eq_some_iff.1 hh).1
    subst hv
    refine ⟨some ⟨g, 0, none⟩, cap, rfl, rfl, .inr ⟨g, 0, rfl, hlt, fun j hj => ?_⟩⟩
    have e := h'.cellAt j (by omega)
    rw [Nat.zero_add, e]
    simp [List.getD, hj]
theorem OwnB.cells {w : World} {B : Nat} {a : Option Addr} {n cap : Nat} {bs : List Bool} (h : w.ownsRow B 4 1 (.slice a n cap) n (bs.map Value.bool)) (hn : n = bs.length) : AtB w a n bs := by
  subst hn
  obtain ⟨a', cap', e, h2⟩ := OwnB.at h
  cases e
  exact h2
theorem OwnB.keep {w w' : World} {B C : Nat} {v : Value} {bs : List Bool} (h : OwnB w B v bs) (hb : Below C w w') (hC : w.heap.size ≤ C) : OwnB w' B v bs := by
  refine ⟨h.1, ?_⟩
  rcases h.2 with h2 | ⟨g, cap, cur, hv, hg, hh, r⟩
  · exact .inl h2
  · have hlt : g < w.heap.size := (Array.getElem?_eq_some_iff.1 hh).1
    exact .inr ⟨g, cap, cur, hv, hg, by rw [hb.block g (by omega)]; exact hh, r⟩
theorem AtB.keep {w w' : World} {C : Nat} {a : Option Addr} {len : Nat} {bs : List Bool} (h : AtB w a len bs) (hb : Below C w w') (hC : w.heap.size ≤ C) : AtB w' a len bs := by
  refine ⟨h.1, ?_⟩
  rcases h.2 with h2 | ⟨b, off, ha, hlt, hc⟩
  · exact .inl h2
  · exact .inr ⟨b, off, ha, Nat.lt_of_lt_of_le hlt hb.size, fun j hj => (hb.cell (p := ⟨b, off + j, none⟩) (by show b < C; omega)).trans (hc j hj)⟩
theorem OwnB.snoc {w : World} {B : Nat} {v : Value} {bs : List Bool} {z : Bool} (h : w.ownsRow B 4 1 v (bs.length + 1) (bs.map Value.bool ++ [.bool z])) : OwnB w B v (bs ++ [z]) := by
  unfold OwnB
  rw [List.length_append, List.map_append]
  exact h
theorem list_appB {ops : Array Oper} {rest : List Oper} {o : Oper} {a : Act} {w : World} {Q : Exit → Act → World → Prop} (hgd : o.guard = none) (s x : Operand)
    (ho : o.op = .call { callee := .builtin .append, args := #[s, x], argTypes := #[49, 49] })
    (B : Nat) (v : Value) (n : Nat) (xs : List Value) (hs : a.eval s = v) (hown : w.ownsRow B 4 1 v n xs)
    (ad : Addr) (c : Nat) (z : Bool) (hx : a.eval x = .slice (some ad) 1 c) (hz : w.cell? ad = some (.bool z)) (hn : n ≤ 1099511627776) (hB : B ≤ w.heap.size)
    (h : ∀ v' w', w'.ownsRow B 4 1 v' (n + 1) (xs ++ [.bool z]) → w.grownBy w' v.ownBlock → wpList Tryd.prog ops Q rest (a.put o.dst v') w') : wpList Tryd.prog ops Q (o :: rest) a w := by
  obtain ⟨i0, hi, hz0, hz1, hz2⟩ := info_parts infoBo
  refine wpList_plain hgd fun K hK => ?_
  refine wp_append_own w s x 49 ho B 4 i0 (.bool false) 1 1 Tryd.underlying49 hi hz0 hz1 hz2 rfl (by decide) v n xs hs hown ad 1 c [.bool z] hx rfl ?_ ?_ (by unfold maxLen; omega) (by omega) hB (fun v' w' h1 h2 _ => hK _ _ (h v' w' h1 h2))
  · intro j u hu
    match j, hu with
    | 0, hu => simp at hu; subst hu; simpa [Addr.add] using hz
  · intro u hu
    simp at hu; subst hu; rfl
theorem belowB {B : Nat} {w wr X w1 : World} {v : Value} {n : Nat} {xs : List Value} (hbel : Below B w wr) (hX : Below B wr X) (hB : B ≤ wr.heap.size) (ho : wr.ownsRow B 4 1 v n xs) (hg : X.grownBy w1 v.ownBlock) : Below B w w1 :=
  (hbel.trans hX).grown hg (Nat.le_trans hB hX.size) (fun k hk => (ho.lt k hk).1)

/-- The values of a formula in the first n rows. -/
def tbl (f : Fm) (n : Nat) : List Bool := (List.range n).map f.ev
theorem tbl_len (f : Fm) (n : Nat) : (tbl f n).length = n := by simp [tbl]
theorem tbl_succ (f : Fm) (n : Nat) : tbl f (n + 1) = tbl f n ++ [f.ev n] := by simp [tbl, List.range_succ]
theorem tbl_at (f : Fm) {n j : Nat} (h : j < n) : (tbl f n).getD j false = f.ev j := by simp [tbl, List.getD, h]
set_option maxHeartbeats 1000000 in
theorem l04Table_any (f : Fm) (hf : f.ok) (hp : f.pl) (b off len cap : Nat) (w : World) (hl : len ≤ 1048576) (h : AtF w b off len cap f) :
    Calls Tryd.prog 33 #[.slice (some ⟨b, off, none⟩) len cap] w fun e w' => ∃ v, e = .returned v ∧ OwnB w' w.heap.size v (tbl f 64) ∧ Below w.heap.size w w' := by
  have V := Lib.hid (l04Value_any f hf hp)
  have H := Lib.hid h
  have B0 := Lib.hid ((Below.refl w.heap.size w).alloc (Nat.le_refl _) (.cells #[] 4))
  have O0 := Lib.hid (show OwnB (w.alloc (.cells #[] 4)) w.heap.size (.slice (some ⟨w.heap.size, 0, none⟩) 0 0) [] from World.ownsRow_made w #[] 0 (Nat.le_refl _) (Nat.zero_le _) rfl)
  clear h hf hp
  go_enter Tryd.func33, Tryd.ntmps33
  go_wp2
  go_loopw [3, 4] (fun v i wr => ∃ t : Nat, t ≤ 64 ∧ i = .int .i64 t ∧ OwnB wr w.heap.size v (tbl f t) ∧ Below w.heap.size w wr) (fun _ i _ => 64 - (intOf i).toNat)
  case atStart => exact ⟨0, Nat.zero_le _, rfl, O0.out, B0.out⟩
  case round =>
    obtain ⟨k, hk, rfl, hown, hbel⟩ := hrel
    have HO := Lib.hid hown
    have B := Lib.hid hbel
    have hbs := hbel.size
    have hlen := tbl_len f k
    clear hown hbel
    by_cases hlt : k < 64
    · have N := Lib.hid (tbl_succ f k)
      have VV := Lib.hid (V.out k b off len cap wr hlt hl (H.out.keep B.out (Nat.le_refl _)))
      go_wp2_with (first | (go_at_call 43; refine VV.out.mono ?_; rintro e w' ⟨rfl, rfl⟩) | (at_builtin; refine list_appB rfl _ _ rfl w.heap.size _ _ _ rfl (HO.out.alloc _) ⟨wr.heap.size, 0, none⟩ 1 _ rfl (World.cell?_alloc_at _ _ _ _ rfl) (by omega) (by simp; omega) ?_; intro v' w2 hown1 hgr1))
      have B2 := Lib.hid (belowB B.out ((Below.refl _ _).alloc hbs _) hbs HO.out hgr1)
      have O2 := Lib.hid (OwnB.snoc hown1)
      clear hown1 hgr1
      go_roundw
      case rel => exact ⟨k + 1, hlt, by go_num, by rw [N.out]; exact O2.out, B2.out⟩
      case measure => simp [intOf]; omega
    · obtain rfl : k = 64 := by omega
      go_wp2
      go_ret
      exact ⟨_, rfl, HO.out, B.out⟩

end Go.Proofs.YtfpnmeacnhcakaaDoor
