/- 2 texts in one: Text, Text2. -/
import Derived.Lib.AppendStr
import Derived.Laws.BytesArg
import Derived.Test.YtpccocmiadpgiaaDeep
import Derived.Test.YtpccocmiadpgiaaPs
/- Contracts of the program's functions that write the text of a formula. Conditions: those in the theorems. -/
namespace Go.Proofs.Ytpccocmiadpgiaa
open Go.RowKit

theorem info8 : (Try.prog.info? 5).map (fun i => (i.zero, i.size, i.bytes)) = some (some (.int .u8 0), 1, 1) := by kernel_rfl
/-- The cells of a list of bytes. -/
def cY (ys : List UInt8) : List Value := ys.map fun c => .int .u8 (c.toNat : Int)
theorem cY_len (ys : List UInt8) : (cY ys).length = ys.length := by simp [cY]
theorem cY_app (xs ys : List UInt8) : cY (xs ++ ys) = cY xs ++ cY ys := by simp [cY]
def OwnY (w : World) (B : Nat) (v : Value) (ys : List UInt8) : Prop := w.ownsRow B 5 1 v ys.length (cY ys)
theorem ownY_nil (w : World) (B : Nat) : OwnY w B (.slice none 0 0) [] := World.ownsRow_nil w B 5 1
theorem AtN.keepB {w w' : World} {B b off len : Nat} {xs : List Nd} (h : AtN w (some ⟨b, off, none⟩) len xs) (hb : Below B w w') (hB : b < B) : AtN w' (some ⟨b, off, none⟩) len xs := by
  refine ⟨h.1, ?_⟩
  rcases h.2 with h2 | ⟨b', off', ha, hlt, hc⟩
  · exact .inl h2
  · cases ha
    exact .inr ⟨b, off, rfl, Nat.lt_of_lt_of_le hlt hb.size, fun j hj => ⟨(hb.cell (p := ⟨b, off + j * 2, none⟩) hB).trans (hc j hj).1, (hb.cell (p := ⟨b, off + j * 2 + 1, none⟩) hB).trans (hc j hj).2⟩⟩
theorem below_appY {B : Nat} {w X w1 : World} {v : Value} {ys : List UInt8} (hbel : Below B w X) (hB : B ≤ X.heap.size) (ho : OwnY X B v ys) (hg : X.grownBy w1 v.ownBlock) : Below B w w1 :=
  hbel.grown hg hB (fun k hk => (World.ownsRow.lt ho k hk).1)

/-- append of one byte. -/
theorem list_appY1 {ops : Array Oper} {rest : List Oper} {o : Oper} {a : Act} {w : World} {Q : Exit → Act → World → Prop} (hgd : o.guard = none) (s x : Operand)
    (ho : o.op = .call { callee := .builtin .append, args := #[s, x], argTypes := #[75, 75] })
    (B : Nat) (v : Value) (ys : List UInt8) (hs : a.eval s = v) (hown : OwnY w B v ys)
    (ad : Addr) (m : Nat) (c : UInt8) (z : Int) (hx : a.eval x = .slice (some ad) 1 m) (hz : w.cell? ad = some (.int .u8 z)) (hc : (c.toNat : Int) = z) (hn : ys.length ≤ 8388608) (hB : B ≤ w.heap.size)
    (h : ∀ v' w', OwnY w' B v' (ys ++ [c]) → w.grownBy w' v.ownBlock → wpList Try.prog ops Q rest (a.put o.dst v') w') : wpList Try.prog ops Q (o :: rest) a w := by
  obtain ⟨i0, hi, hz0, hz1, hz2⟩ := info_parts info8
  refine wpList_append_own w hgd s x 75 ho B 5 i0 (.int .u8 0) 1 1 Try.underlying75 hi hz0 hz1 hz2 rfl (by decide) v ys.length (cY ys) hs hown ad 1 m [.int .u8 z] hx rfl ?_ ?_ (by unfold maxLen; omega) (by omega) hB (fun v' w' h1 h2 _ => h v' w' ?_ h2)
  · intro j u hu
    match j, hu with
    | 0, hu => simp at hu; subst hu; simpa [Addr.add] using hz
  · intro u hu
    simp at hu; subst hu; rfl
  · unfold OwnY
    rw [List.length_append, cY_app, show cY [c] = [.int .u8 z] by rw [← hc]; rfl]
    exact h1
/-- append of a text. -/
theorem list_appYS {ops : Array Oper} {rest : List Oper} {o : Oper} {a : Act} {w : World} {Q : Exit → Act → World → Prop} (hgd : o.guard = none) (s x : Operand)
    (ho : o.op = .call { callee := .builtin .append, args := #[s, x], argTypes := #[75, 9] })
    (B : Nat) (v : Value) (ys zs : List UInt8) (hs : a.eval s = v) (hown : OwnY w B v ys)
    (hx : a.eval x = .string ⟨zs.toArray⟩) (hn : ys.length ≤ 8388608) (hn2 : zs.length ≤ 8388608) (hB : B ≤ w.heap.size)
    (h : ∀ v' w', OwnY w' B v' (ys ++ zs) → w.grownBy w' v.ownBlock → wpList Try.prog ops Q rest (a.put o.dst v') w') : wpList Try.prog ops Q (o :: rest) a w := by
  obtain ⟨i0, hi, hz0, hz1, hz2⟩ := info_parts info8
  have hsz : (ByteArray.mk zs.toArray).size = zs.length := by simp [ByteArray.size]
  refine Lib.wpList_append_own_string w hgd s x 75 9 ho B 5 i0 Try.underlying75 Try.underlying9 hi hz0 hz1 hz2 v ys.length (cY ys) hs hown ⟨zs.toArray⟩ hx (by rw [hsz]; unfold maxLen; omega) (by rw [hsz]; omega) hB (fun v' w' h1 h2 _ => h v' w' ?_ h2)
  unfold OwnY
  rw [List.length_append, cY_app]
  rw [hsz] at h1
  exact h1
theorem OwnY.at {w : World} {B : Nat} {v : Value} {ys : List UInt8} (h : OwnY w B v ys) : ∃ a cap, v = .slice a ys.length cap ∧ (ys = [] ∨ ∃ g, a = some ⟨g, 0, none⟩ ∧ B ≤ g ∧ g < w.heap.size) := by
  rcases h.2 with ⟨hv, hn⟩ | ⟨g, cap, cur, hv, hg, hh, -⟩
  · exact ⟨none, 0, by rw [hv, hn], .inl (List.eq_nil_of_length_eq_zero hn)⟩
  · exact ⟨_, cap, hv, .inr ⟨g, rfl, hg, (Array.getElem?_eq_some_iff.1 hh).1⟩⟩
theorem strOfNums_map (ys : List UInt8) : strOfNums (ys.map fun c => (c.toNat : Int)) = ⟨ys.toArray⟩ := by
  have e1 : (ys.map fun c : UInt8 => (c.toNat : Int)).map (fun n => UInt8.ofNat n.toNat) = ys := by
    rw [List.map_map]
    have : ∀ zs : List UInt8, zs.map ((fun n : Int => UInt8.ofNat n.toNat) ∘ fun c : UInt8 => (c.toNat : Int)) = zs := by
      intro zs
      induction zs with
      | nil => rfl
      | cons c zs ih => rw [List.map_cons, ih]; simp
    exact this ys
  unfold strOfNums
  rw [e1]
/-- string(b) of bytes that the call owns. -/
theorem run_text {w : World} {B : Nat} {v : Value} {ys : List UInt8} (h : OwnY w B v ys) : (convert 75 9 v).run Try.prog w = .ok (.string ⟨ys.toArray⟩) w := by
  rcases id h.2 with ⟨hv, hn⟩ | ⟨g, cap, cur, hv, hg, hh, -⟩
  · obtain rfl : ys = [] := List.eq_nil_of_length_eq_zero hn
    rw [hv]
    have h0 := run_convert_bytes_nil (P := Try.prog) w 75 5 Try.underlying75 Try.underlying5 0 0 9 Try.underlying9
    rw [h0]
    rfl
  · have h' := h
    unfold OwnY at h'
    rw [hv] at h' ⊢
    have := run_convert_bytes_arg (P := Try.prog) w 75 5 Try.underlying75 Try.underlying5 g 0 ys.length cap (ys.map fun c => (c.toNat : Int)) (by simp) (fun i hi => by
      have e := h'.cellAt i (by omega)
      rw [Nat.zero_add, e]
      simp [cY, hi]) 9 Try.underlying9
    rw [this, strOfNums_map]

theorem bindOf_any (k : Int) (w : World) : Calls Try.prog 79 #[.int .i64 k] w fun e w' => e = .returned (.int .i64 (bnd k : Nat)) ∧ w = w' := by
  by_cases h : k = -1 ∨ k = 4 ∨ k = 3 ∨ k = 2 ∨ k = 5 ∨ k = 6 ∨ k = -2
  · rcases h with rfl | rfl | rfl | rfl | rfl | rfl | rfl
    all_goals
      go_enter Try.func79, Try.ntmps79
      go_wp2
      go_ret
      exact ⟨rfl, rfl⟩
  · have e1 : (k == -1) = false := by simp; omega
    have e4 : (k == 4) = false := by simp; omega
    have e3 : (k == 3) = false := by simp; omega
    have e2 : (k == 2) = false := by simp; omega
    have e5 : (k == 5) = false := by simp; omega
    have e6 : (k == 6) = false := by simp; omega
    have e7 : (k == -2) = false := by simp; omega
    have HP : Hid (((bnd k : Nat) : Int) = 5) := by show ((bnd k : Nat) : Int) = 5; unfold bnd; rw [if_neg (by omega), if_neg (by omega), if_neg (by omega), if_neg (by omega), if_neg (by omega)]; rfl
    clear h
    go_enter Try.func79, Try.ntmps79
    go_wp2
    go_ret
    exact ⟨ret_int HP.out.symm, rfl⟩

namespace Fm
def isNeg : Fm → Bool
  | bi k _ b => k == 4 && b.isFa
  | _ => false
def isTr : Fm → Bool
  | bi k a b => k == 4 && b.isFa && a.isFa
  | _ => false
end Fm
theorem kind_fa {f : Fm} (hf : f.ok) : (f.kind == 1) = f.isFa := by
  cases f with
  | va s => rfl
  | fa => rfl
  | bi k a b => rcases hf.1 with h | h | h <;> (show (k == 1) = false; rw [h]; rfl)
  | un k a => rcases hf.1 with h | h <;> (show (k == 1) = false; rw [h]; rfl)

end Go.Proofs.Ytpccocmiadpgiaa

/- Contracts of the program's functions that write the text of a formula: the recursion. Conditions: those in the theorems. -/
namespace Go.Proofs.Ytpccocmiadpgiaa
open Go.RowKit

set_option maxHeartbeats 1000000 in
theorem isNegationAt_any (xs : List Nd) (b off len cap : Nat) (w : World) (hl : len ≤ 1048576) (h : AtN w (some ⟨b, off, none⟩) len xs) (f : Fm) (hf : f.ok) (i : Nat) (r : List Nd) (hd : xs.drop i = f.enc ++ r) :
    Calls Try.prog 82 #[.slice (some ⟨b, off, none⟩) len cap, .int .i64 i] w fun e w' => e = .returned (.bool f.isNeg) ∧ w = w' := by
  have H := Lib.hid h
  obtain ⟨hi, hb, c1⟩ := h.kindAt hd
  cases hk : (f.kind == 4)
  · have hn : f.isNeg = false := by
      cases f with
      | bi k a b => show (k == 4 && b.isFa) = false; rw [show (k == 4) = false from hk]; rfl
      | _ => rfl
    rw [hn]
    clear h hd hn
    go_enter Try.func82, Try.ntmps82
    go_wp2
    go_ret
    exact ⟨rfl, rfl⟩
  · cases f with
    | va s => simp [Fm.kind] at hk
    | fa => simp [Fm.kind] at hk
    | un k a =>
      have := hf.1
      simp [Fm.kind] at hk
      omega
    | bi k a d =>
      have hk4 : k = 4 := by simpa [Fm.kind] using hk
      subst hk4
      have hd1 : xs.drop (i + 1) = a.enc ++ (d.enc ++ r) := drop_next (x := (4, 0)) (by rw [hd]; simp [Fm.enc])
      have hd2 : xs.drop (i + 1 + a.sz) = d.enc ++ r := by have := drop_add hd1; rwa [Fm.enc_len] at this
      have hpe := pe_end a hf.2.1 hd1
      rw [← h.1] at hpe
      obtain ⟨hi2, -, c2⟩ := h.kindAt hd2
      have hn : (Fm.bi 4 a d).isNeg = (d.kind == 1) := by rw [kind_fa hf.2.2]; rfl
      rw [hn]
      have hi3 : i + 1 ≤ len := by omega
      have c1' : w.cell? ⟨b, off + i * 2, none⟩ = some (.int .i64 4) := c1
      obtain ⟨j, hj⟩ : ∃ j, j = i + 1 + a.sz := ⟨_, rfl⟩
      rw [← hj] at hpe c2 hi2
      have HP := Lib.hid hpe
      clear h hd hd1 hd2 hpe c1 hk hn hj
      go_enter Try.func82, Try.ntmps82
      go_wp2_with fail
      have hcall := partEnd_any xs (some ⟨b, off, none⟩) len cap (i + 1) _ w hl hi3 H.out HP.out (by omega)
      rw [show ((i + 1 : Nat) : Int) = (i : Int) + 1 by omega] at hcall
      refine hcall.mono ?_
      clear hcall
      rintro e w' ⟨rfl, rfl⟩
      go_wp2
      go_ret
      exact ⟨rfl, rfl⟩

set_option maxHeartbeats 1000000 in
theorem isTruthAt_any (xs : List Nd) (b off len cap : Nat) (w : World) (hl : len ≤ 1048576) (h : AtN w (some ⟨b, off, none⟩) len xs) (f : Fm) (hf : f.ok) (i : Nat) (r : List Nd) (hd : xs.drop i = f.enc ++ r) :
    Calls Try.prog 81 #[.slice (some ⟨b, off, none⟩) len cap, .int .i64 i] w fun e w' => e = .returned (.bool f.isTr) ∧ w = w' := by
  have H := Lib.hid h
  obtain ⟨hi, hb, c1⟩ := h.kindAt hd
  cases hn : f.isNeg
  · have ht : f.isTr = false := by
      cases f with
      | bi k a b => show ((k == 4 && b.isFa) && a.isFa) = false; rw [show (k == 4 && b.isFa) = false from hn]; rfl
      | _ => rfl
    rw [ht]
    have C := Lib.hid (isNegationAt_any xs b off len cap w hl h f hf i r hd)
    have HN := Lib.hid hn
    clear h hd hn ht
    go_enter Try.func81, Try.ntmps81
    go_wp2_with (go_at_call 82; refine C.out.mono ?_; rw [HN.out]; rintro e w' ⟨rfl, rfl⟩)
    go_ret
    exact ⟨rfl, rfl⟩
  · cases f with
    | va s => cases hn
    | fa => cases hn
    | un k a => cases hn
    | bi k a d =>
      have hd1 : xs.drop (i + 1) = a.enc ++ (d.enc ++ r) := drop_next (x := (k, 0)) (by rw [hd]; simp [Fm.enc])
      obtain ⟨hi2, -, c2⟩ := h.kindAt hd1
      have ht : (Fm.bi k a d).isTr = (a.kind == 1) := by rw [kind_fa hf.2.1]; show ((k == 4 && d.isFa) && a.isFa) = _; rw [show (k == 4 && d.isFa) = true from hn]; rfl
      rw [ht]
      have C := Lib.hid (isNegationAt_any xs b off len cap w hl h _ hf i r hd)
      have HN := Lib.hid hn
      clear h hd hn ht hd1
      go_enter Try.func81, Try.ntmps81
      go_wp2_with (go_at_call 82; refine C.out.mono ?_; rw [HN.out]; rintro e w' ⟨rfl, rfl⟩)
      go_ret
      exact ⟨rfl, rfl⟩

def bdA (f : Fm) : Nat := if f.isTr then 5 else if f.isNeg then 4 else bnd f.kind
set_option maxHeartbeats 1000000 in
theorem bindAt_any (xs : List Nd) (b off len cap : Nat) (w : World) (hl : len ≤ 1048576) (h : AtN w (some ⟨b, off, none⟩) len xs) (f : Fm) (hf : f.ok) (i : Nat) (r : List Nd) (hd : xs.drop i = f.enc ++ r) :
    Calls Try.prog 68 #[.slice (some ⟨b, off, none⟩) len cap, .int .i64 i] w fun e w' => e = .returned (.int .i64 (bdA f : Nat)) ∧ w = w' := by
  have C := Lib.hid (isNegationAt_any xs b off len cap w hl h f hf i r hd)
  have D := Lib.hid (isTruthAt_any xs b off len cap w hl h f hf i r hd)
  obtain ⟨hi, hb, c1⟩ := h.kindAt hd
  clear h hd
  cases ht : f.isTr
  · cases hn : f.isNeg
    · have e : ((bdA f : Nat) : Int) = (bnd f.kind : Nat) := by unfold bdA; rw [ht, hn]; rfl
      have HT := Lib.hid ht
      have HN := Lib.hid hn
      have E := Lib.hid e
      clear ht hn e
      go_enter Try.func68, Try.ntmps68
      go_wp2_with (first | (go_at_call 81; refine D.out.mono ?_; rw [HT.out]; rintro e w' ⟨rfl, rfl⟩) | (go_at_call 82; refine C.out.mono ?_; rw [HN.out]; rintro e w' ⟨rfl, rfl⟩) | (go_at_call 79; refine (bindOf_any _ _).mono ?_; rintro e w' ⟨rfl, rfl⟩))
      go_ret
      exact ⟨ret_int E.out.symm, rfl⟩
    · have e : ((bdA f : Nat) : Int) = 4 := by unfold bdA; rw [ht, hn]; rfl
      have HT := Lib.hid ht
      have HN := Lib.hid hn
      have E := Lib.hid e
      clear ht hn e
      go_enter Try.func68, Try.ntmps68
      go_wp2_with (first | (go_at_call 81; refine D.out.mono ?_; rw [HT.out]; rintro e w' ⟨rfl, rfl⟩) | (go_at_call 82; refine C.out.mono ?_; rw [HN.out]; rintro e w' ⟨rfl, rfl⟩))
      go_ret
      exact ⟨ret_int E.out.symm, rfl⟩
  · have e : ((bdA f : Nat) : Int) = 5 := by unfold bdA; rw [ht]; rfl
    have HT := Lib.hid ht
    have E := Lib.hid e
    clear ht e
    go_enter Try.func68, Try.ntmps68
    go_wp2_with (go_at_call 81; refine D.out.mono ?_; rw [HT.out]; rintro e w' ⟨rfl, rfl⟩)
    go_ret
    exact ⟨ret_int E.out.symm, rfl⟩

/-- A formula that binds less tightly than its place asks stands in parentheses. -/
theorem wr_par {f : Fm} (hf : f.ok) (l : Nat) (hl : l ≤ 3) : f.wr l = if l + 1 ≤ bdA f then f.wr 0 else 40 :: (f.wr 0 ++ [41]) := by
  cases f with
  | va s => rw [if_pos (by show l + 1 ≤ 5; omega)]; rfl
  | fa => rw [if_pos (by show l + 1 ≤ 5; omega)]; rfl
  | un k a =>
    have : bdA (.un k a) = 4 := by rcases hf.1 with h | h <;> (rw [h]; rfl)
    rw [if_pos (by omega)]; rfl
  | bi k a b =>
    rcases hf.1 with h | h | h
    · subst h
      have : bdA (.bi 2 a b) = 3 := rfl
      rw [this]
      by_cases h2 : 2 < l
      · rw [if_neg (by omega)]; simp [Fm.wr, Fm.par, h2]
      · rw [if_pos (by omega)]; simp [Fm.wr, Fm.par, h2]
    · subst h
      have : bdA (.bi 3 a b) = 2 := rfl
      rw [this]
      by_cases h2 : 1 < l
      · rw [if_neg (by omega)]; simp [Fm.wr, Fm.par, h2]
      · rw [if_pos (by omega)]; simp [Fm.wr, Fm.par, h2]
    · subst h
      cases hb : b.isFa
      · have : bdA (.bi 4 a b) = 1 := by simp [bdA, Fm.isTr, Fm.isNeg, hb, Fm.kind, bnd]
        rw [this]
        by_cases h2 : 0 < l
        · rw [if_neg (by omega)]; simp [Fm.wr, Fm.par, h2, hb]
        · rw [if_pos (by omega)]; simp [Fm.wr, Fm.par, h2, hb]
      · cases ha : a.isFa
        · have : bdA (.bi 4 a b) = 4 := by simp [bdA, Fm.isTr, Fm.isNeg, hb, ha]
          rw [if_pos (by omega)]; simp [Fm.wr, hb, ha]
        · have : bdA (.bi 4 a b) = 5 := by simp [bdA, Fm.isTr, hb, ha]
          rw [if_pos (by omega)]; simp [Fm.wr, hb, ha]

end Go.Proofs.Ytpccocmiadpgiaa
