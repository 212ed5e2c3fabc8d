/- Lists of bytes that a call owns, texts of digits: as Text, Ayn and Dec have them, for seats without formulas. Conditions: those in the theorems. -/
import Derived.Test.YtngllobakfnhiaaDoorLaw
import Derived.Lib.AppendStr
import Derived.Laws.BytesArg
import Derived.Laws.Concat
import Derived.Deep.RegionWith
import Derived.RegionTactic
import Derived.BigRegion
namespace Go.Proofs.YtngllobakfnhiaaDoor
open Go.RowKit

theorem info8F : (Tryd.prog.info? 5).map (fun i => (i.zero, i.size, i.bytes)) = some (some (.int .u8 0), 1, 1) := by kernel_rfl
/-- The cells of a list of bytes. -/
def cF (ys : List UInt8) : List Value := ys.map fun c => .int .u8 (c.toNat : Int)
theorem cF_len (ys : List UInt8) : (cF ys).length = ys.length := by simp [cF]
theorem cF_app (xs ys : List UInt8) : cF (xs ++ ys) = cF xs ++ cF ys := by simp [cF]
def OwnF8 (w : World) (B : Nat) (v : Value) (ys : List UInt8) : Prop := w.ownsRow B 5 1 v ys.length (cF ys)
theorem ownF8_nil (w : World) (B : Nat) : OwnF8 w B (.slice none 0 0) [] := World.ownsRow_nil w B 5 1
theorem below_appF {B : Nat} {w X w1 : World} {v : Value} {ys : List UInt8} (hbel : Below B w X) (hB : B ≤ X.heap.size) (ho : OwnF8 X B v ys) (hg : X.grownBy w1 v.ownBlock) : Below B w w1 :=
  hbel.grown hg hB (fun k hk => (World.ownsRow.lt ho k hk).1)

/-- append of one byte. -/
theorem list_appF1 {ops : Array Oper} {rest : List Oper} {o : Oper} {a : Act} {w : World} {Q : Exit → Act → World → Prop} (hgd : o.guard = none) (s x : Operand)
    (ho : o.op = .call { callee := .builtin .append, args := #[s, x], argTypes := #[45, 45] })
    (B : Nat) (v : Value) (ys : List UInt8) (hs : a.eval s = v) (hown : OwnF8 w B v ys)
    (ad : Addr) (m : Nat) (c : UInt8) (z : Int) (hx : a.eval x = .slice (some ad) 1 m) (hz : w.cell? ad = some (.int .u8 z)) (hc : (c.toNat : Int) = z) (hn : ys.length ≤ 8388608) (hB : B ≤ w.heap.size)
    (h : ∀ v' w', OwnF8 w' B v' (ys ++ [c]) → w.grownBy w' v.ownBlock → wpList Tryd.prog ops Q rest (a.put o.dst v') w') : wpList Tryd.prog ops Q (o :: rest) a w := by
  obtain ⟨i0, hi, hz0, hz1, hz2⟩ := info_parts info8F
  refine wpList_append_own w hgd s x 45 ho B 5 i0 (.int .u8 0) 1 1 Tryd.underlying45 hi hz0 hz1 hz2 rfl (by decide) v ys.length (cF ys) hs hown ad 1 m [.int .u8 z] hx rfl ?_ ?_ (by unfold maxLen; omega) (by omega) hB (fun v' w' h1 h2 _ => h v' w' ?_ h2)
  · intro j u hu
    match j, hu with
    | 0, hu => simp at hu; subst hu; simpa [Addr.add] using hz
  · intro u hu
    simp at hu; subst hu; rfl
  · unfold OwnF8
    rw [List.length_append, cF_app, show cF [c] = [.int .u8 z] by rw [← hc]; rfl]
    exact h1
/-- append of a text. -/
theorem list_appFS {ops : Array Oper} {rest : List Oper} {o : Oper} {a : Act} {w : World} {Q : Exit → Act → World → Prop} (hgd : o.guard = none) (s x : Operand)
    (ho : o.op = .call { callee := .builtin .append, args := #[s, x], argTypes := #[45, 9] })
    (B : Nat) (v : Value) (ys zs : List UInt8) (hs : a.eval s = v) (hown : OwnF8 w B v ys)
    (hx : a.eval x = .string ⟨zs.toArray⟩) (hn : ys.length ≤ 8388608) (hn2 : zs.length ≤ 8388608) (hB : B ≤ w.heap.size)
    (h : ∀ v' w', OwnF8 w' B v' (ys ++ zs) → w.grownBy w' v.ownBlock → wpList Tryd.prog ops Q rest (a.put o.dst v') w') : wpList Tryd.prog ops Q (o :: rest) a w := by
  obtain ⟨i0, hi, hz0, hz1, hz2⟩ := info_parts info8F
  have hsz : (ByteArray.mk zs.toArray).size = zs.length := by simp [ByteArray.size]
  refine Lib.wpList_append_own_string w hgd s x 45 9 ho B 5 i0 Tryd.underlying45 Tryd.underlying9 hi hz0 hz1 hz2 v ys.length (cF ys) hs hown ⟨zs.toArray⟩ hx (by rw [hsz]; unfold maxLen; omega) (by rw [hsz]; omega) hB (fun v' w' h1 h2 _ => h v' w' ?_ h2)
  unfold OwnF8
  rw [List.length_append, cF_app]
  rw [hsz] at h1
  exact h1
theorem OwnF8.at {w : World} {B : Nat} {v : Value} {ys : List UInt8} (h : OwnF8 w B v ys) : ∃ a cap, v = .slice a ys.length cap ∧ (ys = [] ∨ ∃ g, a = some ⟨g, 0, none⟩ ∧ B ≤ g ∧ g < w.heap.size) := by
  rcases h.2 with ⟨hv, hn⟩ | ⟨g, cap, cur, hv, hg, hh, -⟩
  · exact ⟨none, 0, by rw [hv, hn], .inl (List.eq_nil_of_length_eq_zero hn)⟩
  · exact ⟨_, cap, hv, .inr ⟨g, rfl, hg, (Array.getElem?_eq_some_iff.1 hh).1⟩⟩
theorem strOfNums_mapF (ys : List UInt8) : strOfNums (ys.map fun c => (c.toNat : Int)) = ⟨ys.toArray⟩ := by
  have e1 : (ys.map fun c : UInt8 => (c.toNat : Int)).map (fun n => UInt8.ofNat n.toNat) = ys := by
    rw [List.map_map]
    have : ∀ zs : List UInt8, zs.map ((fun n : Int => UInt8.ofNat n.toNat) ∘ fun c : UInt8 => (c.toNat : Int)) = zs := by
      intro zs
      induction zs with
      | nil => rfl
      | cons c zs ih => rw [List.map_cons, ih]; simp
    exact this ys
  unfold strOfNums
  rw [e1]
theorem run_textF {w : World} {B : Nat} {v : Value} {ys : List UInt8} (h : OwnF8 w B v ys) : (convert 45 9 v).run Tryd.prog w = .ok (.string ⟨ys.toArray⟩) w := by
  rcases id h.2 with ⟨hv, hn⟩ | ⟨g, cap, cur, hv, hg, hh, -⟩
  · obtain rfl : ys = [] := List.eq_nil_of_length_eq_zero hn
    rw [hv]
    have h0 := run_convert_bytes_nil (P := Tryd.prog) w 45 5 Tryd.underlying45 Tryd.underlying5 0 0 9 Tryd.underlying9
    rw [h0]
    rfl
  · have h' := h
    unfold OwnF8 at h'
    rw [hv] at h' ⊢
    have := run_convert_bytes_arg (P := Tryd.prog) w 45 5 Tryd.underlying45 Tryd.underlying5 g 0 ys.length cap (ys.map fun c => (c.toNat : Int)) (by simp) (fun i hi => by
      have e := h'.cellAt i (by omega)
      rw [Nat.zero_add, e]
      simp [cF, hi]) 9 Tryd.underlying9
    rw [this, strOfNums_mapF]

def dgF (x : Int) : UInt8 := UInt8.ofNat (48 + x.toNat)
theorem dgF_cases {x : Int} (h0 : 0 ≤ x) (h1 : x ≤ 9) : ((dgF x).toNat : Int) = 48 + x := by
  have hx : x = 0 ∨ x = 1 ∨ x = 2 ∨ x = 3 ∨ x = 4 ∨ x = 5 ∨ x = 6 ∨ x = 7 ∨ x = 8 ∨ x = 9 := by omega
  rcases hx with rfl | rfl | rfl | rfl | rfl | rfl | rfl | rfl | rfl | rfl <;> decide
def strF (ys : List UInt8) : ByteArray := ⟨ys.toArray⟩
theorem strF_app (xs ys : List UInt8) : strF xs ++ strF ys = strF (xs ++ ys) := ByteArray.mk_append_mk xs ys
theorem strF_size (xs : List UInt8) : (strF xs).size = xs.length := by simp [strF, ByteArray.size]
theorem add_strF (xs ys : List UInt8) (h : xs.length + ys.length ≤ 1048576) (w : World) : (Op.stringOp .add (strF xs) (strF ys)).run Tryd.prog w = .ok (.string (strF (xs ++ ys))) w := by
  rw [← strF_app]
  exact run_string_add_sum w _ _ (by rw [strF_size, strF_size]; omega)

theorem conv1F (c : UInt8) (z : Int) (hz : (c.toNat : Int) = z) (w : World) : (convert 45 9 (.slice (some ⟨w.heap.size, 0, none⟩) 1 1)).run Tryd.prog (w.alloc (.cells #[.int .u8 z] 5)) = .ok (.string (strF [c])) (w.alloc (.cells #[.int .u8 z] 5)) := by
  subst hz
  have hrun := run_convert_bytes_arg (P := Tryd.prog) (w.alloc (.cells #[.int .u8 (c.toNat : Int)] 5)) 45 5 Tryd.underlying45 Tryd.underlying5 w.heap.size 0 1 1 [(c.toNat : Int)] rfl (fun i hi => by
    obtain rfl : i = 0 := by omega
    exact World.cell?_alloc_at _ _ _ _ rfl) 9 Tryd.underlying9
  rw [hrun]
  have := strOfNums_mapF [c]
  rw [show ([c].map fun c => (c.toNat : Int)) = [(c.toNat : Int)] from rfl] at this
  rw [this]; rfl

set_option maxHeartbeats 1000000 in
set_option maxRecDepth 100000 in
theorem l01Dec_F (x : Int) (h0 : 0 ≤ x) (h1 : x ≤ 9) (w : World) : Calls Tryd.prog 18 #[.int .i64 x] w fun e w' => e = .returned (.string (strF [dgF x])) ∧ Below w.heap.size w w' := by
  have hd := dgF_cases h0 h1
  have hx : x = 0 ∨ x = 1 ∨ x = 2 ∨ x = 3 ∨ x = 4 ∨ x = 5 ∨ x = 6 ∨ x = 7 ∨ x = 8 ∨ x = 9 := by omega
  have hconv := conv1F (dgF x) _ hd w
  have BA := Lib.hid ((Below.refl w.heap.size w).alloc (Nat.le_refl _) (.cells #[.int .u8 (48 + x)] 5))
  obtain ⟨S, hS⟩ : ∃ S, S = strF [dgF x] := ⟨_, rfl⟩
  rw [← hS] at hconv ⊢
  clear hS hd h0 h1
  rcases hx with rfl | rfl | rfl | rfl | rfl | rfl | rfl | rfl | rfl | rfl
  all_goals
    simp only [Int.reduceAdd] at hconv
    go_enter Tryd.func18, Tryd.ntmps18
    go_wp2
    go_ret
    exact ⟨rfl, BA.out⟩


theorem OwnF8.inF8 {w w' : World} {B : Nat} {v : Value} {ys : List UInt8} (h : OwnF8 w B v ys) (hb : Below w.heap.size w w') : OwnF8 w' B v ys := by
  refine World.ownsRow.kept h (row := none) ⟨hb.os, hb.tape, hb.output, hb.size, fun i hi _ => hb.block i hi⟩ ?_
  cases hv : v.ownBlock with
  | none => exact .inl rfl
  | some k => exact .inr (fun e => by cases e)

end Go.Proofs.YtngllobakfnhiaaDoor
