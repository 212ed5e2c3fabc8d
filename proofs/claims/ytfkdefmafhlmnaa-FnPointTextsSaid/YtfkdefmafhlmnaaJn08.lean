/- 2 texts in one: Text, Ayn. -/
import Derived.Lib.AppendStr
import Derived.Laws.BytesArg
import Derived.Test.YtfkdefmafhlmnaaJn06
import Derived.Test.YtfkdefmafhlmnaaPs
import Derived.Deep.RegionWith
import Derived.RegionTactic
import Derived.BigRegion
import Derived.Test.YtfkdefmafhlmnaaPoM
/- Contracts of the program's functions that write the text of a formula. Conditions: those in the theorems. -/
namespace Go.Proofs.Ytfkdefmafhlmnaa
open Go.RowKit

theorem info8 : (Try.prog.info? 5).map (fun i => (i.zero, i.size, i.bytes)) = some (some (.int .u8 0), 1, 1) := by kernel_rfl
/-- The cells of a list of bytes. -/
def cY (ys : List UInt8) : List Value := ys.map fun c => .int .u8 (c.toNat : Int)
theorem cY_len (ys : List UInt8) : (cY ys).length = ys.length := by simp [cY]
theorem cY_app (xs ys : List UInt8) : cY (xs ++ ys) = cY xs ++ cY ys := by simp [cY]
def OwnY (w : World) (B : Nat) (v : Value) (ys : List UInt8) : Prop := w.ownsRow B 5 1 v ys.length (cY ys)
theorem ownY_nil (w : World) (B : Nat) : OwnY w B (.slice none 0 0) [] := World.ownsRow_nil w B 5 1
theorem AtN.keepB {w w' : World} {B b off len : Nat} {xs : List Nd} (h : AtN w (some ⟨b, off, none⟩) len xs) (hb : Below B w w') (hB : b < B) : AtN w' (some ⟨b, off, none⟩) len xs := by
  refine ⟨h.1, ?_⟩
  rcases h.2 with h2 | ⟨b', off', ha, hlt, hc⟩
  · exact .inl h2
  · cases ha
    exact .inr ⟨b, off, rfl, Nat.lt_of_lt_of_le hlt hb.size, fun j hj => ⟨(hb.cell (p := ⟨b, off + j * 2, none⟩) hB).trans (hc j hj).1, (hb.cell (p := ⟨b, off + j * 2 + 1, none⟩) hB).trans (hc j hj).2⟩⟩
theorem below_appY {B : Nat} {w X w1 : World} {v : Value} {ys : List UInt8} (hbel : Below B w X) (hB : B ≤ X.heap.size) (ho : OwnY X B v ys) (hg : X.grownBy w1 v.ownBlock) : Below B w w1 :=
  hbel.grown hg hB (fun k hk => (World.ownsRow.lt ho k hk).1)

/-- append of one byte. -/
theorem list_appY1 {ops : Array Oper} {rest : List Oper} {o : Oper} {a : Act} {w : World} {Q : Exit → Act → World → Prop} (hgd : o.guard = none) (s x : Operand)
    (ho : o.op = .call { callee := .builtin .append, args := #[s, x], argTypes := #[22, 22] })
    (B : Nat) (v : Value) (ys : List UInt8) (hs : a.eval s = v) (hown : OwnY w B v ys)
    (ad : Addr) (m : Nat) (c : UInt8) (z : Int) (hx : a.eval x = .slice (some ad) 1 m) (hz : w.cell? ad = some (.int .u8 z)) (hc : (c.toNat : Int) = z) (hn : ys.length ≤ 8388608) (hB : B ≤ w.heap.size)
    (h : ∀ v' w', OwnY w' B v' (ys ++ [c]) → w.grownBy w' v.ownBlock → wpList Try.prog ops Q rest (a.put o.dst v') w') : wpList Try.prog ops Q (o :: rest) a w := by
  obtain ⟨i0, hi, hz0, hz1, hz2⟩ := info_parts info8
  refine wpList_append_own w hgd s x 22 ho B 5 i0 (.int .u8 0) 1 1 Try.underlying22 hi hz0 hz1 hz2 rfl (by decide) v ys.length (cY ys) hs hown ad 1 m [.int .u8 z] hx rfl ?_ ?_ (by unfold maxLen; omega) (by omega) hB (fun v' w' h1 h2 _ => h v' w' ?_ h2)
  · intro j u hu
    match j, hu with
    | 0, hu => simp at hu; subst hu; simpa [Addr.add] using hz
  · intro u hu
    simp at hu; subst hu; rfl
  · unfold OwnY
    rw [List.length_append, cY_app, show cY [c] = [.int .u8 z] by rw [← hc]; rfl]
    exact h1
/-- append of a text. -/
theorem list_appYS {ops : Array Oper} {rest : List Oper} {o : Oper} {a : Act} {w : World} {Q : Exit → Act → World → Prop} (hgd : o.guard = none) (s x : Operand)
    (ho : o.op = .call { callee := .builtin .append, args := #[s, x], argTypes := #[22, 9] })
    (B : Nat) (v : Value) (ys zs : List UInt8) (hs : a.eval s = v) (hown : OwnY w B v ys)
    (hx : a.eval x = .string ⟨zs.toArray⟩) (hn : ys.length ≤ 8388608) (hn2 : zs.length ≤ 8388608) (hB : B ≤ w.heap.size)
    (h : ∀ v' w', OwnY w' B v' (ys ++ zs) → w.grownBy w' v.ownBlock → wpList Try.prog ops Q rest (a.put o.dst v') w') : wpList Try.prog ops Q (o :: rest) a w := by
  obtain ⟨i0, hi, hz0, hz1, hz2⟩ := info_parts info8
  have hsz : (ByteArray.mk zs.toArray).size = zs.length := by simp [ByteArray.size]
  refine Lib.wpList_append_own_string w hgd s x 22 9 ho B 5 i0 Try.underlying22 Try.underlying9 hi hz0 hz1 hz2 v ys.length (cY ys) hs hown ⟨zs.toArray⟩ hx (by rw [hsz]; unfold maxLen; omega) (by rw [hsz]; omega) hB (fun v' w' h1 h2 _ => h v' w' ?_ h2)
  unfold OwnY
  rw [List.length_append, cY_app]
  rw [hsz] at h1
  exact h1
theorem OwnY.at {w : World} {B : Nat} {v : Value} {ys : List UInt8} (h : OwnY w B v ys) : ∃ a cap, v = .slice a ys.length cap ∧ (ys = [] ∨ ∃ g, a = some ⟨g, 0, none⟩ ∧ B ≤ g ∧ g < w.heap.size) := by
  rcases h.2 with ⟨hv, hn⟩ | ⟨g, cap, cur, hv, hg, hh, -⟩
  · exact ⟨none, 0, by rw [hv, hn], .inl (List.eq_nil_of_length_eq_zero hn)⟩
  · exact ⟨_, cap, hv, .inr ⟨g, rfl, hg, (Array.getElem?_eq_some_iff.1 hh).1⟩⟩
theorem strOfNums_map (ys : List UInt8) : strOfNums (ys.map fun c => (c.toNat : Int)) = ⟨ys.toArray⟩ := by
  have e1 : (ys.map fun c : UInt8 => (c.toNat : Int)).map (fun n => UInt8.ofNat n.toNat) = ys := by
    rw [List.map_map]
    have : ∀ zs : List UInt8, zs.map ((fun n : Int => UInt8.ofNat n.toNat) ∘ fun c : UInt8 => (c.toNat : Int)) = zs := by
      intro zs
      induction zs with
      | nil => rfl
      | cons c zs ih => rw [List.map_cons, ih]; simp
    exact this ys
  unfold strOfNums
  rw [e1]
/-- string(b) of bytes that the call owns. -/
theorem run_text {w : World} {B : Nat} {v : Value} {ys : List UInt8} (h : OwnY w B v ys) : (convert 22 9 v).run Try.prog w = .ok (.string ⟨ys.toArray⟩) w := by
  rcases id h.2 with ⟨hv, hn⟩ | ⟨g, cap, cur, hv, hg, hh, -⟩
  · obtain rfl : ys = [] := List.eq_nil_of_length_eq_zero hn
    rw [hv]
    have h0 := run_convert_bytes_nil (P := Try.prog) w 22 5 Try.underlying22 Try.underlying5 0 0 9 Try.underlying9
    rw [h0]
    rfl
  · have h' := h
    unfold OwnY at h'
    rw [hv] at h' ⊢
    have := run_convert_bytes_arg (P := Try.prog) w 22 5 Try.underlying22 Try.underlying5 g 0 ys.length cap (ys.map fun c => (c.toNat : Int)) (by simp) (fun i hi => by
      have e := h'.cellAt i (by omega)
      rw [Nat.zero_add, e]
      simp [cY, hi]) 9 Try.underlying9
    rw [this, strOfNums_map]

namespace Fm
def isNeg : Fm → Bool
  | bi k _ b => k == 4 && b.isFa
  | _ => false
def isTr : Fm → Bool
  | bi k a b => k == 4 && b.isFa && a.isFa
  | _ => false
end Fm
theorem kind_fa {f : Fm} (hf : f.ok) : (f.kind == 1) = f.isFa := by
  cases f with
  | va s => rfl
  | fa => rfl
  | bi k a b => rcases hf.1 with h | h | h <;> (show (k == 1) = false; rw [h]; rfl)
  | un k a => rcases hf.1 with h | h <;> (show (k == 1) = false; rw [h]; rfl)

end Go.Proofs.Ytfkdefmafhlmnaa

/- append of several bytes at once, and the digit of a point. Conditions: those in the theorems. -/
namespace Go.Proofs.Ytfkdefmafhlmnaa
open Go.RowKit

theorem cY_one (ys : List UInt8) : ∀ u ∈ cY ys, u.oneCell' = true := by
  intro u hu
  obtain ⟨x, -, rfl⟩ := List.mem_map.1 hu
  rfl
/-- append of some bytes, as a step of a region. -/
theorem step_appYn {ops : Array Oper} {o : Oper} {a : Act} {w : World} {K : Act → World → Prop} {Q : Exit → Act → World → Prop} {E : Prop} (hgd : o.guard = none) (s x : Operand)
    (ho : o.op = .call { callee := .builtin .append, args := #[s, x], argTypes := #[22, 22] })
    (B : Nat) (v : Value) (ys zs : List UInt8) (hs : a.eval s = v) (hown : OwnY w B v ys)
    (ad : Addr) (m c : Nat) (hx : a.eval x = .slice (some ad) m c) (hm : m = zs.length) (hz : ∀ j u, (cY zs)[j]? = some u → w.cell? (ad.add j) = some u) (hn : ys.length + m ≤ 8388608) (hB : B ≤ w.heap.size)
    (h : ∀ v' w', OwnY w' B v' (ys ++ zs) → w.grownBy w' v.ownBlock → K (a.put o.dst v') w') :
    if Region.wanted o (yielded ops a.tmps) = true then Oper.wp Try.prog o a w K Q else E := by
  have hw : Region.wanted o (yielded ops a.tmps) = true := by simp [Region.wanted, hgd]
  rw [if_pos hw]
  obtain ⟨i0, hi, hz0, hz1, hz2⟩ := info_parts info8
  refine wp_append_own w s x 22 ho B 5 i0 (.int .u8 0) 1 1 Try.underlying22 hi hz0 hz1 hz2 rfl (by decide) v ys.length (cY ys) hs hown ad m c (cY zs) hx (by rw [cY_len]; omega) hz (cY_one zs) (by unfold maxLen; omega) (by omega) hB (fun v' w' h1 h2 _ => h v' w' ?_ h2)
  unfold OwnY
  rw [List.length_append, cY_app, ← hm]
  exact h1

def dg (x : Int) : UInt8 := UInt8.ofNat (48 + x.toNat)
theorem dg_cases {x : Int} (h0 : 0 ≤ x) (h1 : x ≤ 9) : ((dg x).toNat : Int) = 48 + x := by
  have hx : x = 0 ∨ x = 1 ∨ x = 2 ∨ x = 3 ∨ x = 4 ∨ x = 5 ∨ x = 6 ∨ x = 7 ∨ x = 8 ∨ x = 9 := by omega
  rcases hx with rfl | rfl | rfl | rfl | rfl | rfl | rfl | rfl | rfl | rfl <;> decide
theorem pointDigit_any (x : Int) (h0 : 0 ≤ x) (h1 : x ≤ 9) (w : World) :
    Calls Try.prog 99 #[.int .i64 x] w fun e w' => e = .returned (.int .u8 (48 + x)) ∧ w = w' := by
  have hx : x = 0 ∨ x = 1 ∨ x = 2 ∨ x = 3 ∨ x = 4 ∨ x = 5 ∨ x = 6 ∨ x = 7 ∨ x = 8 ∨ x = 9 := by omega
  clear h0 h1
  rcases hx with rfl | rfl | rfl | rfl | rfl | rfl | rfl | rfl | rfl | rfl
  all_goals
    go_enter Try.func99, Try.ntmps99
    go_wp2
    go_ret
    exact ⟨rfl, rfl⟩

namespace Pt
/-- The text of a point formula. -/
def wr : Pt → List UInt8
  | le k f s => if k = 0 then [82, dg f, dg s] else if k = 1 then [dg f, 61, dg s] else if k = 2 then [UInt8.ofNat (112 + f.toNat), dg s] else [70]
  | un k x a => [if k = 7 then 65 else 69, dg x] ++ a.wr
  | bi k a b => if k = 6 ∧ b.enc = [(3, 0, 0)] then 126 :: a.wr else 40 :: (a.wr ++ ((if k = 4 then 38 else if k = 5 then 124 else 62) :: (b.wr ++ [41])))
theorem wr_len (f : Pt) : f.wr.length ≤ 3 * f.sz := by
  induction f with
  | le k f s => unfold wr sz; split
                · simp
                · split
                  · simp
                  · split <;> simp
  | un k x a ih => simp only [wr, sz, List.length_append, List.length_cons, List.length_nil]; omega
  | bi k a b iha ihb => unfold wr; simp only [sz]; split
                        · simp only [List.length_cons]; omega
                        · simp only [List.length_cons, List.length_append, List.length_nil]; omega
end Pt

end Go.Proofs.Ytfkdefmafhlmnaa
