/- append of several bytes at once, and the digit of a point. Conditions: those in the theorems. -/
import Derived.Test.YtfdoecnpnfojpaaText
import Derived.Test.YtfdoecnpnfojpaaPoM
import Derived.Deep.RegionWith
import Derived.RegionTactic
import Derived.BigRegion
namespace Go.Proofs.Ytfdoecnpnfojpaa
open Go.RowKit

theorem cY_one (ys : List UInt8) : ∀ u ∈ cY ys, u.oneCell' = true := by
  intro u hu
  obtain ⟨x, -, rfl⟩ := List.mem_map.1 hu
  rfl
/-- append of some bytes, as a step of a region. -/
theorem step_appYn {ops : Array Oper} {o : Oper} {a : Act} {w : World} {K : Act → World → Prop} {Q : Exit → Act → World → Prop} {E : Prop} (hgd : o.guard = none) (s x : Operand)
    (ho : o.op = .call { callee := .builtin .append, args := #[s, x], argTypes := #[129, 129] })
    (B : Nat) (v : Value) (ys zs : List UInt8) (hs : a.eval s = v) (hown : OwnY w B v ys)
    (ad : Addr) (m c : Nat) (hx : a.eval x = .slice (some ad) m c) (hm : m = zs.length) (hz : ∀ j u, (cY zs)[j]? = some u → w.cell? (ad.add j) = some u) (hn : ys.length + m ≤ 8388608) (hB : B ≤ w.heap.size)
    (h : ∀ v' w', OwnY w' B v' (ys ++ zs) → w.grownBy w' v.ownBlock → K (a.put o.dst v') w') :
    if Region.wanted o (yielded ops a.tmps) = true then Oper.wp Try.prog o a w K Q else E := by
  have hw : Region.wanted o (yielded ops a.tmps) = true := by simp [Region.wanted, hgd]
  rw [if_pos hw]
  obtain ⟨i0, hi, hz0, hz1, hz2⟩ := info_parts info8
  refine wp_append_own w s x 129 ho B 5 i0 (.int .u8 0) 1 1 Try.underlying129 hi hz0 hz1 hz2 rfl (by decide) v ys.length (cY ys) hs hown ad m c (cY zs) hx (by rw [cY_len]; omega) hz (cY_one zs) (by unfold maxLen; omega) (by omega) hB (fun v' w' h1 h2 _ => h v' w' ?_ h2)
  unfold OwnY
  rw [List.length_append, cY_app, ← hm]
  exact h1

def dg (x : Int) : UInt8 := UInt8.ofNat (48 + x.toNat)
theorem dg_cases {x : Int} (h0 : 0 ≤ x) (h1 : x ≤ 9) : ((dg x).toNat : Int) = 48 + x := by
  have hx : x = 0 ∨ x = 1 ∨ x = 2 ∨ x = 3 ∨ x = 4 ∨ x = 5 ∨ x = 6 ∨ x = 7 ∨ x = 8 ∨ x = 9 := by omega
  rcases hx with rfl | rfl | rfl | rfl | rfl | rfl | rfl | rfl | rfl | rfl <;> decide
theorem pointDigit_any (x : Int) (h0 : 0 ≤ x) (h1 : x ≤ 9) (w : World) :
    Calls Try.prog 139 #[.int .i64 x] w fun e w' => e = .returned (.int .u8 (48 + x)) ∧ w = w' := by
  have hx : x = 0 ∨ x = 1 ∨ x = 2 ∨ x = 3 ∨ x = 4 ∨ x = 5 ∨ x = 6 ∨ x = 7 ∨ x = 8 ∨ x = 9 := by omega
  clear h0 h1
  rcases hx with rfl | rfl | rfl | rfl | rfl | rfl | rfl | rfl | rfl | rfl
  all_goals
    go_enter Try.func139, Try.ntmps139
    go_wp2
    go_ret
    exact ⟨rfl, rfl⟩

namespace Pt
/-- The text of a point formula. -/
def wr : Pt → List UInt8
  | le k f s => if k = 0 then [82, dg f, dg s] else if k = 1 then [dg f, 61, dg s] else if k = 2 then [UInt8.ofNat (112 + f.toNat), dg s] else [70]
  | un k x a => [if k = 7 then 65 else 69, dg x] ++ a.wr
  | bi k a b => if k = 6 ∧ b.enc = [(3, 0, 0)] then 126 :: a.wr else 40 :: (a.wr ++ ((if k = 4 then 38 else if k = 5 then 124 else 62) :: (b.wr ++ [41])))
theorem wr_len (f : Pt) : f.wr.length ≤ 3 * f.sz := by
  induction f with
  | le k f s => unfold wr sz; split
                · simp
                · split
                  · simp
                  · split <;> simp
  | un k x a ih => simp only [wr, sz, List.length_append, List.length_cons, List.length_nil]; omega
  | bi k a b iha ihb => unfold wr; simp only [sz]; split
                        · simp only [List.length_cons]; omega
                        · simp only [List.length_cons, List.length_append, List.length_nil]; omega
end Pt

end Go.Proofs.Ytfdoecnpnfojpaa
