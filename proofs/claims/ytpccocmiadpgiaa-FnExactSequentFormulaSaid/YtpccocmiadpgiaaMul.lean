/- The library's contract of bits.Mul laid over this program: which of its functions and types are the library's, and that their texts are. No conditions. -/
import Derived.Shelf.Bits.Mul64
import Derived.Test.YtpccocmiadpgiaaJn02
namespace Go.Proofs.Ytpccocmiadpgiaa
open Go.RowKit Go.Shelf

def mul_ren : Ren := ⟨fun | 212 => 63 | 263 => 74 | 264 => 75 | n => n, fun | 46 => 84 | 51 => 95 | 53 => 98 | 146 => 96 | 148 => 99 | n => n, fun n => n⟩
theorem mulL : Lays.n212 Try.prog mul_ren where
  mixed := by kernel_rfl
  f212 := Try.func63.trans (congrArg some (by kernel_rfl))
  f263 := Try.func74.trans (congrArg some (by kernel_rfl))
  f264 := Try.func75.trans (congrArg some (by kernel_rfl))
  t46 := Try.underlying84
  a46 := Try.isAgg84
  z46 := Try.sizeOf84
  v46 := Try.zeroValue84
  t51 := Try.underlying95
  a51 := Try.isAgg95
  z51 := Try.sizeOf95
  v51 := Try.zeroValue95
  t53 := Try.underlying98
  a53 := Try.isAgg98
  z53 := Try.sizeOf98
  v53 := Try.zeroValue98
  t146 := Try.underlying96
  a146 := Try.isAgg96
  z146 := Try.sizeOf96
  v146 := Try.zeroValue96
  t148 := Try.underlying99
  a148 := Try.isAgg99
  z148 := Try.sizeOf99
  v148 := Try.zeroValue99
theorem mul_small (x y : Nat) (hx : x ≤ 4194304) (hy : y ≤ 4194304) (w : World) :
    Calls Try.prog 63 #[.int .u64 x, .int .u64 y] w fun e w' => e = .returned (.tuple #[.int .u64 0, .int .u64 ((x * y : Nat) : Int)]) ∧ w' = w := by
  have hb : x * y ≤ 4194304 * 4194304 := Nat.mul_le_mul hx hy
  have e1 : x * y / 18446744073709551616 = 0 := by omega
  have e2 : x * y % 18446744073709551616 = x * y := by omega
  have h := Any.bits_Mul mulL x y (by omega) (by omega) w
  rw [e1, e2] at h
  exact h

theorem World.grownBy_setRow (w : World) (g : Nat) (cs : Array Value) : w.grownBy (w.setRow g cs) (some g) :=
  ⟨rfl, rfl, rfl, by simp [World.setRow], fun k _ hk => setRow_other w g k cs (fun e => hk (by rw [e]))⟩

theorem run_copyN (w : World) (g o dLen dCap : Nat) (a : Addr) (sLen sCap m : Nat) (cur : Array Value) (t ty : TypeId) (cs : List Value)
    (hg : w.heap[g]? = some (.cells cur t (0, 0))) (hm : m = Nat.min sLen dLen) (hn : cs.length = m * 2)
    (hsrc : ∀ j v, cs[j]? = some v → w.cell? (a.add j) = some v) (hfit : o + cs.length ≤ cur.size) (h1 : ∀ v ∈ cs, v.oneCell' = true) :
    (Builtin.copy_ #[32, 32] ty #[.slice (some ⟨g, o, none⟩) dLen dCap, .slice (some a) sLen sCap]).run Try.prog w =
      .ok (goInt m) (w.setRow g (cur.toList.take o ++ cs ++ cur.toList.drop (o + cs.length)).toArray) := by
  obtain ⟨i0, hi, hz0, hz1, hz2⟩ := info_parts infoNd
  have hl := run_loadCells_list (P := Try.prog) w a cs hsrc
  have hst := run_storeCells_at Try.prog g o t cs 0 cur w hg (by simpa using hfit) h1
  rw [hn] at hl
  simp only [hn, Nat.add_zero] at hst ⊢
  simp [Builtin.copy_, run_underlying Try.underlying32, Builtin.lenOf, Builtin.firstCells, sizeOf, typeInfo, hi, hz1, ← hm, hl, hst]

theorem own_copyN {w : World} {B g len cap : Nat} {zs ys : List Nd} {p n : Nat} {cur : Array Value} (hh : w.heap[g]? = some (.cells cur 55 (0, 0))) (hg : B ≤ g) (hc : len ≤ cap) (hm : cap ≤ maxLen) (hs : cur.size = cap * 2) (ht : cur.toList.take (len * 2) = cellsN zs) (hl : zs.length = len)
    (hy : ys.length = n) (hp : p + n ≤ len) :
    OwnN (w.setRow g (cur.toList.take (p * 2) ++ cellsN ys ++ cur.toList.drop (p * 2 + (cellsN ys).length)).toArray) B (.slice (some ⟨g, 0, none⟩) len cap) (zs.take p ++ (ys ++ zs.drop (p + n))) := by
  have hcs : (cellsN ys).length = n * 2 := by rw [cellsN_len, hy]
  have hL : cur.toList = cellsN (zs.take p) ++ (cellsN ((zs.drop p).take n) ++ (cellsN (zs.drop (p + n)) ++ cur.toList.drop (len * 2))) := by
    conv => lhs; rw [← List.take_append_drop (len * 2) cur.toList, ht]
    have e : zs = zs.take p ++ ((zs.drop p).take n ++ zs.drop (p + n)) := by
      conv => lhs; rw [← List.take_append_drop p zs, ← List.take_append_drop n (zs.drop p), List.drop_drop]
    conv => lhs; rw [e, cellsN_append, cellsN_append]
    simp only [List.append_assoc]
  obtain ⟨R, hR⟩ : ∃ R, R = cur.toList.drop (len * 2) := ⟨_, rfl⟩
  have hRl : R.length = cap * 2 - len * 2 := by rw [hR, List.length_drop]; simp [hs]
  rw [← hR] at hL
  have l1 : (cellsN (zs.take p)).length = p * 2 := by rw [cellsN_len, List.length_take]; omega
  have l2 : (cellsN ((zs.drop p).take n)).length = n * 2 := by rw [cellsN_len, List.length_take, List.length_drop]; omega
  have l3 : (cellsN (zs.drop (p + n))).length = (len - (p + n)) * 2 := by rw [cellsN_len, List.length_drop]; omega
  have t1 : cur.toList.take (p * 2) = cellsN (zs.take p) := by rw [hL, ← l1, List.take_left]
  have t2 : cur.toList.drop (p * 2 + (cellsN ys).length) = cellsN (zs.drop (p + n)) ++ R := by
    rw [hL, hcs, ← List.drop_drop, ← l1, List.drop_left, ← l2, List.drop_left]
  rw [t1, t2]
  have hlen : (zs.take p ++ (ys ++ zs.drop (p + n))).length = len := by simp; omega
  refine ⟨by rw [cellsN_len], .inr ⟨g, cap, _, by rw [hlen], hg, setRow_heap w g _ _ _ _ hh, by omega, hm, ?_, ?_⟩⟩
  · simp only [List.size_toArray, List.length_append, l1, l3, hcs, hRl]
    omega
  · rw [hlen]
    have e : (cellsN (zs.take p) ++ cellsN ys ++ (cellsN (zs.drop (p + n)) ++ R)) = cellsN (zs.take p ++ (ys ++ zs.drop (p + n))) ++ R := by
      simp only [cellsN_append, List.append_assoc]
    rw [e]
    have : len * 2 = (cellsN (zs.take p ++ (ys ++ zs.drop (p + n)))).length := by rw [cellsN_len, hlen]
    rw [List.toList_toArray, this, List.take_left]

def splN (zs : List Nd) (p : Nat) (ys : List Nd) (n : Nat) : List Nd := zs.take p ++ (ys.take n ++ zs.drop (p + n))
theorem wp_copyN {o : Oper} {a : Act} {w : World} {K : Act → World → Prop} {Q : Exit → Act → World → Prop} (d s : Operand)
    (ho : o.op = .call { callee := .builtin .copy, args := #[d, s], argTypes := #[32, 32] })
    (B g len cap : Nat) (zs : List Nd) (hown : OwnN w B (.slice (some ⟨g, 0, none⟩) len cap) zs) (p dl dc : Nat) (hd : a.eval d = .slice (some ⟨g, p * 2, none⟩) dl dc)
    (ys : List Nd) (b off m c : Nat) (hs : a.eval s = .slice (some ⟨b, off, none⟩) m c) (hat : AtN w (some ⟨b, off, none⟩) m ys) (n : Nat) (hn : n = Nat.min m dl) (hp : p + n ≤ len)
    (h : ∀ w', OwnN w' B (.slice (some ⟨g, 0, none⟩) len cap) (splN zs p ys n) → w.grownBy w' (some g) → K (a.put o.dst (goInt n)) w') : Oper.wp Try.prog o a w K Q := by
  obtain ⟨hlen, ⟨hv, -⟩ | ⟨g', cap', cur, hv, hg, hh, hcc, hm, hz, ht⟩⟩ := id hown
  · cases hv
  · simp only [Value.slice.injEq, Option.some.injEq, Addr.mk.injEq, and_true] at hv
    obtain ⟨rfl, hl, rfl⟩ := hv
    have hnm : n ≤ m := by rw [hn]; exact Nat.min_le_left _ _
    have hyl := hat.1
    have hyn : (ys.take n).length = n := by rw [List.length_take]; omega
    have hcs : (cellsN (ys.take n)).length = n * 2 := by rw [cellsN_len, hyn]
    have hsrc : ∀ j v, (cellsN (ys.take n))[j]? = some v → w.cell? ((⟨b, off, none⟩ : Addr).add j) = some v := by
      have := (hat.sub 0 n (by omega)).news
      simpa using this
    have hrun := run_copyN w g (p * 2) dl dc ⟨b, off, none⟩ m c n cur _ o.type _ hh hn hcs hsrc (by rw [hcs, hz]; omega) (cells_one _)
    unfold Oper.wp
    simp only [execOp, ho, resolve, invoke, builtin, Sem.run_bind, Sem.run_pure, Result.andThen_ok, List.map_toArray, List.map_cons, List.map_nil, hd, hs, hrun]
    refine h _ ?_ (World.grownBy_setRow _ _ _)
    exact own_copyN hh hg (by omega) hm hz (by rw [hl]; exact ht) hl.symm hyn (by omega)
theorem list_copyN {ops : Array Oper} {rest : List Oper} {o : Oper} {a : Act} {w : World} {Q : Exit → Act → World → Prop} (hgd : o.guard = none) (d s : Operand)
    (ho : o.op = .call { callee := .builtin .copy, args := #[d, s], argTypes := #[32, 32] })
    (B g len cap : Nat) (zs : List Nd) (hown : OwnN w B (.slice (some ⟨g, 0, none⟩) len cap) zs) (p dl dc : Nat) (hd : a.eval d = .slice (some ⟨g, p * 2, none⟩) dl dc)
    (ys : List Nd) (b off m c : Nat) (hs : a.eval s = .slice (some ⟨b, off, none⟩) m c) (hat : AtN w (some ⟨b, off, none⟩) m ys) (n : Nat) (hn : n = Nat.min m dl) (hp : p + n ≤ len)
    (h : ∀ w', OwnN w' B (.slice (some ⟨g, 0, none⟩) len cap) (splN zs p ys n) → w.grownBy w' (some g) → wpList Try.prog ops Q rest (a.put o.dst (goInt n)) w') : wpList Try.prog ops Q (o :: rest) a w :=
  wpList_plain hgd fun _ hK => wp_copyN d s ho B g len cap zs hown p dl dc hd ys b off m c hs hat n hn hp fun w' h1 h2 => hK _ _ (h w' h1 h2)
theorem step_copyN {ops : Array Oper} {o : Oper} {a : Act} {w : World} {K : Act → World → Prop} {Q : Exit → Act → World → Prop} {E : Prop} (hgd : o.guard = none) (d s : Operand)
    (ho : o.op = .call { callee := .builtin .copy, args := #[d, s], argTypes := #[32, 32] })
    (B g len cap : Nat) (zs : List Nd) (hown : OwnN w B (.slice (some ⟨g, 0, none⟩) len cap) zs) (p dl dc : Nat) (hd : a.eval d = .slice (some ⟨g, p * 2, none⟩) dl dc)
    (ys : List Nd) (b off m c : Nat) (hs : a.eval s = .slice (some ⟨b, off, none⟩) m c) (hat : AtN w (some ⟨b, off, none⟩) m ys) (n : Nat) (hn : n = Nat.min m dl) (hp : p + n ≤ len)
    (h : ∀ w', OwnN w' B (.slice (some ⟨g, 0, none⟩) len cap) (splN zs p ys n) → w.grownBy w' (some g) → K (a.put o.dst (goInt n)) w') :
    if Region.wanted o (yielded ops a.tmps) = true then Oper.wp Try.prog o a w K Q else E := by
  have hw : Region.wanted o (yielded ops a.tmps) = true := by simp [Region.wanted, hgd]
  rw [if_pos hw]
  exact wp_copyN d s ho B g len cap zs hown p dl dc hd ys b off m c hs hat n hn hp h

end Go.Proofs.Ytpccocmiadpgiaa
