/- Contracts of the drawing functions of the model's chapter 1 that draw relations. Conditions: those in the theorems. -/
import Derived.Test.YtpedinmflhgcoaaDraw2
import Derived.Deep.AppendLies
namespace Go.Proofs.Ytpedinmflhgcoaa
open Go.RowKit

theorem own_len_cast {w : World} {B : Nat} {v : Value} {n : Nat} {xs : List Int} (h : w.ownsRow B 2 1 v n (xs.map (Value.int .i64))) (hn : xs.length = n) : Own w B v xs := by
  unfold Own; rw [hn]; exact h

theorem list_app1L {ops : Array Oper} {rest : List Oper} {o : Oper} {a : Act} {w : World} {Q : Exit → Act → World → Prop} (hgd : o.guard = none) (s x : Operand)
    (ho : o.op = .call { callee := .builtin .append, args := #[s, x], argTypes := #[22, 22] })
    (B : Nat) (v : Value) (n : Nat) (xs : List Value) (hs : a.eval s = v) (hown : w.ownsRow B 2 1 v n xs)
    (ad : Addr) (c : Nat) (z : Int) (hx : a.eval x = .slice (some ad) 1 c) (hz : w.cell? ad = some (.int .i64 z)) (hn : n ≤ 1099511627776) (hB : B ≤ w.heap.size)
    (h : ∀ g cap w', w'.ownsRow B 2 1 (.slice (some ⟨g, 0, none⟩) (n + 1) cap) (n + 1) (xs ++ [.int .i64 z]) → w.grownBy w' v.ownBlock → (v.ownBlock = some g ∨ g = w.heap.size) → wpList Try.prog ops Q rest (a.put o.dst (.slice (some ⟨g, 0, none⟩) (n + 1) cap)) w') :
    wpList Try.prog ops Q (o :: rest) a w := by
  obtain ⟨i0, hi, hz0, hz1, hz2⟩ := info_parts info64
  refine wpList_plain hgd fun K hK => ?_
  refine wp_append_lies w s x 22 ho B 2 i0 (.int .i64 0) 1 8 Try.underlying22 hi hz0 hz1 hz2 rfl (by decide) v n xs hs hown ad 1 c [.int .i64 z] hx rfl ?_ ?_ (by decide) (by unfold maxLen; omega) (by omega) hB w.heap.size rfl (fun g cap w' h1 h2 h3 _ => hK _ _ (h g cap w' h1 h2 h3))
  · intro j u hu
    match j, hu with
    | 0, hu => simp at hu; subst hu; simpa [Addr.add] using hz
  · intro u hu
    simp at hu; subst hu; rfl

set_option maxHeartbeats 2000000 in
theorem l01Rel_any (b : Nat) (a : Option Addr) (len cap : Nat) (n : Nat) (w : World) (B : Nat) (hBb : B ≤ b) (hBw : B ≤ w.heap.size) (hn : n ≤ 8) (hs : Src w b a len cap) (hc : Code B w a len) :
    Calls Try.prog 138 #[.pointer (some ⟨b, 0, none⟩), .int .i64 n] w fun e w' => (∃ v xs, e = .returned v ∧ Own w' w.heap.size v xs ∧ xs.length = n) ∧ Src w' b a len cap ∧ w.grownBy w' (some b) := by
  have HS := Lib.hid hs
  have HC := Lib.hid hc
  have hbw := hs.lt
  clear hs hc
  go_enter Try.func138, Try.ntmps138
  go_wp2
  go_loopw [5, 6] (fun v i wr => ∃ (k g c : Nat) (xs : List Int), k ≤ n ∧ xs.length = k ∧ i = .int .i64 k ∧ v = .slice (some ⟨g, 0, none⟩) k c ∧ w.heap.size ≤ g ∧ wr.ownsRow w.heap.size 2 1 (.slice (some ⟨g, 0, none⟩) k c) k (xs.map (Value.int .i64)) ∧ Src wr b a len cap ∧ w.grownBy wr (some b)) (fun _ i _ => n - (intOf i).toNat)
  case atStart => exact ⟨0, w.heap.size, 0, [], Nat.zero_le _, rfl, rfl, rfl, Nat.le_refl _, World.ownsRow_lit w #[] 0 (Nat.le_refl _) (by unfold maxLen; omega) rfl, HS.out.alloc _, World.grownBy_alloc w _ _⟩
  case round =>
    obtain ⟨k, g, c, xs, hk, hxs, rfl, rfl, hg, hown, hsr, hgr⟩ := hrel
    have HO := Lib.hid hown
    have HS1 := Lib.hid hsr
    have HX := Lib.hid hxs
    have HC1 := Lib.hid (HC.out.grown hgr hBb hBw)
    have hBr : B ≤ wr.heap.size := Nat.le_trans hBw hgr.size
    have hgb : g ≠ b := by omega
    clear hown hsr hxs
    by_cases hlt : k < n
    · go_wp2_with fail
      refine (l01Next_any b a len cap 65536 _ B hBb HS1.out HC1.out).mono ?_
      rintro e w2 ⟨y, rfl, hy, hs2, hg2⟩
      have HS2 := Lib.hid hs2
      have HC2 := Lib.hid (HC1.out.grown hg2 hBb hBr)
      have hB2 : B ≤ w2.heap.size := Nat.le_trans hBr hg2.size
      clear hs2 hy
      go_wp2_with fail
      refine (l01Next_any b a len cap 65536 _ B hBb HS2.out HC2.out).mono ?_
      rintro e w3 ⟨z, rfl, hz, hs3, hg3⟩
      have HS3 := Lib.hid hs3
      have hgr3 := grown_trans hgr (grown_trans hg2 hg3)
      have HO3 := Lib.hid ((World.ownsRow.kept HO.out hg2 (by right; intro e; injection e with e; exact hgb e)).kept hg3 (by right; intro e; injection e with e; exact hgb e))
      clear hs3 hz hg2 hg3
      have hsz : w.heap.size ≤ w3.heap.size := hgr3.size
      have hbw3 : b < w3.heap.size := HS3.out.lt
      go_wp2_with (first | (go_at_call 110; refine (l01Full_any _ _ (by omega) (by omega)).mono ?_; rintro e w' ⟨rfl, rfl⟩) | (at_builtin; refine list_app1L rfl _ _ rfl w.heap.size _ k _ rfl (HO3.out.alloc _) ⟨w3.heap.size, 0, none⟩ 1 _ rfl (World.cell?_alloc_at _ _ _ _ rfl) (by omega) (by simp; omega) ?_; intro g4 c4 w4 hown4 hgr4 hgg))
      have HO4 := Lib.hid hown4
      have HS4 : Hid (Src w4 b a len cap) := (HS3.out.alloc _).other hgr4 (by intro e; injection e with e; exact hgb e)
      have hg4 : w.heap.size ≤ g4 := by
        rcases hgg with h | h
        · have h' : g = g4 := by injection h
          omega
        · rw [h]; simp; omega
      have hgrow : w.grownBy w4 (some b) := by
        refine ⟨hgr4.os.trans hgr3.os, hgr4.tape.trans hgr3.tape, hgr4.output.trans hgr3.output, ?_, fun i hi hne => ?_⟩
        · have := hgr4.size; simp at this; omega
        · rw [hgr4.block i (by simp; omega) (by intro e; have e' : i = g := (by injection e); omega), (World.grownBy_alloc w3 _ none).block i (by omega) (by intro e; cases e), hgr3.block i hi hne]
      clear hown4 hgr4 hgg
      go_roundw
      case rel => exact ⟨k + 1, g4, c4, _ ++ [_], hlt, by rw [List.length_append, HX.out]; rfl, by go_num, rfl, hg4, (by have ho := HO4.out; rw [List.map_append]; exact ho), HS4.out, hgrow⟩
      case measure => simp [intOf]; omega
    · obtain rfl : k = n := by omega
      go_wp2_with fail
      refine (l01Next_any b a len cap 30 _ B hBb HS1.out HC1.out).mono ?_
      rintro e w2 ⟨y, rfl, hy, hs2, hg2⟩
      have HS2 := Lib.hid hs2
      have HC2 := Lib.hid (HC1.out.grown hg2 hBb hBr)
      have hB2 : B ≤ w2.heap.size := Nat.le_trans hBr hg2.size
      have HO2 := Lib.hid (World.ownsRow.kept HO.out hg2 (by right; intro e; injection e with e; exact hgb e))
      have hgr2 := grown_trans hgr hg2
      clear hs2 hy hg2
      by_cases hy0 : y = 0
      · subst hy0
        by_cases hk0 : 0 < k
        · go_wp2_with fail
          refine (l01Next_any b a len cap k _ B hBb HS2.out HC2.out).mono ?_
          rintro e w3 ⟨t, rfl, ht, hs3, hg3⟩
          have htk : t < k := by rcases ht with ⟨h1, h2⟩ | h1 <;> omega
          have HS3 := Lib.hid hs3
          have HC3 := Lib.hid (HC2.out.grown hg3 hBb hB2)
          have hB3 : B ≤ w3.heap.size := Nat.le_trans hB2 hg3.size
          have HO3 := Lib.hid (HO2.out.kept hg3 (by right; intro e; injection e with e; exact hgb e))
          have hgr3 := grown_trans hgr2 hg3
          clear hs3 ht hg3
          have hne : w3.heap.size ≠ b := by have := HS3.out.lt; omega
          have hr := World.ownsRow_lit (e := 2) (size := 1) (base := B) w3 #[.int .i64 (-1), .int .i64 (wrap64 (full k + 1))] 2 hB3 (by unfold maxLen; omega) rfl
          have HR := Lib.hid hr
          clear hr
          go_wp2_with (go_at_call 110; refine (l01Full_any _ _ (by omega) (by omega)).mono ?_; rintro e w' ⟨rfl, rfl⟩)
          refine (l01Pick_any b a len cap w3.heap.size 2 2 [-1, wrap64 (full k + 1)] _ B hBb (HS3.out.alloc _) (HC3.out.alloc _ hB3) rfl (by decide) (by decide) hne HR.out).mono ?_
          rintro e w4 ⟨⟨u, -, rfl⟩, hs4, hg4⟩
          have HS4 := Lib.hid hs4
          have ho4 := (HO3.out.alloc (.cells #[.int .i64 (-1), .int .i64 (wrap64 (full k + 1))] 2)).kept hg4 (by right; intro e; injection e with e; exact hgb e)
          have hgr4 := grown_trans (grown_alloc hgr3 (.cells #[.int .i64 (-1), .int .i64 (wrap64 (full k + 1))] 2)) hg4
          obtain ⟨q, hq⟩ : ∃ q, (xs.map (Value.int .i64))[t]? = some q := ⟨_, List.getElem?_eq_getElem (by rw [List.length_map, HX.out]; exact htk)⟩
          have hcg : w4.cell? ⟨g, t, none⟩ = some q := (ho4.cellAt t (by omega)).trans hq
          have hfg : w4.frozen? ⟨g, t, none⟩ = false := ho4.frozenAt t
          have hst := (ho4.stored t (.int .i64 u)).1
          have hs5 := HS4.out.other (grown_set w4 g t (.int .i64 u)) (by intro e; injection e with e; exact hgb e)
          have hgr5 : w.grownBy (w4.setCell ⟨g, t, none⟩ (.int .i64 u)) (some b) := by
            refine ⟨hgr4.os, hgr4.tape, hgr4.output, by simpa [World.setCell] using hgr4.size, fun i hi hn => ?_⟩
            rw [(grown_set w4 g t (.int .i64 u)).block i (Nat.lt_of_lt_of_le hi hgr4.size) (by intro e; injection e with e; omega)]
            exact hgr4.block i hi hn
          have HST := Lib.hid hst
          have HS5 := Lib.hid hs5
          clear hs4 hg4 ho4 hq hst hs5
          go_wp2
          go_ret
          refine ⟨⟨_, xs.set t u, rfl, own_len_cast (by rw [List.map_set]; exact HST.out) (by rw [List.length_set]; exact HX.out), by rw [List.length_set]; exact HX.out⟩, HS5.out, hgr5⟩
        · go_wp2
          go_ret
          exact ⟨⟨_, xs, rfl, own_len_cast HO2.out HX.out, HX.out⟩, HS2.out, hgr2⟩
      · have e0 : ((y : Int) == 0) = false := by simp; omega
        go_wp2
        go_ret
        exact ⟨⟨_, xs, rfl, own_len_cast HO2.out HX.out, HX.out⟩, HS2.out, hgr2⟩

set_option maxHeartbeats 1000000 in
theorem l01Some_any (b : Nat) (a : Option Addr) (len cap : Nat) (w : World) (B : Nat) (hBb : B ≤ b) (hBw : B ≤ w.heap.size) (hs : Src w b a len cap) (hc : Code B w a len) :
    Calls Try.prog 105 #[.pointer (some ⟨b, 0, none⟩)] w fun e w' => (∃ v xs, e = .returned v ∧ Own w' w.heap.size v xs ∧ xs.length ≤ 31) ∧ Src w' b a len cap ∧ w.grownBy w' (some b) := by
  obtain ⟨i0, hi, hz0, hz1, hz2⟩ := info_parts info64
  have HS := Lib.hid hs
  have HC := Lib.hid hc
  clear hs hc
  go_enter Try.func105, Try.ntmps105
  go_wp2_with fail
  refine (l01Next_any b a len cap 40 _ B hBb HS.out HC.out).mono ?_
  rintro e w1 ⟨x, rfl, hx, hs1, hg1⟩
  have HS1 := Lib.hid hs1
  have HC1 := Lib.hid (HC.out.grown hg1 hBb hBw)
  have hB1 : B ≤ w1.heap.size := Nat.le_trans hBw hg1.size
  clear hx hs1
  by_cases h0 : x = 0
  · subst h0
    go_wp2_with fail
    refine (l01Next_any b a len cap 2 _ B hBb HS1.out HC1.out).mono ?_
    rintro e w2 ⟨y, rfl, hy, hs2, hg2⟩
    have hy2 : y < 2 := by rcases hy with ⟨h1, h2⟩ | h1 <;> omega
    have HS2 := Lib.hid hs2
    have hgr2 := grown_trans hg1 hg2
    clear hs2 hy hg1 hg2
    go_wp2_with (at_make; refine wpList_make_full _ rfl _ _ 22 rfl w2.heap.size 2 i0 (.int .i64 0) 1 Try.underlying22 hi hz0 hz1 _ _ _ _ (30 + y) rfl rfl (by omega) (by omega) ?b2 ?b3 (Nat.le_refl _) ?_)
    case b2 => rw [hz2]; omega
    case b3 => unfold maxLen; omega
    intro w3 hown3 hgr3
    have HO3 := Lib.hid hown3
    clear hown3 hi hz0 hz1 hz2
    go_wp2
    go_ret
    refine ⟨⟨_, List.replicate (30 + y) 0, rfl, ?_, by simp; omega⟩, HS2.out.other hgr3 (by intro e; cases e), grown_trans hgr2 ⟨hgr3.os, hgr3.tape, hgr3.output, hgr3.size, fun i hi _ => hgr3.block i hi (by intro e; cases e)⟩⟩
    have ho := HO3.out
    rw [toList_madeCells_one] at ho
    refine Own.mono (B := w2.heap.size) (own_len_cast (n := 30 + y) ?_ (by simp)) hgr2.size
    rw [List.map_replicate]
    exact ho
  · have e0 : ((x : Int) == 0) = false := by simp; omega
    clear hi hz0 hz1 hz2
    go_wp2_with fail
    refine (l01Next_any b a len cap 8 _ B hBb HS1.out HC1.out).mono ?_
    rintro e w2 ⟨y, rfl, hy, hs2, hg2⟩
    have hy2 : y < 8 := by rcases hy with ⟨h1, h2⟩ | h1 <;> omega
    have HS2 := Lib.hid hs2
    have HC2 := Lib.hid (HC1.out.grown hg2 hBb hB1)
    have hB2 : B ≤ w2.heap.size := Nat.le_trans hB1 hg2.size
    have hgr2 := grown_trans hg1 hg2
    clear hs2 hy hg1 hg2
    go_wp2_with fail
    refine (l01Rel_any b a len cap y w2 B hBb hB2 (by omega) HS2.out HC2.out).mono ?_
    rintro e w3 ⟨⟨v, xs, rfl, ho3, hx3⟩, hs3, hg3⟩
    have HS3 := Lib.hid hs3
    have HO3 := Lib.hid (ho3.mono hgr2.size)
    have HX3 := Lib.hid hx3
    clear hs3 ho3 hx3
    go_wp2
    go_ret
    exact ⟨⟨_, xs, rfl, HO3.out, by rw [HX3.out]; omega⟩, HS3.out, grown_trans hgr2 hg3⟩

set_option maxHeartbeats 1000000 in
theorem l01Place_any (a : Option Addr) (len cap : Nat) (w : World) (hc : Code w.heap.size w a len) :
    Calls Try.prog 59 #[.slice a len cap] w fun e w' => (∃ v m xs, e = .returned (.tuple #[v, .int .i64 m]) ∧ Own w' w.heap.size v xs ∧ xs.length ≤ 31) ∧ Below w.heap.size w w' := by
  have HC := Lib.hid hc
  clear hc
  go_enter Try.func59, Try.ntmps59
  go_wp2_with fail
  refine (l01From_any a len cap w HC.out).mono ?_
  rintro e w1 ⟨rfl, hs1, hb1⟩
  have hlt1 := hs1.lt
  have HS1 := Lib.hid hs1
  have HC1 := Lib.hid (HC.out.below hb1)
  have hB1 : w.heap.size ≤ w1.heap.size := hb1.size
  clear hs1
  go_wp2_with fail
  refine (l01Some_any w.heap.size a len cap w1 w.heap.size (Nat.le_refl _) hB1 HS1.out HC1.out).mono ?_
  rintro e w2 ⟨⟨v, xs, rfl, ho2, hx2⟩, hs2, hg2⟩
  have HS2 := Lib.hid hs2
  have HC2 := Lib.hid (HC1.out.grown hg2 (Nat.le_refl _) hB1)
  have hB2 : w.heap.size ≤ w2.heap.size := Nat.le_trans hB1 hg2.size
  obtain ⟨av, capv, hv, -, -, -, -⟩ := ho2.at
  subst hv
  have OI := Lib.hid ho2.inn
  clear hs2 ho2
  have hcall : ∀ n : Int, Calls Try.prog 106 #[.pointer (some ⟨w.heap.size, 0, none⟩), .int .i64 n] w2 fun e w' => (∃ x : Int, e = .returned (.int .i64 x)) ∧ Src w' w.heap.size a len cap ∧ w2.grownBy w' (some w.heap.size) := fun n => l01Mask_any w.heap.size a len cap n w2 w.heap.size (Nat.le_refl _) hB2 HS2.out HC2.out
  have HCL := Lib.hid hcall
  have hd : ∀ k, (Value.slice av xs.length capv).ownBlock = some k → w1.heap.size ≤ k := fun k hk => (OI.out.2.2 k hk).1
  have HD := Lib.hid hd
  clear hcall hd
  by_cases hx30 : xs.length ≤ 30
  all_goals
    go_wp2_with fail
    refine (HCL.out _).mono ?_
    rintro e w3 ⟨⟨m, rfl⟩, hs3, hg3⟩
    have ho3 := World.ownsRow.kept OI.out.1 hg3 (by
      cases hv : (Value.slice av xs.length capv).ownBlock with
      | none => exact .inl rfl
      | some k => right; intro e; injection e with e; have := HD.out k hv; omega)
    have HO3 := Lib.hid ho3
    clear hs3 ho3
    go_wp2
    go_ret2
    exact ⟨⟨_, m, xs, rfl, Own.mono HO3.out hB1, hx2⟩, grown_below hg3 (Nat.le_refl _) (grown_below hg2 (Nat.le_refl _) hb1 hB1) hB2⟩

set_option maxHeartbeats 1000000 in
theorem DrawImageMask_any (a : Option Addr) (len cap : Nat) (w : World) (hc : Code w.heap.size w a len) :
    Calls Try.prog 18 #[.slice a len cap] w fun e w' => (∃ v m xs, e = .returned (.tuple #[v, .int .i64 m]) ∧ Own w' w.heap.size v xs ∧ xs.length ≤ 31) ∧ Below w.heap.size w w' := by
  have HC := Lib.hid hc
  clear hc
  go_enter Try.func18, Try.ntmps18
  go_wp2_with fail
  refine (l01Place_any a len cap w HC.out).mono ?_
  rintro e w1 ⟨⟨v, m, xs, rfl, ho, hx⟩, hb⟩
  have HO := Lib.hid ho
  clear ho
  go_wp2
  go_ret2
  exact ⟨⟨_, m, xs, rfl, HO.out, hx⟩, hb⟩

end Go.Proofs.Ytpedinmflhgcoaa
