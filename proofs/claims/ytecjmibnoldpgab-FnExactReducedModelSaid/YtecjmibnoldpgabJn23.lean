/- 2 texts in one: CtR, CtQ. -/
import Derived.Deep.RegionLaw
import Derived.Test.YtecjmibnoldpgabCtA
import Derived.Test.YtecjmibnoldpgabCtS
/- A row of lists of int64 that the call makes. Conditions: those in the theorems. -/
namespace Go.Proofs.Ytecjmibnoldpgab
open Go.RowKit

/-- The row of the rounds. -/
def Rl (w : World) (B : Nat) (v : Value) (us : List Value) (cs : Nat → List Int) (k : Nat) : Prop := w.ownsRow B 22 1 v k us ∧ ∀ j, j < k → ∃ a c, us[j]? = some (.slice a (cs j).length c) ∧ Own w B (.slice a (cs j).length c) (cs j)
theorem Rl.keep {w w' : World} {B C k : Nat} {v : Value} {us : List Value} {cs : Nat → List Int} (h : Rl w B v us cs k) (hb : Below C w w') (hC : w.heap.size ≤ C) : Rl w' B v us cs k := by
  refine ⟨?_, fun j hj => ?_⟩
  · have hr := h.1
    refine World.ownsRow.kept (row := none) hr ⟨hb.os, hb.tape, hb.output, hb.size, fun i hi _ => hb.block i (by omega)⟩ ?_
    cases hv : v.ownBlock with
    | none => exact .inl rfl
    | some g => exact .inr (by simp)
  · obtain ⟨a, c, e, ho⟩ := h.2 j hj
    exact ⟨a, c, e, ho.keep hb hC⟩
theorem Rl.mono {w : World} {B B' k : Nat} {v : Value} {us : List Value} {cs : Nat → List Int} (h : Rl w B v us cs k) (hB : B' ≤ B) : Rl w B' v us cs k := by
  refine ⟨?_, fun j hj => ?_⟩
  · obtain ⟨h1, h2 | ⟨g, c, cur, e, hb, r⟩⟩ := h.1
    · exact ⟨h1, .inl h2⟩
    · exact ⟨h1, .inr ⟨g, c, cur, e, Nat.le_trans hB hb, r⟩⟩
  · obtain ⟨a, c, e, ho⟩ := h.2 j hj
    exact ⟨a, c, e, ho.mono hB⟩
theorem Rl.form {w : World} {B k : Nat} {v : Value} {us : List Value} {cs : Nat → List Int} (h : Rl w B v us cs k) : ∃ a c, v = .slice a k c ∧ (k = 0 ∨ ∃ g, a = some ⟨g, 0, none⟩ ∧ B ≤ g ∧ g < w.heap.size ∧ ∀ j, j < k → w.cell? ⟨g, j, none⟩ = us[j]?) := by
  obtain ⟨hl, ⟨e, e0⟩ | ⟨g, c, cur, e, hb, hh, r⟩⟩ := h.1
  · subst e0; exact ⟨_, _, e, .inl rfl⟩
  · subst e
    exact ⟨_, _, rfl, .inr ⟨g, rfl, hb, (Array.getElem?_eq_some_iff.1 hh).1, fun j hj => World.ownsRow.cellAt h.1 j (by omega)⟩⟩

theorem infoRow : (Try.prog.info? 22).map (fun i => (i.zero, i.size, i.bytes)) = some (some (.slice none 0 0), 1, 24) := by kernel_rfl
/-- append of one partition to the rounds. -/
theorem wp_appR {o : Oper} {a : Act} {w : World} {K : Act → World → Prop} {Q : Exit → Act → World → Prop} (s x : Operand)
    (ho : o.op = .call { callee := .builtin .append, args := #[s, x], argTypes := #[66, 66] })
    (B : Nat) (v : Value) (n : Nat) (xs : List Value) (hs : a.eval s = v) (hown : w.ownsRow B 22 1 v n xs)
    (ad : Addr) (c : Nat) (z : Value) (hz1' : z.oneCell' = true) (hx : a.eval x = .slice (some ad) 1 c) (hz : w.cell? ad = some z) (hn : n ≤ 1048576) (hB : B ≤ w.heap.size)
    (h : ∀ v' w', w'.ownsRow B 22 1 v' (n + 1) (xs ++ [z]) → w.grownBy w' v.ownBlock → K (a.put o.dst v') w') : o.wp Try.prog a w K Q := by
  obtain ⟨i0, hi, hz0, hz1, hz2⟩ := info_parts infoRow
  refine wp_append_own w s x 66 ho B 22 i0 (.slice none 0 0) 1 24 Try.underlying66 hi hz0 hz1 hz2 rfl (by decide) v n xs hs hown ad 1 c [z] hx rfl ?_ ?_ (by unfold maxLen; omega) (by omega) hB (fun v' w' h1 h2 _ => h v' w' h1 h2)
  · intro j u hu
    match j, hu with
    | 0, hu => simp at hu; subst hu; simpa [Addr.add] using hz
  · intro u hu
    simp at hu; subst hu; exact hz1'
theorem step_appR {ops : Array Oper} {o : Oper} {a : Act} {w : World} {K : Act → World → Prop} {Q : Exit → Act → World → Prop} {E : Prop} (hgd : o.guard = none) (s x : Operand)
    (ho : o.op = .call { callee := .builtin .append, args := #[s, x], argTypes := #[66, 66] })
    (B : Nat) (v : Value) (n : Nat) (xs : List Value) (hs : a.eval s = v) (hown : w.ownsRow B 22 1 v n xs)
    (ad : Addr) (c : Nat) (z : Value) (hz1' : z.oneCell' = true) (hx : a.eval x = .slice (some ad) 1 c) (hz : w.cell? ad = some z) (hn : n ≤ 1048576) (hB : B ≤ w.heap.size)
    (h : ∀ v' w', w'.ownsRow B 22 1 v' (n + 1) (xs ++ [z]) → w.grownBy w' v.ownBlock → K (a.put o.dst v') w') :
    if Region.wanted o (yielded ops a.tmps) = true then Oper.wp Try.prog o a w K Q else E := by
  have hw : Region.wanted o (yielded ops a.tmps) = true := by simp [Region.wanted, hgd]
  rw [if_pos hw]
  exact wp_appR s x ho B v n xs hs hown ad c z hz1' hx hz hn hB h
theorem list_appR {ops : Array Oper} {rest : List Oper} {o : Oper} {a : Act} {w : World} {Q : Exit → Act → World → Prop} (hgd : o.guard = none) (s x : Operand)
    (ho : o.op = .call { callee := .builtin .append, args := #[s, x], argTypes := #[66, 66] })
    (B : Nat) (v : Value) (n : Nat) (xs : List Value) (hs : a.eval s = v) (hown : w.ownsRow B 22 1 v n xs)
    (ad : Addr) (c : Nat) (z : Value) (hz1' : z.oneCell' = true) (hx : a.eval x = .slice (some ad) 1 c) (hz : w.cell? ad = some z) (hn : n ≤ 1048576) (hB : B ≤ w.heap.size)
    (h : ∀ v' w', w'.ownsRow B 22 1 v' (n + 1) (xs ++ [z]) → w.grownBy w' v.ownBlock → wpList Try.prog ops Q rest (a.put o.dst v') w') : wpList Try.prog ops Q (o :: rest) a w :=
  wpList_plain hgd fun _ hK => wp_appR s x ho B v n xs hs hown ad c z hz1' hx hz hn hB fun v' w' h1 h2 => hK _ _ (h v' w' h1 h2)
theorem Rl.app {w w' : World} {B k : Nat} {v v' : Value} {us : List Value} {cs : Nat → List Int} {a : Option Addr} {c : Nat} (h : Rl w B v us cs k) (ho : Own w B (.slice a (cs k).length c) (cs k)) (hr : w'.ownsRow B 22 1 v' (k + 1) (us ++ [.slice a (cs k).length c])) (hg : w.grownBy w' v.ownBlock) : Rl w' B v' (us ++ [.slice a (cs k).length c]) cs (k + 1) := by
  have hl : us.length = k := by have := h.1.1; omega
  refine ⟨hr, fun j hj => ?_⟩
  by_cases e : j < k
  · obtain ⟨a', c', e', ho'⟩ := h.2 j e
    exact ⟨a', c', by rw [List.getElem?_append_left (by omega)]; exact e', World.ownsRow.kept ho' hg (row_ne_row ho' h.1 (by decide))⟩
  · obtain rfl : j = k := by omega
    exact ⟨a, c, by rw [List.getElem?_append_right (by omega), hl, Nat.sub_self]; rfl, World.ownsRow.kept ho hg (row_ne_row ho h.1 (by decide))⟩

end Go.Proofs.Ytecjmibnoldpgab

/- Contracts of the model's l07Start and l07Bounded. Conditions: those in the theorems. -/
namespace Go.Proofs.Ytecjmibnoldpgab
open Go.RowKit

theorem ownsRow_up {w : World} {B B' n s : Nat} {t : TypeId} {v : Value} {xs : List Value} (h : w.ownsRow B t s v n xs) (hB : B' ≤ B) : w.ownsRow B' t s v n xs := by
  obtain ⟨h1, h2 | ⟨g, c, cur, e, hb, r⟩⟩ := h
  · exact ⟨h1, .inl h2⟩
  · exact ⟨h1, .inr ⟨g, c, cur, e, Nat.le_trans hB hb, r⟩⟩

set_option maxHeartbeats 4000000 in
set_option maxRecDepth 100000 in
theorem l07Start_any (n0 n1 : Int) (xs ys ps zs : List Int) (a0 : Option Addr) (c0 : Nat) (b0 : Option Addr) (d0 : Nat) (a1 : Option Addr) (c1 : Nat) (b1 : Option Addr) (d1 : Nat) (w : World) (h0 : Mo w n0 a0 b0 xs ys) (h1 : Mo w n1 a1 b1 ps zs) :
    Calls Try.prog 76 #[.agg #[.int .i64 n0, .slice a0 xs.length c0, .slice b0 ys.length d0], .agg #[.int .i64 n1, .slice a1 ps.length c1, .slice b1 zs.length d1]] w fun e w' => ∃ v, e = .returned v ∧ Own w' w.heap.size v (tab xs.length (lkS xs ys ps zs)) ∧ Below w.heap.size w w' := by
  obtain ⟨W, hW, HB, X0, X1, hWs⟩ := boxTw w n0 a0 xs.length c0 b0 ys.length d0 n1 a1 ps.length c1 b1 zs.length d1
  have M0 := Lib.hid (h0.keep HB.out)
  have M1 := Lib.hid (h1.keep HB.out)
  have HW := Lib.hid hW
  have x8 := h0.2.1
  have p8 := h1.2.1
  have hws : w.heap.size ≤ W.heap.size := by omega
  have WS := Lib.hid hWs
  obtain rfl := h0.1
  obtain rfl := h1.1
  clear h0 h1 hW hWs
  obtain ⟨lt0, x0, x1, x2⟩ := X0.out
  obtain ⟨lt1, y0, y1, y2⟩ := X1.out
  go_enter Try.func76, Try.ntmps76
  go_wp2
  clear x0 x1 x2 y0 y1 y2
  rw [← HW.out]
  go_loopw [5, 6] (fun v i wr => ∃ t : Nat, t ≤ xs.length ∧ i = .int .i64 t ∧ Hid (Own wr W.heap.size v (upTo (lkS xs ys ps zs) t)) ∧ Hid (Below W.heap.size W wr)) (fun _ i _ => xs.length - (intOf i).toNat)
  case atStart => exact ⟨0, Nat.zero_le _, rfl, Lib.hid (by rw [← WS.out]; exact World.ownsRow_lit W #[] 0 (Nat.le_refl _) (by unfold maxLen; omega) rfl), Lib.hid ((Below.refl _ _).alloc (Nat.le_refl _) _)⟩
  case round =>
    obtain ⟨t, ht, rfl, O, B⟩ := hrel
    have hsz := B.out.size
    obtain ⟨lt0, x0, x1, x2⟩ := X0.out.keep B.out
    obtain ⟨lt1, y0, y1, y2⟩ := X1.out.keep B.out
    by_cases hlt : t < xs.length
    · go_wp2
      clear x0 x1 x2 y0 y1 y2
      go_loopw [7, 8] (fun s i wr => ∃ y : Nat, y ≤ ps.length ∧ i = .int .i64 y ∧ s = .int .i64 (mkT (fun y => atB ys zs t y ys.length) y) ∧ Hid (Own wr W.heap.size u5 (upTo (lkS xs ys ps zs) t)) ∧ Hid (Below W.heap.size W wr)) (fun _ i _ => ps.length - (intOf i).toNat)
      case atStart => exact ⟨0, Nat.zero_le _, rfl, rfl, O, B⟩
      case round =>
        clear O B hsz
        obtain ⟨y, hy, rfl, rfl, O, B⟩ := hrel
        have hsz := B.out.size
        obtain ⟨lt0, x0, x1, x2⟩ := X0.out.keep B.out
        obtain ⟨lt1, y0, y1, y2⟩ := X1.out.keep B.out
        by_cases hly : y < ps.length
        · obtain ⟨A, hA⟩ : ∃ A, A = atB ys zs t y ys.length := ⟨_, rfl⟩
          have CA := Lib.hid (show ∀ (w1 : World), Below W.heap.size W w1 → Calls Try.prog 97 #[.agg #[.int .i64 xs.length, .slice a0 xs.length c0, .slice b0 ys.length d0], .agg #[.int .i64 ps.length, .slice a1 ps.length c1, .slice b1 zs.length d1], .int .i64 t, .int .i64 y] w1 fun e w' => e = .returned (.bool A) ∧ Below w1.heap.size w1 w' from
            fun w1 hw => by rw [hA]; exact l07Atoms_any _ _ xs ys ps zs t y _ _ _ _ _ _ _ _ w1 (by omega) (by omega) (by omega) (by omega) (M0.out.keep hw) (M1.out.keep hw))
          have E := Lib.hid hA
          clear hA
          go_wp2_with fail
          clear x0 x1 x2 y0 y1 y2
          refine (CA.out _ B.out).mono ?_
          rintro e w1 ⟨rfl, hb⟩
          have B1 := Lib.hid (B.out.trans (hb.mono (show W.heap.size ≤ _ from hsz)))
          have O1 := Lib.hid (Own.keep O.out hb (Nat.le_refl _))
          clear hb
          cases A
          · go_wp2
            go_roundw
            case rel => exact ⟨y + 1, hly, by go_num, by rw [mkT, ← E.out]; rfl, O1, B1⟩
            case measure => simp [intOf]; omega
          · go_wp2_with (go_at_call 57; refine (l01One_any _ _ (by omega) (by omega)).mono ?_; rintro e w' ⟨rfl, rfl⟩)
            go_roundw
            case rel => exact ⟨y + 1, hly, by go_num, by rw [mkT, ← E.out]; rfl, O1, B1⟩
            case measure => simp [intOf]; omega
        · obtain rfl : y = ps.length := by omega
          go_wp2_with (at_builtin; refine list_app1 rfl _ _ rfl W.heap.size _ t _ rfl ((own_down O.out).alloc _) ⟨wr.heap.size, 0, none⟩ 1 _ rfl (World.cell?_alloc_at _ _ _ _ rfl) (by omega) (by simp; omega) ?_; intro v' w1' hown1 hgr1)
          have hbel := Lib.hid (below_app B.out ((Below.refl _ _).alloc hsz _) hsz (own_down O.out) hgr1)
          clear hgr1 x0 x1 x2 y0 y1 y2
          go_roundw
          case rel => exact ⟨t + 1, hlt, by go_num, Lib.hid (by unfold Own; rw [upTo_len, upTo, List.map_append]; exact hown1), hbel⟩
          case measure => simp [intOf]; omega
    · obtain rfl : t = xs.length := by omega
      go_wp2
      go_ret
      exact ⟨_, rfl, by rw [← upTo_tab]; exact O.out.mono hws, HB.out.trans (B.out.mono HB.out.size)⟩


set_option maxHeartbeats 4000000 in
set_option maxRecDepth 100000 in
theorem l07Bounded_any (n0 n1 : Int) (xs ys ps zs : List Int) (a0 : Option Addr) (c0 : Nat) (b0 : Option Addr) (d0 : Nat) (a1 : Option Addr) (c1 : Nat) (b1 : Option Addr) (d1 : Nat) (w : World) (h0 : Mo w n0 a0 b0 xs ys) (h1 : Mo w n1 a1 b1 ps zs) :
    Calls Try.prog 42 #[.agg #[.int .i64 n0, .slice a0 xs.length c0, .slice b0 ys.length d0], .agg #[.int .i64 n1, .slice a1 ps.length c1, .slice b1 zs.length d1]] w fun e w' => ∃ v us, e = .returned v ∧ Rl w' w.heap.size v us (lkN xs ys ps zs) 17 ∧ Below w.heap.size w w' := by
  obtain ⟨W, hW, HB, X0, X1, hWs⟩ := boxTw w n0 a0 xs.length c0 b0 ys.length d0 n1 a1 ps.length c1 b1 zs.length d1
  have M0 := Lib.hid (h0.keep HB.out)
  have M1 := Lib.hid (h1.keep HB.out)
  have HW := Lib.hid hW
  have x8 := h0.2.1
  have hws : w.heap.size ≤ W.heap.size := by omega
  have SA := Lib.hid (l07Start_any n0 n1 xs ys ps zs a0 c0 b0 d0 a1 c1 b1 d1 W M0.out M1.out)
  clear h0 h1 hW hWs
  obtain ⟨lt0, x0, x1, x2⟩ := X0.out
  obtain ⟨lt1, y0, y1, y2⟩ := X1.out
  go_enter Try.func42, Try.ntmps42
  go_wp2_with fail
  clear x0 x1 x2 y0 y1 y2
  rw [← HW.out]
  refine SA.out.mono ?_
  rintro e w1 ⟨v1, rfl, ho, hb⟩
  obtain ⟨a2, c2, e2, -, -, -, -⟩ := ho.at
  rw [tab_len] at e2
  subst e2
  have hL0 : (lkN xs ys ps zs 0).length = xs.length := lkN_len _ _ _ _ 0
  have R0 := Lib.hid (show Rl (w1.alloc (.cells #[.slice a2 xs.length c2] 22)) W.heap.size (.slice (some ⟨w1.heap.size, 0, none⟩) 1 1) [.slice a2 xs.length c2] (lkN xs ys ps zs) 1 from
    ⟨ownsRow_up (World.ownsRow_lit (e := 22) (size := 1) w1 #[.slice a2 xs.length c2] 1 (Nat.le_refl _) (by unfold maxLen; omega) rfl) hb.size, fun j hj => by
      obtain rfl : j = 0 := by omega
      exact ⟨a2, c2, by rw [hL0]; rfl, by rw [hL0]; exact Own.keep (show Own w1 W.heap.size _ _ from ho) (alloc_keep _ _).1 (Nat.le_refl _)⟩⟩)
  have B0 := Lib.hid (show Below W.heap.size W (w1.alloc (.cells #[.slice a2 xs.length c2] 22)) from hb.trans ((alloc_keep _ _).1.mono hb.size))
  clear ho hb hL0
  go_wp2
  go_loopw [5, 6] (fun v i wr => ∃ (k : Nat) (us : List Value), k ≤ 16 ∧ i = .int .i64 k ∧ Hid (Rl wr W.heap.size v us (lkN xs ys ps zs) (k + 1)) ∧ Hid (Below W.heap.size W wr)) (fun _ i _ => 16 - (intOf i).toNat)
  case atStart => exact ⟨0, _, Nat.zero_le _, rfl, R0, B0⟩
  case round =>
    clear R0 B0
    obtain ⟨k, us, hk, rfl, R, B⟩ := hrel
    by_cases hlt : k < 16
    · obtain ⟨aR, cR, eR, hg⟩ := R.out.form
      subst eR
      obtain ⟨g, rfl, hg1, hg2, hgc⟩ := hg.resolve_left (by omega)
      obtain ⟨aj, cj, euj, hoj⟩ := R.out.2 k (by omega)
      have UJ := (hgc k (by omega)).trans euj
      rw [lkN_len] at UJ
      obtain ⟨a3, c3, e3, hat3, -, -, -⟩ := hoj.at
      rw [lkN_len] at e3
      cases e3
      have LN := Lib.hid (lkN_len xs ys ps zs k)
      have CS := Lib.hid (show ∀ w1 : World, Below wr.heap.size wr w1 → Calls Try.prog 77 #[.agg #[.int .i64 n0, .slice a0 xs.length c0, .slice b0 ys.length d0], .agg #[.int .i64 n1, .slice a1 ps.length c1, .slice b1 zs.length d1], .slice aj xs.length cj] w1 fun e w' => ∃ v, e = .returned v ∧ Own w' w1.heap.size v (lkN xs ys ps zs (k + 1)) ∧ Below w1.heap.size w1 w' from
        fun w1 hw => by
          have q := l07Step_any n0 n1 xs ys ps zs (lkN xs ys ps zs k) a0 c0 b0 d0 a1 c1 b1 d1 aj cj w1 (M0.out.keep (B.out.trans (hw.mono B.out.size))) (M1.out.keep (B.out.trans (hw.mono B.out.size))) (hat3.keep hw (Nat.le_refl _)) (by rw [LN.out]; exact x8)
          rw [LN.out] at q
          exact q)
      obtain ⟨lt0, x0, x1, x2⟩ := X0.out.keep B.out
      obtain ⟨lt1, y0, y1, y2⟩ := X1.out.keep B.out
      have hk16 : (k : Int) < 16 := by omega
      have hkk : (k : Int) < (k : Int) + 1 := by omega
      have hsz := B.out.size
      clear hg hgc euj hoj hat3
      go_wp2
      go_region_law (first | (go_simp; go_at_call 77; refine (CS.out _ (Below.refl _ _).drew).mono ?_; rintro e w2 ⟨v2, rfl, ho, hb⟩; have ⟨a4, c4, e4⟩ : ∃ a c, v2 = .slice a xs.length c := (by obtain ⟨a4, c4, e4, -, -, -, -⟩ := ho.at; exact ⟨a4, c4, by rw [e4, lkN_len]⟩); subst e4; have O2 := Lib.hid (ho.mono (show W.heap.size ≤ _ from hsz)); have T2 := Lib.hid (show Below wr.heap.size wr w2 from below_of_drew hb); clear ho hb; have RA := Lib.hid ((R.out.keep T2.out (Nat.le_refl _)).keep (alloc_keep w2 (.cells #[.slice a4 xs.length c4] 22)).1 (Nat.le_refl _)); have hs2 : W.heap.size ≤ w2.heap.size := Nat.le_trans hsz T2.out.size) | (refine step_appR rfl _ _ rfl W.heap.size (.slice (some ⟨g, 0, none⟩) (k + 1) cR) (k + 1) us rfl RA.out.1 ⟨w2.heap.size, 0, none⟩ 1 (.slice a4 xs.length c4) rfl rfl (World.cell?_alloc_at _ _ _ _ rfl) (by omega) (by simp; omega) ?_; intro v' w1' hown1 hgr1))
      all_goals
        have R5 := Lib.hid (show Rl w1' W.heap.size v' (us ++ [.slice a4 (lkN xs ys ps zs (k + 1)).length c4]) (lkN xs ys ps zs) (k + 1 + 1) from RA.out.app (by rw [lkN_len]; exact Own.keep O2.out (alloc_keep _ _).1 (Nat.le_refl _)) (by rw [lkN_len]; exact hown1) hgr1)
        have B5 := Lib.hid (show Below W.heap.size W w1' from ((B.out.trans (T2.out.mono hsz)).trans ((alloc_keep w2 _).1.mono hs2)).grown hgr1 (by simp; omega) (fun j hj => (World.ownsRow.lt RA.out.1 j hj).1))
        clear hown1 hgr1 x0 x1 x2 y0 y1 y2
        go_wp2
        go_roundw
        case rel => exact ⟨k + 1, _, hlt, by go_num, R5, B5⟩
        case measure => simp [intOf]; omega
    · obtain rfl : k = 16 := by omega
      go_wp2
      go_ret
      exact ⟨_, us, rfl, R.out.mono hws, HB.out.trans (B.out.mono HB.out.size)⟩

end Go.Proofs.Ytecjmibnoldpgab
