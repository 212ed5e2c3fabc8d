/- Contracts of the program's euclideanClosure and closureOf. Conditions: those in the theorems. -/
import Derived.Test.YtpedinmflhgcoaaHas
namespace Go.Proofs.Ytpedinmflhgcoaa
open Go.RowKit

set_option maxHeartbeats 400000 in
theorem slCloneR_any (xs : List Int) (a : Option Addr) (len cap : Nat) (w : World) (hl : len ≤ 1048576) (h : At w a len xs) :
    Calls Try.prog 142 #[.slice a len cap] w fun e w' => ∃ v, e = .returned v ∧ Own w' w.heap.size v xs ∧ Below w.heap.size w w' := by
  obtain ⟨i0, hi, hz0, hz1, hz2⟩ := info_parts info64
  have hnil := World.ownsRow_lit (size := 1) (e := 2) w #[] 0 (Nat.le_refl w.heap.size) (by unfold maxLen; omega) rfl
  have HNIL := Lib.hid hnil
  clear hnil
  have hb0 : Below w.heap.size w (w.alloc (.cells #[] 2)) := (Below.refl _ _).alloc (Nat.le_refl _) _
  have hlen := h.1
  have qT : ∀ (w : World) (a : Option Addr) (n c n' c' : Nat), (binOp .eql 73 (.slice a n c) (.slice none n' c')).run Try.prog w = .ok (.bool a.isNone) w := fun w a n c n' c' => Lib.run_eql_slice_nil w _ _ a n c n' c' Try.underlying73
  cases a with
  | none =>
    have h0 : len = 0 := by
      rcases h.2 with h0 | ⟨b, off, h0, _⟩
      · exact h0
      · cases h0
    subst h0
    obtain rfl : xs = [] := List.eq_nil_of_length_eq_zero hlen.symm
    clear h hlen HNIL hb0 hi hz0 hz1 hz2
    go_enter Try.func142, Try.ntmps142
    go_wp2
    go_ret
    exact ⟨_, rfl, World.ownsRow_nil w _ _ 1, Below.refl _ _⟩
  | some ad =>
    have hcells : ∀ j u, (xs.map (Value.int .i64))[j]? = some u → (w.alloc (.cells #[] 2)).cell? (ad.add j) = some u := by
      intro j u hj
      have hjl : j < xs.length := by
        have := (List.getElem?_eq_some_iff.1 hj).1
        simpa using this
      obtain ⟨b, off, he, hb, hc⟩ := h.2.resolve_left (by omega)
      cases he
      rw [nth_map hjl] at hj
      have e2 : (⟨b, off, none⟩ : Addr).add j = ⟨b, off + j, none⟩ := by unfold Addr.add; split <;> simp_all
      rw [e2, World.cell?_alloc_past _ _ _ hb, hc j (by omega), ← hj]
    have HC := Lib.hid hcells
    have HL := Lib.hid hlen
    clear h hcells hlen
    go_enter Try.func142, Try.ntmps142
    go_wp2_with (at_builtin; refine wpList_append_own _ rfl (.tmp 5) (.tmp 6) 73 rfl w.heap.size 2 i0 (.int .i64 0) 1 8 Try.underlying73 hi hz0 hz1 hz2 rfl (by decide) _ 0 _ rfl HNIL.out ad len _ (xs.map (Value.int .i64)) rfl ?c1 HC.out (ints_oneCell _ _) ?c2 ?c3 ?c4 ?_)
    case c1 => exact HL.out.symm
    case c2 => unfold maxLen; omega
    case c3 => omega
    intro v' w1 hown1 hgr1 hnn1
    have hb1 := Lib.hid (hb0.grown hgr1 hb0.size (fun k hk => (World.ownsRow.lt HNIL.out k hk).1))
    have HO := Lib.hid (show Own w1 w.heap.size v' xs by unfold Own; rw [← HL.out]; simpa using hown1)
    clear hown1 hgr1 hnn1 hi hz0 hz1 hz2 qT
    go_wp2
    go_ret
    exact ⟨_, rfl, HO.out, hb1.out⟩

theorem CB.lit {w : World} {b : Nat} (h : CB w b euW) : w.cell? ⟨b, 0, none⟩ = some (.bool false) ∧ w.cell? ⟨b, 1, none⟩ = some (.bool false) ∧ w.cell? ⟨b, 2, none⟩ = some (.bool false) ∧ w.cell? ⟨b, 3, none⟩ = some (.bool false) ∧ w.cell? ⟨b, 4, none⟩ = some (.bool true) ∧ w.cell? ⟨b, 5, none⟩ = some (.bool false) ∧ w.cell? ⟨b, 6, none⟩ = some (.bool false) ∧ w.cell? ⟨b, 7, none⟩ = some (.bool false) ∧ w.cell? ⟨b, 8, none⟩ = some (.bool false) ∧ w.cell? ⟨b, 9, none⟩ = some (.bool false) ∧ w.cell? ⟨b, 10, none⟩ = some (.bool false) := ⟨(h.2 0 (by decide)).1, (h.2 1 (by decide)).1, (h.2 2 (by decide)).1, (h.2 3 (by decide)).1, (h.2 4 (by decide)).1, (h.2 5 (by decide)).1, (h.2 6 (by decide)).1, (h.2 7 (by decide)).1, (h.2 8 (by decide)).1, (h.2 9 (by decide)).1, (h.2 10 (by decide)).1⟩
/-- What the program keeps while it closes a relation. -/
def EuK (xs cur : List Int) (w : World) (B : Nat) (a : Option Addr) (c : Nat) : Prop := cur.length = xs.length ∧ Rel xs.length (nth cur) ∧ Eui xs (nth cur) ∧ At w a xs.length cur ∧ Own w B (.slice a xs.length c) cur
theorem EuK.mk' {xs cur : List Int} {w : World} {B : Nat} {v : Value} (hl : cur.length = xs.length) (hr : Rel xs.length (nth cur)) (he : Eui xs (nth cur)) (ho : Own w B v cur) : ∃ a c, v = .slice a xs.length c ∧ EuK xs cur w B a c := by
  obtain ⟨a, c, e, hat, -, -, -⟩ := ho.at
  rw [hl] at e hat
  subst e
  exact ⟨a, c, rfl, hl, hr, he, hat, ho⟩

set_option maxHeartbeats 2000000 in
set_option maxRecDepth 100000 in
theorem euclid_any (xs E : List Int) (a : Option Addr) (cap : Nat) (w : World) (h8 : xs.length ≤ 8) (hr : Rel xs.length (nth xs)) (hE : EuSpec xs E) (h : At w a xs.length xs) :
    Calls Try.prog 117 #[.slice a xs.length cap] w fun e w' => ∃ v, e = .returned v ∧ Own w' w.heap.size v E ∧ Below w.heap.size w w' := by
  have h30 : xs.length ≤ 30 := by omega
  have H := Lib.hid h
  have HR := Lib.hid hr
  have HE := Lib.hid hE
  clear h hr hE
  go_enter Try.func117, Try.ntmps117
  go_wp2_with fail
  refine (slCloneR_any xs _ _ _ _ (by omega) H.out).mono ?_
  rintro e w1 ⟨v1, rfl, ho, hb⟩
  obtain ⟨W, hW⟩ : ∃ W, W = w1.alloc (.cells #[.bool false, .bool false, .bool false, .bool false, .bool true, .bool false, .bool false, .bool false, .bool false, .bool false, .bool false] 84) := ⟨_, rfl⟩
  obtain ⟨hbW, hzW⟩ : Below w1.heap.size w1 W ∧ w1.heap.size + 1 ≤ W.heap.size := by rw [hW]; exact alloc_keep _ _
  have CW := Lib.hid (show CB W w1.heap.size euW by rw [hW]; simpa [euW] using CB.new w1 euW)
  have BW := Lib.hid (hb.trans (hbW.mono hb.size))
  obtain ⟨a1, c1, e1, K0⟩ := EuK.mk' rfl HR.out (Eui.start HR.out) (ho.keep hbW (Nat.le_refl _))
  subst e1
  have K1 := Lib.hid K0
  have T0 := Lib.hid (show tot (nth xs) xs.length < xs.length * 256 + 1 from Nat.lt_succ_of_le (tot_bd _ _))
  have HW := Lib.hid hW
  clear ho hb hbW hW K0
  go_wp2
  go_loopg [3] (xs.length * 256 + 1) (fun g v wr => ∃ (cur : List Int) (a : Option Addr) (c : Nat), v = .slice a xs.length c ∧ Hid (EuK xs cur wr w.heap.size a c) ∧ Hid (tot (nth cur) xs.length < g) ∧ Hid (CB wr w1.heap.size euW) ∧ Hid (Below w.heap.size w wr))
  case atStart =>
    rw [← HW.out]
    exact ⟨xs, a1, c1, rfl, K1, T0, CW, BW⟩
  case round =>
    rename World => wo
    obtain ⟨cur, a2, c2, rfl, K, hn, C, B⟩ := hrel
    clear K1 T0 CW BW
    obtain ⟨m, hm⟩ : ∃ m, gk = m + 1 := ⟨gk - 1, by have := hn.out; omega⟩
    have TT := Lib.hid (show tot (nth cur) xs.length < m + 1 by rw [← hm]; exact hn.out)
    have GK := Lib.hid hm
    have hl := K.out.1
    have hcr : Rel cur.length (nth cur) := by rw [hl]; exact K.out.2.1
    have CR := Lib.hid hcr
    have LL := Lib.hid hl
    have FO := Lib.hid (fun (W : World) (hA : At W a2 xs.length cur) => by have q := flagsOf_fl cur a2 c2 W (by omega) hcr (by rw [hl]; exact hA); rw [hl] at q; exact q)
    clear hcr hl hm hn
    obtain ⟨c0, c1, c2, c3, c4, c5, c6, c7, c8, c9, c10⟩ := C.out.lit
    cases hf : flB 4 cur
    case true =>
      have HF := Lib.hid hf
      have EE := Lib.hid (show cur = E by
        have q := (eu_flag (by have := LL.out; omega) CR.out).1 hf
        rw [LL.out] at q
        have q2 := K.out.2.2.1.stop HR.out q HE.out
        rw [← LL.out, tab_self] at q2
        exact q2)
      clear hf
      go_wp2
      go_region_with (first | (go_at_call 72; refine (FO.out _ (K.out.2.2.2.1.drw)).mono ?_; rintro e w2 ⟨rfl, hb⟩; have b2 := Lib.hid (below_of_drew hb); clear hb; have C2 := Lib.hid (C.out.keep b2.out); obtain ⟨d0, d1, d2, d3, d4, d5, d6, d7, d8, d9, d10⟩ := C2.out.lit) | (go_at_call 143; refine (has_any (fun j => flB j cur) _).mono ?_; rw [HF.out]; rintro e w3 ⟨rfl, hb⟩; have b3 := Lib.hid (b2.out.trans (hb.mono b2.out.size)); clear hb))
      all_goals
        have C3 := Lib.hid (C.out.keep b3.out)
        have B3 := Lib.hid (B.out.trans (b3.out.mono B.out.size))
        have A3 := Lib.hid (K.out.2.2.2.1.keep b3.out (Nat.le_refl _))
        have O3 := Lib.hid (K.out.2.2.2.2.keep b3.out (Nat.le_refl _))
        clear c0 c1 c2 c3 c4 c5 c6 c7 c8 c9 c10 d0 d1 d2 d3 d4 d5 d6 d7 d8 d9 d10 FO C C2 b2
        go_wp2
        go_ret
        exact ⟨_, rfl, by rw [← EE.out]; exact O3.out, B3.out⟩
    case false =>
      have HF := Lib.hid hf
      have NX := Lib.hid (K.out.2.2.1.next h30 LL.out CR.out)
      have NL := Lib.hid (next_lt h8 LL.out CR.out K.out.2.2.1 hf)
      clear hf
      go_wp2
      go_region_with (first | (go_at_call 72; refine (FO.out _ (K.out.2.2.2.1.drw)).mono ?_; rintro e w2 ⟨rfl, hb⟩; have b2 := Lib.hid (below_of_drew hb); clear hb; have C2 := Lib.hid (C.out.keep b2.out); obtain ⟨d0, d1, d2, d3, d4, d5, d6, d7, d8, d9, d10⟩ := C2.out.lit) | (go_at_call 143; refine (has_any (fun j => flB j cur) _).mono ?_; rw [HF.out]; rintro e w3 ⟨rfl, hb⟩; have b3 := Lib.hid (b2.out.trans (hb.mono b2.out.size)); clear hb))
      all_goals
        have C3 := Lib.hid (C.out.keep b3.out)
        have B3 := Lib.hid (B.out.trans (b3.out.mono B.out.size))
        have A3 := Lib.hid (K.out.2.2.2.1.keep b3.out (Nat.le_refl _))
        have O3 := Lib.hid (K.out.2.2.2.2.keep b3.out (Nat.le_refl _))
        clear c0 c1 c2 c3 c4 c5 c6 c7 c8 c9 c10 d0 d1 d2 d3 d4 d5 d6 d7 d8 d9 d10 FO C C2 b2
        go_wp2_with fail
        refine (inverse_any cur _ _ _ _ h30 A3.out).mono ?_
        rintro e w4 ⟨v4, rfl, ho, hb⟩
        obtain ⟨a4, c4, e4, hat, -, -, -⟩ := (show Own w4 _ v4 (bsL cur) by rw [bsL, LL.out]; exact ho).at
        subst e4
        rw [bsL_len, LL.out] at hat
        rw [bsL_len, LL.out]
        have A4 := Lib.hid hat
        have X4 := Lib.hid (A3.out.keep hb (Nat.le_refl _))
        have C4 := Lib.hid (C3.out.keep hb)
        have B4 := Lib.hid (B3.out.trans (hb.mono B3.out.size))
        clear ho hb hat
        go_wp2_with fail
        refine (then_any (bsL cur) cur _ _ _ _ _ _ _ h30 h30 A4.out X4.out).mono ?_
        rintro e w5 ⟨v5, rfl, ho, hb⟩
        obtain ⟨a5, c5, e5, hat, -, -, -⟩ := (show Own w5 _ v5 (sbL cur) by rw [sbL, LL.out]; exact ho).at
        subst e5
        rw [sbL_len, LL.out] at hat
        rw [sbL_len, LL.out]
        have A5 := Lib.hid hat
        have X5 := Lib.hid (X4.out.keep hb (Nat.le_refl _))
        have C5 := Lib.hid (C4.out.keep hb)
        have B5 := Lib.hid (B4.out.trans (hb.mono B4.out.size))
        clear ho hb hat
        go_wp2_with fail
        refine (union_any cur (sbL cur) xs.length _ _ _ _ _ h30 X5.out A5.out).mono ?_
        rintro e w6 ⟨v6, rfl, ho, hb⟩
        obtain ⟨a6, c6, e6, K6⟩ := EuK.mk' (opL_len _ _ _ _) NX.out.1 NX.out.2.1 (ho.mono B5.out.size)
        subst e6
        have K7 := Lib.hid K6
        have C6 := Lib.hid (C5.out.keep hb)
        have B6 := Lib.hid (B5.out.trans (hb.mono B5.out.size))
        clear ho hb K6
        go_wp2
        go_roundg m
        case measure => rw [GK.out]; omega
        case rel => exact ⟨_, _, _, rfl, K7, Lib.hid (Nat.lt_of_lt_of_le NL.out (Nat.le_of_lt_succ TT.out)), C6, B6⟩

end Go.Proofs.Ytpedinmflhgcoaa
