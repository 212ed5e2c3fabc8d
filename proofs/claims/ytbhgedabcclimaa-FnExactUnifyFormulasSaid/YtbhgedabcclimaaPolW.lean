/- Polarities of nodes: contracts of the model's list of them. Conditions: those in the theorems. -/
import Derived.Test.YtbhgedabcclimaaPol
import Derived.Test.YtbhgedabcclimaaDeep
import Derived.Test.YtbhgedabcclimaaOwnI
namespace Go.Proofs.Ytbhgedabcclimaa
open Go.RowKit

theorem At.news {w : World} {b off m : Nat} {ys : List Int} (h : At w (some ⟨b, off, none⟩) m ys) : ∀ j u, (ys.map (Value.int .i64))[j]? = some u → w.cell? ((⟨b, off, none⟩ : Addr).add j) = some u := by
  intro j u hu
  have hlt : j < ys.length := by
    rcases Nat.lt_or_ge j ys.length with h1 | h1
    · exact h1
    · rw [List.getElem?_eq_none (by simpa using h1)] at hu; cases hu
  have hm := h.1
  obtain ⟨b', off', ha, hb, hc⟩ := h.2.resolve_left (by omega)
  cases ha
  rw [addr_add, hc j (by omega), ← nth_map hlt, hu]
theorem ints_one (ys : List Int) : ∀ u ∈ ys.map (Value.int .i64), u.oneCell' = true := by
  intro u hu
  obtain ⟨x, -, rfl⟩ := List.mem_map.1 hu
  rfl
theorem list_appI {ops : Array Oper} {rest : List Oper} {o : Oper} {a : Act} {w : World} {Q : Exit → Act → World → Prop} (hgd : o.guard = none) (s x : Operand)
    (ho : o.op = .call { callee := .builtin .append, args := #[s, x], argTypes := #[49, 49] })
    (B : Nat) (v : Value) (xs : List Int) (hs : a.eval s = v) (hown : Own w B v xs)
    (ys : List Int) (aa : Option Addr) (m c : Nat) (hx : a.eval x = .slice aa m c) (hat : At w aa m ys) (hm : 0 < m) (hn : xs.length + m ≤ 8388608) (hB : B ≤ w.heap.size)
    (h : ∀ v' w', Own w' B v' (xs ++ ys) → w.grownBy w' v.ownBlock → wpList Try.prog ops Q rest (a.put o.dst v') w') : wpList Try.prog ops Q (o :: rest) a w := by
  obtain ⟨i0, hi, hz0, hz1, hz2⟩ := info_parts info64
  obtain ⟨b, off, rfl, -, -⟩ := hat.2.resolve_left (by omega)
  refine wpList_append_own w hgd s x 49 ho B 2 i0 (.int .i64 0) 1 8 Try.underlying49 hi hz0 hz1 hz2 rfl (by decide) v xs.length (xs.map (Value.int .i64)) hs hown ⟨b, off, none⟩ m c (ys.map (Value.int .i64)) hx (by rw [List.length_map, hat.1]; omega) hat.news (ints_one ys) (by unfold maxLen; omega) (by omega) hB (fun v' w' h1 h2 _ => h v' w' ?_ h2)
  unfold Own
  rw [List.length_append, List.map_append, ← hat.1]
  exact h1
theorem litI (w : World) (B : Nat) (s : Int) (hB : B ≤ w.heap.size) : Own (w.alloc (.cells #[.int .i64 s] 2)) B (.slice (some ⟨w.heap.size, 0, none⟩) 1 1) [s] :=
  World.ownsRow_lit w #[.int .i64 s] 1 hB (by decide) rfl

set_option maxHeartbeats 2000000 in
theorem l03Pol_any (f : Fm) (hf : f.ok) : ∀ (s : Int) (b off len cap : Nat) (w : World), len ≤ 4096 → AtF w b off len cap f → (-1 ≤ s ∧ s ≤ 1) →
    Calls Try.prog 82 #[.slice (some ⟨b, off, none⟩) len cap, .int .i64 s] w fun e w' => ∃ v, e = .returned v ∧ Own w' w.heap.size v (f.pls s) ∧ Below w.heap.size w w' := by
  induction f with
  | va s0 =>
    intro s b off len cap w hl h hs
    obtain ⟨hb, c1, c2⟩ := h.head
    have hlen := h.len
    have h0 : 0 < len := by rw [hlen]; exact Fm.sz_pos _
    have HQ := Lib.hid (prt_kind hf)
    clear h hlen
    go_enter Try.func82, Try.ntmps82
    go_wp2_with (go_at_call 115; refine (l02Parts_any _ _).mono ?_; rw [HQ.out]; rintro e w' ⟨rfl, rfl⟩)
    go_ret
    exact ⟨_, rfl, litI w _ s (Nat.le_refl _), (Below.refl _ _).alloc (Nat.le_refl _) _⟩
  | fa =>
    intro s b off len cap w hl h hs
    obtain ⟨hb, c1, c2⟩ := h.head
    have hlen := h.len
    have h0 : 0 < len := by rw [hlen]; exact Fm.sz_pos _
    have HQ := Lib.hid (prt_kind hf)
    clear h hlen
    go_enter Try.func82, Try.ntmps82
    go_wp2_with (go_at_call 115; refine (l02Parts_any _ _).mono ?_; rw [HQ.out]; rintro e w' ⟨rfl, rfl⟩)
    go_ret
    exact ⟨_, rfl, litI w _ s (Nat.le_refl _), (Below.refl _ _).alloc (Nat.le_refl _) _⟩
  | un k g ih =>
    intro s b off len cap w hl h hs
    obtain ⟨hb, c1, c2⟩ := h.head
    have hlen := h.len
    have hsz : (Fm.un k g).sz = 1 + g.sz := rfl
    have hgp := g.sz_pos
    have h0 : 1 < len := by omega
    have h1 := h.2.1
    have h2 := h.2.2
    unfold maxLen at h2
    have HQ := Lib.hid (prt_kind hf)
    have B0 := Lib.hid ((Below.refl w.heap.size w).alloc (Nat.le_refl _) (.cells #[.int .i64 s] 2))
    have O0 := Lib.hid (litI w w.heap.size s (Nat.le_refl _))
    have G := Lib.hid (h.keep B0.out (Nat.le_refl _)).under
    have LG := Lib.hid (g.pls_len s)
    have IH := Lib.hid (ih hf.2 s b (off + 2) (len - 1) (cap - 1) _ (by omega) G.out hs)
    have hl2 : g.sz ≤ 4096 := by omega
    clear h hlen hsz ih
    go_enter Try.func82, Try.ntmps82
    go_wp2_with (go_at_call 115; refine (l02Parts_any _ _).mono ?_; rw [HQ.out]; rintro e w' ⟨rfl, rfl⟩)
    refine IH.out.mono ?_
    rintro e w1 ⟨v1, rfl, ho1, hb1⟩
    obtain ⟨a1, c1', rfl, at1, -, -, -⟩ := ho1.at
    have O1 := Lib.hid (O0.out.keep hb1 (Nat.le_refl _))
    have B1 := Lib.hid (B0.out.trans (hb1.mono B0.out.size))
    rw [LG.out] at at1 ⊢
    have A1 := Lib.hid at1
    clear ho1 at1 hb1
    go_wp2_with (at_builtin; refine list_appI rfl _ _ rfl w.heap.size _ [s] rfl O1.out (g.pls s) a1 _ c1' rfl A1.out (by omega) (by simp; omega) B1.out.size ?_)
    intro v2 w2 ho2 hg2
    have b2 : Below w.heap.size w w2 := below_app B1.out (Below.refl _ _) B1.out.size O1.out hg2
    have B2 := Lib.hid b2
    have O2 := Lib.hid ho2
    clear b2 ho2 hg2
    go_wp2
    go_ret
    exact ⟨_, rfl, O2.out, B2.out⟩
  | bi k g d ihg ihd =>
    intro s b off len cap w hl h hs
    obtain ⟨hb, c1, c2⟩ := h.head
    have hlen := h.len
    have hsz : (Fm.bi k g d).sz = 1 + g.sz + d.sz := rfl
    have hgp := g.sz_pos
    have hdp := d.sz_pos
    have h0 : 0 < len := by omega
    have HQ := Lib.hid (show prt k = 2 from prt_kind hf)
    replace c1 : w.cell? ⟨b, off, none⟩ = some (.int .i64 k) := c1
    have HF := Lib.hid h
    have B0 := Lib.hid ((Below.refl w.heap.size w).alloc (Nat.le_refl _) (.cells #[.int .i64 s] 2))
    have O0 := Lib.hid (litI w w.heap.size s (Nat.le_refl _))
    have IG := Lib.hid (ihg hf.2.1)
    have ID := Lib.hid (ihd hf.2.2)
    have hl2 : g.sz + d.sz + 1 ≤ 4096 := by omega
    clear hlen hsz
    cases hk : (k == 4)
    · have hk4 : k ≠ 4 := by simpa using hk
      rw [show (Fm.bi k g d).pls s = s :: (g.pls s ++ d.pls s) from by rw [Fm.pls, if_neg hk4]]
      clear hk4
      have LG := Lib.hid (g.pls_len s)
      have LD := Lib.hid (d.pls_len s)
      clear ihg ihd h
      go_enter Try.func82, Try.ntmps82
      go_wp2_with (go_at_call 115; refine (l02Parts_any _ _).mono ?_; rw [HQ.out]; rintro e w' ⟨rfl, rfl⟩)
      refine (l02Left_any k g d hf.2.1 b off len cap _ (by omega) (HF.out.keep B0.out (Nat.le_refl _))).mono ?_
      rintro e w' ⟨rfl, rfl⟩
      go_wp2_with fail
      refine (IG.out s b (off + 2) g.sz (cap - 1) _ (by omega) (HF.out.keep B0.out (Nat.le_refl _)).left (by omega)).mono ?_
      rintro e w1 ⟨v1, rfl, ho1, hb1⟩
      obtain ⟨a1, c1', rfl, at1, -, -, -⟩ := ho1.at
      have O1 := Lib.hid (O0.out.keep hb1 (Nat.le_refl _))
      have B1 := Lib.hid (B0.out.trans (hb1.mono B0.out.size))
      rw [LG.out] at at1 ⊢
      have A1 := Lib.hid at1
      clear ho1 at1 hb1
      go_wp2_with (at_builtin; refine list_appI rfl _ _ rfl w.heap.size _ [s] rfl O1.out (g.pls s) a1 _ c1' rfl A1.out (by omega) (by simp; omega) B1.out.size ?_)
      intro v2 w2 ho2 hg2
      have b2 : Below w.heap.size w w2 := below_app B1.out (Below.refl _ _) B1.out.size O1.out hg2
      have B2 := Lib.hid b2
      have O2 := Lib.hid ho2
      clear b2 ho2 hg2
      go_wp2_with fail
      refine (l02Right_any k g d hf.2.1 b off len cap _ (by omega) (HF.out.keep B2.out (Nat.le_refl _))).mono ?_
      rintro e w' ⟨rfl, rfl⟩
      go_wp2_with fail
      refine (ID.out s b (off + (1 + g.sz) * 2) d.sz (cap - (1 + g.sz)) _ (by omega) (HF.out.keep B2.out (Nat.le_refl _)).right (by omega)).mono ?_
      rintro e w3 ⟨v3, rfl, ho3, hb3⟩
      obtain ⟨a3, c3', rfl, at3, -, -, -⟩ := ho3.at
      have O3 := Lib.hid (O2.out.keep hb3 (Nat.le_refl _))
      have B3 := Lib.hid (B2.out.trans (hb3.mono B2.out.size))
      rw [LD.out] at at3 ⊢
      have A3 := Lib.hid at3
      clear ho3 at3 hb3
      go_wp2_with (at_builtin; refine list_appI rfl _ _ rfl w.heap.size _ ([s] ++ g.pls s) rfl O3.out (d.pls s) a3 _ c3' rfl A3.out (by omega) (by have := LG.out; simp; omega) B3.out.size ?_)
      intro v4 w4 ho4 hg4
      have b4 : Below w.heap.size w w4 := below_app B3.out (Below.refl _ _) B3.out.size O3.out hg4
      have B4 := Lib.hid b4
      have O4 := Lib.hid ho4
      clear b4 ho4 hg4
      go_wp2
      go_ret
      exact ⟨_, rfl, O4.out, B4.out⟩
    · obtain rfl : k = 4 := by simpa using hk
      rw [show (Fm.bi 4 g d).pls s = s :: (g.pls (-s) ++ d.pls s) from rfl]
      have LG := Lib.hid (g.pls_len (-s))
      have LD := Lib.hid (d.pls_len s)
      clear ihg ihd h
      go_enter Try.func82, Try.ntmps82
      go_wp2_with (go_at_call 115; refine (l02Parts_any _ _).mono ?_; rw [HQ.out]; rintro e w' ⟨rfl, rfl⟩)
      refine (l02Left_any 4 g d hf.2.1 b off len cap _ (by omega) (HF.out.keep B0.out (Nat.le_refl _))).mono ?_
      rintro e w' ⟨rfl, rfl⟩
      go_wp2_with fail
      refine (IG.out (-s) b (off + 2) g.sz (cap - 1) _ (by omega) (HF.out.keep B0.out (Nat.le_refl _)).left (by omega)).mono ?_
      rintro e w1 ⟨v1, rfl, ho1, hb1⟩
      obtain ⟨a1, c1', rfl, at1, -, -, -⟩ := ho1.at
      have O1 := Lib.hid (O0.out.keep hb1 (Nat.le_refl _))
      have B1 := Lib.hid (B0.out.trans (hb1.mono B0.out.size))
      rw [LG.out] at at1 ⊢
      have A1 := Lib.hid at1
      clear ho1 at1 hb1
      go_wp2_with (at_builtin; refine list_appI rfl _ _ rfl w.heap.size _ [s] rfl O1.out (g.pls (-s)) a1 _ c1' rfl A1.out (by omega) (by simp; omega) B1.out.size ?_)
      intro v2 w2 ho2 hg2
      have b2 : Below w.heap.size w w2 := below_app B1.out (Below.refl _ _) B1.out.size O1.out hg2
      have B2 := Lib.hid b2
      have O2 := Lib.hid ho2
      clear b2 ho2 hg2
      go_wp2_with fail
      refine (l02Right_any 4 g d hf.2.1 b off len cap _ (by omega) (HF.out.keep B2.out (Nat.le_refl _))).mono ?_
      rintro e w' ⟨rfl, rfl⟩
      go_wp2_with fail
      refine (ID.out s b (off + (1 + g.sz) * 2) d.sz (cap - (1 + g.sz)) _ (by omega) (HF.out.keep B2.out (Nat.le_refl _)).right (by omega)).mono ?_
      rintro e w3 ⟨v3, rfl, ho3, hb3⟩
      obtain ⟨a3, c3', rfl, at3, -, -, -⟩ := ho3.at
      have O3 := Lib.hid (O2.out.keep hb3 (Nat.le_refl _))
      have B3 := Lib.hid (B2.out.trans (hb3.mono B2.out.size))
      rw [LD.out] at at3 ⊢
      have A3 := Lib.hid at3
      clear ho3 at3 hb3
      go_wp2_with (at_builtin; refine list_appI rfl _ _ rfl w.heap.size _ ([s] ++ g.pls (-s)) rfl O3.out (d.pls s) a3 _ c3' rfl A3.out (by omega) (by have := LG.out; simp; omega) B3.out.size ?_)
      intro v4 w4 ho4 hg4
      have b4 : Below w.heap.size w w4 := below_app B3.out (Below.refl _ _) B3.out.size O3.out hg4
      have B4 := Lib.hid b4
      have O4 := Lib.hid ho4
      clear b4 ho4 hg4
      go_wp2
      go_ret
      exact ⟨_, rfl, O4.out, B4.out⟩

end Go.Proofs.Ytbhgedabcclimaa
