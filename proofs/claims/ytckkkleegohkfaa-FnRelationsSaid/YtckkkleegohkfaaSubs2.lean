/- Contracts of the model's SubMasks. Conditions: those in the theorems. -/
import Derived.Test.YtckkkleegohkfaaSubs
import Derived.Test.YtckkkleegohkfaaLaw
import Derived.Deep.AppendLies
namespace Go.Proofs.Ytckkkleegohkfaa
open Go.RowKit

theorem step_app1L {ops : Array Oper} {o : Oper} {a : Act} {w : World} {K : Act → World → Prop} {Q : Exit → Act → World → Prop} {E : Prop} (hgd : o.guard = none) (s x : Operand)
    (ho : o.op = .call { callee := .builtin .append, args := #[s, x], argTypes := #[26, 26] })
    (B : Nat) (v : Value) (n : Nat) (xs : List Value) (hs : a.eval s = v) (hown : w.ownsRow B 2 1 v n xs)
    (ad : Addr) (c : Nat) (z : Int) (hx : a.eval x = .slice (some ad) 1 c) (hz : w.cell? ad = some (.int .i64 z)) (hn : n ≤ 1099511627776) (hB : B ≤ w.heap.size)
    (h : ∀ g cap w', w'.ownsRow B 2 1 (.slice (some ⟨g, 0, none⟩) (n + 1) cap) (n + 1) (xs ++ [.int .i64 z]) → w.grownBy w' v.ownBlock → (v.ownBlock = some g ∨ g = w.heap.size) → K (a.put o.dst (.slice (some ⟨g, 0, none⟩) (n + 1) cap)) w') :
    if Region.wanted o (yielded ops a.tmps) = true then Oper.wp Try.prog o a w K Q else E := by
  obtain ⟨i0, hi, hz0, hz1, hz2⟩ := info_parts info64
  refine step_append_lies w hgd s x 26 ho B 2 i0 (.int .i64 0) 1 8 Try.underlying26 hi hz0 hz1 hz2 rfl (by decide) v n xs hs hown ad 1 c [.int .i64 z] hx rfl ?_ ?_ (by decide) (by unfold maxLen; omega) (by omega) hB w.heap.size rfl (fun g cap w' h1 h2 h3 _ => h g cap w' h1 h2 h3)
  · intro j u hu
    match j, hu with
    | 0, hu => simp at hu; subst hu; simpa [Addr.add] using hz
  · intro u hu
    simp at hu; subst hu; rfl

theorem OwnIn.apart {w w' : World} {lo hi : Nat} {v u : Value} {xs : List Int} (h : OwnIn w lo hi v xs) (hg : w.grownBy w' u.ownBlock) (hd : ∀ k, u.ownBlock = some k → k < lo ∨ hi ≤ k) : OwnIn w' lo hi v xs := by
  refine ⟨World.ownsRow.kept h.1 hg ?_, Nat.le_trans h.2.1 hg.size, h.2.2⟩
  cases hv : v.ownBlock with
  | none => exact .inl rfl
  | some k =>
    right
    intro e
    have h1 := h.2.2 k hv
    have h2 := hd k e.symm
    omega

theorem dbl (m i k : Nat) (hm : m < 1073741824) (hi : i < pop m) (hk : k < 2 ^ i) : bits .or .i64 (pdF m k) (one (mb 64 i m : Nat)) = pdF m (2 ^ i + k) ∧ nth (memTo m 30) i = ((mb 64 i m : Nat) : Int) ∧ mb 64 i m < 30 := by
  have h1 := pd_double 64 i k m (by omega) hi hk
  have h2 := memTo_nth 64 i m (by omega) hi
  rw [memTo_high (i := 30) (by omega) 64 (by decide)] at h2
  have h3 := mb_lt 30 i m (by omega) hi
  have h4 := memTo_nth 30 i m (by omega) hi
  have e : mb 64 i m = mb 30 i m := by rw [h2] at h4; omega
  have hle := pd_le 64 k m
  rw [e] at h1 ⊢
  refine ⟨?_, by rw [h2, e], h3⟩
  have hp : (2 : Nat) ^ mb 30 i m ≤ 2 ^ 30 := Nat.pow_le_pow_right (by decide) (by omega)
  rw [one_eq _ (by omega) (by omega), Int.toNat_natCast]
  unfold pdF
  rw [show ((2 : Int) ^ mb 30 i m) = ((2 ^ mb 30 i m : Nat) : Int) by simp, ior _ _ (by omega) (by omega), h1]

set_option maxHeartbeats 2000000 in
theorem l01Subs_any (m : Nat) (hm : m < 1073741824) (hp : pop m ≤ 8) (w : World) :
    Calls Try.prog 57 #[.int .i64 m] w fun e w' => ∃ v, e = .returned v ∧ Own w' w.heap.size v (tab (2 ^ pop m) (pdF m)) ∧ Below w.heap.size w w' := by
  have HD := Lib.hid (fun i k => dbl m i k hm)
  have HLEN : Hid ((memTo m 30).length = pop m) := memTo_pop 30 m (by omega)
  obtain ⟨c, hc⟩ : ∃ c, c = pop m := ⟨_, rfl⟩
  have hc8 : c ≤ 8 := by omega
  have HC := Lib.hid hc
  have hown0 : (w.alloc (.cells #[.int .i64 0] 2)).ownsRow w.heap.size 2 1 (.slice (some ⟨w.heap.size, 0, none⟩) 1 1) 1 ((tab 1 (pdF m)).map (Value.int .i64)) := by
    have e : (tab 1 (pdF m)).map (Value.int .i64) = [Value.int .i64 0] := by
      have : pdF m 0 = 0 := by unfold pdF; rw [pd_zero]; rfl
      simp [tab, this]
    rw [e]
    exact World.ownsRow_lit w #[.int .i64 0] 1 (Nat.le_refl _) (by unfold maxLen; omega) rfl
  have HO0 := Lib.hid hown0
  clear hown0 hc hp
  go_enter Try.func57, Try.ntmps57
  go_wp2_with fail
  refine (l01List_any m hm _).mono ?_
  rintro e w1 ⟨vm, rfl, hownm, hb1⟩
  have hs1 : w.heap.size + 1 ≤ w1.heap.size := by have := hb1.size; simpa using this
  have OM := Lib.hid hownm.inn
  have HO1 : Hid (w1.ownsRow w.heap.size 2 1 (.slice (some ⟨w.heap.size, 0, none⟩) 1 1) 1 ((tab 1 (pdF m)).map (Value.int .i64))) := by
    refine World.ownsRow.kept HO0.out (row := none) ⟨hb1.os, hb1.tape, hb1.output, hb1.size, fun k hk _ => hb1.block k hk⟩ ?_
    right; intro e; cases e
  have hB1 : Below w.heap.size w w1 := ((Below.refl w.heap.size w).alloc (Nat.le_refl _) _).trans (hb1.mono (by simp))
  obtain ⟨lo, hlo⟩ : ∃ lo, lo = (w.alloc (.cells #[.int .i64 0] 2)).heap.size := ⟨_, rfl⟩
  have hlo2 : lo = w.heap.size + 1 := by rw [hlo]; simp
  obtain ⟨hi, hhi⟩ : ∃ hi, hi = w1.heap.size := ⟨_, rfl⟩
  rw [← hlo, ← hhi] at OM
  have hlow : w.heap.size < lo := by omega
  have hhi1 : hi ≤ w1.heap.size := by omega
  clear hownm hb1 hlo hlo2 hhi
  obtain ⟨am, capm, hvm, -, -, -, -⟩ := OM.out.1.at
  rw [HLEN.out, ← HC.out] at hvm
  subst hvm
  go_wp2
  go_loopw [3, 5] (fun v i wr => ∃ t g cap N : Nat, t ≤ c ∧ N = 2 ^ t ∧ i = .int .i64 t ∧ v = .slice (some ⟨g, 0, none⟩) N cap ∧ (g < lo ∨ hi ≤ g) ∧ wr.ownsRow w.heap.size 2 1 (.slice (some ⟨g, 0, none⟩) N cap) N ((tab N (pdF m)).map (Value.int .i64)) ∧ OwnIn wr lo hi (.slice am c capm) (memTo m 30) ∧ Below w.heap.size w wr) (fun _ i _ => c - (intOf i).toNat)
  case atStart => exact ⟨0, w.heap.size, 1, 1, Nat.zero_le _, rfl, rfl, rfl, .inl hlow, HO1.out, OM.out, hB1⟩
  case round =>
    obtain ⟨t, g, cap, N, ht, hN, rfl, rfl, hg, hown, hom, hbel⟩ := hrel
    have HN := Lib.hid hN
    have HO := Lib.hid hown
    have HM := Lib.hid hom
    have HG := Lib.hid hg
    clear hN hown hom hg
    by_cases hlt : t < c
    · have hN8 : N ≤ 256 := by
        have : 2 ^ t ≤ 2 ^ 8 := Nat.pow_le_pow_right (by decide) (by omega)
        rw [HN.out]; omega
      obtain ⟨wo, rfl⟩ : ∃ wo : World, wo = wr := ⟨_, rfl⟩
      go_wp2
      go_loopw [3, 7] (fun v i wr => ∃ k g cap : Nat, k ≤ N ∧ i = .int .i64 k ∧ v = .slice (some ⟨g, 0, none⟩) (N + k) cap ∧ (g < lo ∨ hi ≤ g) ∧ wr.ownsRow w.heap.size 2 1 (.slice (some ⟨g, 0, none⟩) (N + k) cap) (N + k) ((tab (N + k) (pdF m)).map (Value.int .i64)) ∧ OwnIn wr lo hi (.slice am c capm) (memTo m 30) ∧ Below w.heap.size w wr) (fun _ i _ => N - (intOf i).toNat)
      case atStart => exact ⟨0, g, cap, Nat.zero_le _, rfl, rfl, HG.out, HO.out, HM.out, hbel⟩
      case round =>
        obtain ⟨k, g2, cap2, hk, rfl, rfl, hg2, hown2, hom2, hbel2⟩ := hrel
        by_cases hkn : k < N
        · obtain ⟨d1, d2, d3⟩ := HD.out t k (by rw [← HC.out]; exact hlt) (by rw [← HN.out]; exact hkn)
          rw [← HN.out] at d1
          obtain ⟨bi, hbi⟩ : ∃ bi, bi = mb 64 t m := ⟨_, rfl⟩
          rw [← hbi] at d1 d2 d3
          have hck : wr.cell? ⟨g2, k, none⟩ = some (.int .i64 (pdF m k)) := (hown2.cellAt k (by omega)).trans (tab_get (by omega))
          obtain ⟨a3, cap3, h3, hat3, -, -, -⟩ := hom2.1.at
          injection h3 with e1 e2 e3
          subst e1
          clear e2 e3
          obtain ⟨bm, offm, rfl, hbm, hcm⟩ := hat3.2.resolve_left (by rw [HLEN.out, ← HC.out]; omega)
          have hcm2 : wr.cell? ⟨bm, offm + t, none⟩ = some (.int .i64 bi) := (hcm t (by rw [HLEN.out, ← HC.out]; omega)).trans (by rw [d2])
          have D1 := Lib.hid d1
          have HO2 := Lib.hid hown2
          have HM2 := Lib.hid hom2
          have HG2 := Lib.hid hg2
          clear d1 d2 hbi hown2 hom2 hat3 hcm hg2 hbm
          have hkk : (k : Int) < (N : Int) + (k : Int) := by omega
          go_wp2
          go_region_law (first | (refine step_app1L rfl _ _ rfl w.heap.size _ (N + k) _ rfl (HO2.out.drew.alloc _) ⟨wr.heap.size, 0, none⟩ 1 _ rfl (World.cell?_alloc_at _ _ _ _ rfl) (by omega) (by have := hbel2.size; simp; omega) ?_; intro g3 cap3 w3 hown3 hgr3 hgg) | (go_simp; go_at_call 73; refine (l01One_any _ _ (by omega) (by omega)).mono ?_; rintro e w' ⟨rfl, rfl⟩))
          all_goals
            have HO3 := Lib.hid hown3
            have hb3 : Below w.heap.size w w3 := below_app hbel2 (((Below.refl _ _).alloc hbel2.size _).drew) hbel2.size HO2.out hgr3
            have HM3 := Lib.hid ((HM2.out.below (((Below.refl _ _).alloc HM2.out.2.1 _).drew) (Nat.le_refl _)).apart hgr3 (fun k hk => by cases hk; exact HG2.out))
            have HG3 : Hid (g3 < lo ∨ hi ≤ g3) := by
              rcases hgg with hgg | hgg
              · cases hgg; exact HG2.out
              · right; rw [hgg]; have := HM2.out.2.1; simp; omega
            clear hown3 hgr3 hgg
            go_wp2
            go_roundw
            case rel => exact ⟨k + 1, g3, cap3, hkn, by go_num, rfl, HG3.out, (by have ho := HO3.out; rw [D1.out, show [Value.int .i64 (pdF m (N + k))] = [pdF m (N + k)].map (Value.int .i64) from rfl, ← List.map_append, ← tab_succ] at ho; exact ho), HM3.out, hb3⟩
            case measure => simp [intOf]; omega
        · obtain rfl : k = N := by omega
          have HO2 := Lib.hid hown2
          have HM2 := Lib.hid hom2
          have HG2 := Lib.hid hg2
          have hNN : k + k = 2 ^ (t + 1) := by rw [HN.out, Nat.pow_succ]; omega
          have HNN := Lib.hid hNN
          clear hown2 hom2 hg2 hNN
          go_wp2
          go_roundw
          case rel => exact ⟨t + 1, g2, cap2, k + k, hlt, HNN.out, by go_num, rfl, HG2.out, HO2.out, HM2.out, hbel2⟩
          case measure => simp [intOf]; omega
    · obtain rfl : t = c := by omega
      go_wp2
      go_ret
      refine ⟨_, rfl, ?_, hbel⟩
      unfold Own
      rw [tab_len, ← HC.out, ← HN.out]
      exact HO.out

set_option maxHeartbeats 1000000 in
theorem specSubMasks_any (n m : Int) (w : World) :
    Calls Try.prog 20 #[.int .i64 n, .int .i64 m] w fun e w' => ∃ v, e = .returned (.tuple #[v, .int .i64 (smC n m)]) ∧ Own w' w.heap.size v (outL (smC n m) (smL m)) ∧ Below w.heap.size w w' := by
  by_cases h0 : cod n m = 0
  · have hz := cod_zero h0
    obtain ⟨k, rfl⟩ := Int.eq_ofNat_of_zero_le hz.2.2.1
    have hk : k < 1073741824 := by have := hz.2.2.2.2; omega
    clear hz
    obtain ⟨p, hpp⟩ : ∃ p, p = pop k := ⟨_, rfl⟩
    have HPP := Lib.hid hpp
    have H0 := Lib.hid h0
    clear hpp h0
    by_cases hp8 : p ≤ 8
    · go_enter Try.func20, Try.ntmps20
      go_wp2_with (first | (go_at_call 55; refine (l01Code_any _ _ _).mono ?_; rw [H0.out]; rintro e w' ⟨rfl, rfl⟩) | (go_at_call 56; refine (l01Bits_any _ hk _).mono ?_; rw [← HPP.out]; rintro e w' ⟨rfl, rfl⟩) | (go_at_call 57; refine (l01Subs_any _ hk (by rw [← HPP.out]; exact hp8) _).mono ?_; rintro e w1 ⟨v, rfl, hown, hb⟩; have HO := Lib.hid hown; clear hown))
      go_ret2
      have hc := smC_ok H0.out (by rw [← HPP.out]; exact hp8)
      exact ⟨_, out_ok hc, Own.ok hc HO.out, hb⟩
    · have hp9 : 8 < p := by omega
      go_enter Try.func20, Try.ntmps20
      go_wp2_with (first | (go_at_call 55; refine (l01Code_any _ _ _).mono ?_; rw [H0.out]; rintro e w' ⟨rfl, rfl⟩) | (go_at_call 56; refine (l01Bits_any _ hk _).mono ?_; rw [← HPP.out]; rintro e w' ⟨rfl, rfl⟩))
      go_ret2
      have hc := smC_big H0.out (by rw [← HPP.out]; exact hp9)
      exact ⟨_, by rw [hc]; rfl, Own.nil (by rw [hc]; decide), Below.refl _ _⟩
  · have H0 := Lib.hid h0
    clear h0
    obtain ⟨c, hc⟩ : ∃ c, c = cod n m := ⟨_, rfl⟩
    have hcn : (c == 0) = false := by rw [hc]; simpa using H0.out
    have hcn2 : (c != 0) = true := by rw [hc]; simpa using H0.out
    have HC := Lib.hid hc
    clear hc
    go_enter Try.func20, Try.ntmps20
    go_wp2_with (first | (go_at_call 55; refine (l01Code_any _ _ _).mono ?_; rw [← HC.out]; rintro e w' ⟨rfl, rfl⟩))
    go_ret2
    exact ⟨_, by rw [smC_bad H0.out, ← HC.out]; rfl, Own.nil (smC_ne H0.out), Below.refl _ _⟩

theorem smL_len (n m : Int) : (outL (smC n m) (smL m)).length ≤ 1048576 := by
  unfold outL
  split
  · rename_i h
    unfold smL
    rw [tab_len]
    have h0 : cod n m = 0 := Classical.byContradiction fun hc => smC_ne hc h
    have hp : pop m.toNat ≤ 8 := Classical.byContradiction fun hc => by
      rw [smC, if_pos h0, if_pos (by omega)] at h
      cases h
    have : 2 ^ pop m.toNat ≤ 2 ^ 8 := Nat.pow_le_pow_right (by decide) hp
    omega
  · simp

end Go.Proofs.Ytckkkleegohkfaa
