/- 2 texts in one: Subs2, LawMasks. -/
import Derived.Deep.AppendLies
import Derived.Test.YtfkahkhmnchnjaaDoorSubs
import Derived.Test.YtfkahkhmnchnjaaDoorJn07
import Derived.Test.YtfkahkhmnchnjaaDoorDraw2
/- Contracts of the model's SubMasks. Conditions: those in the theorems. -/
namespace Go.Proofs.YtfkahkhmnchnjaaDoor
open Go.RowKit

theorem step_app1L {ops : Array Oper} {o : Oper} {a : Act} {w : World} {K : Act → World → Prop} {Q : Exit → Act → World → Prop} {E : Prop} (hgd : o.guard = none) (s x : Operand)
    (ho : o.op = .call { callee := .builtin .append, args := #[s, x], argTypes := #[26, 26] })
    (B : Nat) (v : Value) (n : Nat) (xs : List Value) (hs : a.eval s = v) (hown : w.ownsRow B 2 1 v n xs)
    (ad : Addr) (c : Nat) (z : Int) (hx : a.eval x = .slice (some ad) 1 c) (hz : w.cell? ad = some (.int .i64 z)) (hn : n ≤ 1099511627776) (hB : B ≤ w.heap.size)
    (h : ∀ g cap w', w'.ownsRow B 2 1 (.slice (some ⟨g, 0, none⟩) (n + 1) cap) (n + 1) (xs ++ [.int .i64 z]) → w.grownBy w' v.ownBlock → (v.ownBlock = some g ∨ g = w.heap.size) → K (a.put o.dst (.slice (some ⟨g, 0, none⟩) (n + 1) cap)) w') :
    if Region.wanted o (yielded ops a.tmps) = true then Oper.wp Tryd.prog o a w K Q else E := by
  obtain ⟨i0, hi, hz0, hz1, hz2⟩ := info_parts info64
  refine step_append_lies w hgd s x 26 ho B 2 i0 (.int .i64 0) 1 8 Tryd.underlying26 hi hz0 hz1 hz2 rfl (by decide) v n xs hs hown ad 1 c [.int .i64 z] hx rfl ?_ ?_ (by decide) (by unfold maxLen; omega) (by omega) hB w.heap.size rfl (fun g cap w' h1 h2 h3 _ => h g cap w' h1 h2 h3)
  · intro j u hu
    match j, hu with
    | 0, hu => simp at hu; subst hu; simpa [Addr.add] using hz
  · intro u hu
    simp at hu; subst hu; rfl

theorem OwnIn.apart {w w' : World} {lo hi : Nat} {v u : Value} {xs : List Int} (h : OwnIn w lo hi v xs) (hg : w.grownBy w' u.ownBlock) (hd : ∀ k, u.ownBlock = some k → k < lo ∨ hi ≤ k) : OwnIn w' lo hi v xs := by
  refine ⟨World.ownsRow.kept h.1 hg ?_, Nat.le_trans h.2.1 hg.size, h.2.2⟩
  cases hv : v.ownBlock with
  | none => exact .inl rfl
  | some k =>
    right
    intro e
    have h1 := h.2.2 k hv
    have h2 := hd k e.symm
    omega

theorem dbl (m i k : Nat) (hm : m < 1073741824) (hi : i < pop m) (hk : k < 2 ^ i) : bits .or .i64 (pdF m k) (one (mb 64 i m : Nat)) = pdF m (2 ^ i + k) ∧ nth (memTo m 30) i = ((mb 64 i m : Nat) : Int) ∧ mb 64 i m < 30 := by
  have h1 := pd_double 64 i k m (by omega) hi hk
  have h2 := memTo_nth 64 i m (by omega) hi
  rw [memTo_high (i := 30) (by omega) 64 (by decide)] at h2
  have h3 := mb_lt 30 i m (by omega) hi
  have h4 := memTo_nth 30 i m (by omega) hi
  have e : mb 64 i m = mb 30 i m := by rw [h2] at h4; omega
  have hle := pd_le 64 k m
  rw [e] at h1 ⊢
  refine ⟨?_, by rw [h2, e], h3⟩
  have hp : (2 : Nat) ^ mb 30 i m ≤ 2 ^ 30 := Nat.pow_le_pow_right (by decide) (by omega)
  rw [one_eq _ (by omega) (by omega), Int.toNat_natCast]
  unfold pdF
  rw [show ((2 : Int) ^ mb 30 i m) = ((2 ^ mb 30 i m : Nat) : Int) by simp, ior _ _ (by omega) (by omega), h1]

theorem smL_len (n m : Int) : (outL (smC n m) (smL m)).length ≤ 1048576 := by
  unfold outL
  split
  · rename_i h
    unfold smL
    rw [tab_len]
    have h0 : cod n m = 0 := Classical.byContradiction fun hc => smC_ne hc h
    have hp : pop m.toNat ≤ 8 := Classical.byContradiction fun hc => by
      rw [smC, if_pos h0, if_pos (by omega)] at h
      cases h
    have : 2 ^ pop m.toNat ≤ 2 ^ 8 := Nat.pow_le_pow_right (by decide) hp
    omega
  · simp

end Go.Proofs.YtfkahkhmnchnjaaDoor

/- The walk of the law FnMasks, with what it needs of masks and their members. Conditions: those in the theorems. -/
namespace Go.Proofs.YtfkahkhmnchnjaaDoor
open Go.RowKit

set_option maxHeartbeats 400000 in
theorem likeInts_any (xs : List Int) (a a' : Option Addr) (len cap cap' : Nat) (w : World) (hl : len ≤ 1048576) (h : At w a len xs) (h' : At w a' len xs) :
    Calls Tryd.prog 8 #[.slice a len cap, .slice a' len cap'] w (SomeDrew w fun e => e = .returned (.bool true)) := by
  obtain ⟨hlen, ha⟩ := h
  obtain ⟨hlen', ha'⟩ := h'
  by_cases hz : len = 0
  · subst hz
    clear hlen hlen' ha ha'
    go_enter Tryd.func8, Tryd.ntmps8
    go_wp2
    refine wp_loop_rounds 1 ?_
    rw [rounds_succ]
    go_wp2
    go_ret
    exact ⟨rfl, 0, rfl⟩
  · obtain ⟨b, off, rfl, hb, hc⟩ := ha.resolve_left hz
    obtain ⟨b', off', rfl, hb', hc'⟩ := ha'.resolve_left hz
    clear hlen hlen' ha ha' hb hb' hz
    go_enter Tryd.func8, Tryd.ntmps8
    go_wp2
    go_loopw [5] (fun i wr => ∃ k q : Nat, k ≤ len ∧ i = .int .i64 k ∧ wr = w.drewN q) (fun i _ => len - (intOf i).toNat)
    case atStart => exact ⟨0, 0, Nat.zero_le _, rfl, rfl⟩
    case round =>
      obtain ⟨k, q, hk, rfl, rfl⟩ := hrel
      by_cases hlt : k < len
      · have hcell := hc k hlt
        have hcell' := hc' k hlt
        clear hc hc'
        go_wp2
        go_quiet (fail)
        go_wp2
        go_roundw
        case rel => exact ⟨k + 1, _, hlt, by go_num, rfl⟩
        case measure => simp [intOf]; omega
      · obtain rfl : k = len := by omega
        clear hc hc'
        go_wp2
        go_ret
        exact ⟨rfl, _, rfl⟩

theorem like_own (xs : List Int) (v v' : Value) (lo hi lo' hi' : Nat) (w : World) (hl : xs.length ≤ 1048576) (h : OwnIn w lo hi v xs) (h' : OwnIn w lo' hi' v' xs) :
    Calls Tryd.prog 8 #[v, v'] w (SomeDrew w fun e => e = .returned (.bool true)) := by
  obtain ⟨a, cap, rfl, hat, -, -, -⟩ := h.1.at
  obtain ⟨a', cap', rfl, hat', -, -, -⟩ := h'.1.at
  exact likeInts_any xs a a' xs.length cap cap' w hl hat hat'

theorem big_no (a : Option Addr) (len cap : Nat) (w : World) (h : len ≤ 4096) : Calls Tryd.prog 4 #[.slice a len cap] w fun e w' => e = .returned (.bool false) ∧ w = w' := by
  go_enter Tryd.func4, Tryd.ntmps4
  go_wp2
  go_ret
  exact ⟨ret_bool (decide_eq_false (by omega)), rfl⟩
theorem big_yes (a : Option Addr) (len cap : Nat) (w : World) (h : 4096 < len) : Calls Tryd.prog 4 #[.slice a len cap] w fun e w' => e = .returned (.bool true) ∧ w = w' := by
  go_enter Tryd.func4, Tryd.ntmps4
  go_wp2
  go_ret
  exact ⟨ret_bool (decide_eq_true (by omega)), rfl⟩

/-! The mask of a mask's members is the mask. -/
theorem mo_snoc (n : Int) (xs : List Int) (z : Int) : ∀ k, k ≤ xs.length → mo n (xs ++ [z]) k = mo n xs k
  | 0, _ => rfl
  | k + 1, h => by rw [mo, mo, mo_snoc n xs z k (by omega), nth_left _ _ _ (by omega)]
theorem moB_snoc (n : Int) (xs : List Int) (z : Int) : ∀ k, k ≤ xs.length → moB n (xs ++ [z]) k = moB n xs k
  | 0, _ => rfl
  | k + 1, h => by rw [moB, moB, moB_snoc n xs z k (by omega), nth_left _ _ _ (by omega)]
theorem mo_mem (n : Int) (m : Nat) (w : Nat) (hw : w ≤ 30) : mo n (memTo m w) (memTo m w).length = ((m % 2 ^ w : Nat) : Int) := by
  induction w with
  | zero => simp [memTo, mo, Nat.mod_one]
  | succ w ih =>
    have ih := ih (by omega)
    have hq : m % 2 ^ (w + 1) = m % 2 ^ w + 2 ^ w * (m / 2 ^ w % 2) := by rw [Nat.pow_succ, Nat.mod_mul]
    rw [memTo]
    cases hb : bitN m w
    · have : m / 2 ^ w % 2 = 0 := by
        have : ¬ m / 2 ^ w % 2 = 1 := by simpa [bitN] using hb
        omega
      rw [if_neg (by simp), ih, hq, this]
      simp
    · have h1 : m / 2 ^ w % 2 = 1 := by simpa [bitN] using hb
      have hlt : m % 2 ^ w < 2 ^ w := Nat.mod_lt _ (Nat.two_pow_pos w)
      have hp : 2 ^ w ≤ 2 ^ 30 := Nat.pow_le_pow_right (by decide) (by omega)
      rw [if_pos rfl, List.length_append, List.length_singleton, mo, mo_snoc _ _ _ _ (Nat.le_refl _), nth_snoc _ _ _ rfl, ih, one_eq _ (by omega) (by omega), Int.toNat_natCast, show ((2 : Int) ^ w) = ((2 ^ w : Nat) : Int) by simp, ior _ _ (by omega) (by omega), hq, h1]
      have h5 := Nat.two_pow_add_eq_or_of_lt hlt 1
      rw [Nat.mul_one] at h5
      rw [Nat.or_comm, Nat.mul_one, ← h5, Nat.add_comm]
theorem moB_mem (j : Nat) (m : Nat) (w : Nat) (hw : w ≤ j) : moB j (memTo m w) (memTo m w).length = true := by
  induction w with
  | zero => rfl
  | succ w ih =>
    have ih := ih (by omega)
    rw [memTo]
    cases hb : bitN m w
    · simpa using ih
    · rw [if_pos rfl, List.length_append, List.length_singleton, moB, moB_snoc _ _ _ _ (Nat.le_refl _), nth_snoc _ _ _ rfl, ih, inB]
      simp
      omega
theorem mo_back {k j : Nat} (hj : j ≤ 30) (hk : k < 2 ^ j) : moR j (memTo k j) (memTo k j).length = .tuple #[.int .i64 k, .int .i64 0] := by
  have h1 := mo_mem j k j hj
  have h2 := moB_mem j k j (Nat.le_refl _)
  have h3 : inB (j : Int) 0 30 = true := by simp [inB]; omega
  rw [Nat.mod_eq_of_lt hk] at h1
  unfold moR moV moC
  rw [h2, h3, h1]
  rfl

theorem cod_range (n m : Int) : cod n m = 0 ∨ cod n m = 1 ∨ cod n m = 2 := by
  unfold cod
  split
  · split
    · exact .inl rfl
    · exact .inr (.inl rfl)
  · exact .inr (.inr rfl)

end Go.Proofs.YtfkahkhmnchnjaaDoor
