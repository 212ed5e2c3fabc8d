/- Contracts of SubstituteFormula and ReplaceVariable of the model and of the program, at every argument. Conditions: those in the theorems. -/
import Derived.Test.YtbhgedabcclimaaSubst
import Derived.Test.YtbhgedabcclimaaOwnL
import Derived.Test.YtbhgedabcclimaaPut
namespace Go.Proofs.Ytbhgedabcclimaa
open Go.RowKit

def selfTo (k : Nat) : List (List Nd) := (List.range k).map fun (i : Nat) => [((0 : Int), (i : Int))]
theorem selfTo_len (k : Nat) : (selfTo k).length = k := by simp [selfTo]
theorem selfTo_succ (k : Nat) : selfTo (k + 1) = selfTo k ++ [[(0, (k : Int))]] := by simp [selfTo, List.range_succ]
theorem selfTo_at {k j : Nat} (h : j < k) : nthL (selfTo k) j = [(0, (j : Int))] := by
  unfold nthL selfTo
  simp [List.getD_eq_getElem?_getD, h]
theorem litL (w : World) (B : Nat) (hB : B ≤ w.heap.size) : OwnL (w.alloc (.cells #[] 26)) B (.slice (some ⟨w.heap.size, 0, none⟩) 0 0) [] :=
  ownL_row (World.ownsRow_lit w #[] 0 hB (by decide) rfl)
theorem subTo_congr {s s' : Int → List Nd} {xs : List Nd} {len : Nat} (ht : treeTo xs len = true) (h : ∀ q : Nat, q ≤ 5 → s q = s' q) : ∀ k, k ≤ len → subTo s xs k = subTo s' xs k := by
  intro k
  induction k with
  | zero => intro _; rfl
  | succ k ih =>
    intro hk
    obtain ⟨q, hq, hq5⟩ := sy_six ht (show k < len by omega)
    rw [subTo, subTo, ih (by omega), hq, h q hq5]
theorem is_treeTo' {xs : List Nd} (h : isB xs xs.length = true) : treeTo xs xs.length = true := by
  simp only [isB, treeB, Bool.and_eq_true] at h
  exact h.2.1.1
theorem bind_sub {xs bs : List Nd} {q : Nat} (ht : treeTo xs xs.length = true) (hq : q ≤ 5) : subTo (sgI ((selfTo 6).set q bs)) xs xs.length = subTo (sgB q bs) xs xs.length := by
  refine subTo_congr ht (fun p hp => ?_) _ (Nat.le_refl _)
  rw [sgI, Int.toNat_natCast, nthL_set (by rw [selfTo_len]; omega), sgB]
  by_cases e : p = q
  · rw [if_pos e, if_pos (by rw [e])]
  · rw [if_neg e, if_neg (by omega), selfTo_at (by omega)]

theorem l02Var1_any (s : Int) (w : World) : Calls Try.prog 131 #[.int .i64 s] w fun e w' => ∃ v, e = .returned v ∧ OwnN w' w.heap.size v [(0, s)] ∧ Below w.heap.size w w' := by
  go_enter Try.func131, Try.ntmps131
  go_wp2
  go_ret
  exact ⟨_, rfl, litN w _ 0 s (Nat.le_refl _), (Below.refl _ _).alloc (Nat.le_refl _) _⟩

set_option maxHeartbeats 1000000 in
theorem l03Self_any (w : World) : Calls Try.prog 106 #[] w fun e w' => ∃ v, e = .returned v ∧ OwnL w' w.heap.size v (selfTo 6) ∧ Below w.heap.size w w' := by
  have L0 := Lib.hid (litL w w.heap.size (Nat.le_refl _))
  have B0 := Lib.hid ((Below.refl w.heap.size w).alloc (Nat.le_refl _) (.cells #[] 26))
  go_enter Try.func106, Try.ntmps106
  go_wp2
  go_loopw [1, 2] (fun v i wr => ∃ j : Nat, j ≤ 6 ∧ i = .int .i64 j ∧ OwnL wr w.heap.size v (selfTo j) ∧ Below w.heap.size w wr) (fun _ i _ => 6 - (intOf i).toNat)
  case atStart => exact ⟨0, Nat.zero_le _, rfl, L0.out, B0.out⟩
  case round =>
    obtain ⟨k, hk, rfl, hown, hbel⟩ := hrel
    have HO := Lib.hid hown
    have B := Lib.hid hbel
    have LN := Lib.hid (selfTo_len k)
    clear hown hbel
    by_cases hlt : k < 6
    · have N := Lib.hid (selfTo_succ k)
      go_wp2_with fail
      refine (l02Var1_any _ _).mono ?_
      rintro e w1 ⟨v1, rfl, ho1, hb1⟩
      obtain ⟨a1, c1, rfl, -⟩ := ho1.at
      have O1 := Lib.hid ho1
      have B1 := Lib.hid hb1
      clear ho1 hb1
      go_wp2_with (at_builtin; refine list_appLL rfl _ _ rfl w.heap.size _ _ rfl HO.out B1.out _ _ O1.out ((Below.refl _ _).alloc (Nat.le_refl _) _) ⟨w1.heap.size, 0, none⟩ 1 rfl (World.cell?_alloc_at _ _ _ _ rfl) (by rw [LN.out]; omega) B.out.size ?_; intro v2 w2 ho2 hb2)
      have O2 := Lib.hid ho2
      have B2 := Lib.hid (B.out.trans hb2)
      clear ho2 hb2
      go_roundw
      case rel => exact ⟨k + 1, hlt, by go_num, by rw [N.out]; exact O2.out, B2.out⟩
      case measure => simp [intOf]; omega
    · obtain rfl : k = 6 := by omega
      go_wp2
      go_ret
      exact ⟨_, rfl, HO.out, B.out⟩

/-- Six short lists that are not empty. -/
def six (xss : List (List Nd)) : Prop := xss.length = 6 ∧ ∀ q : Nat, q ≤ 5 → 0 < (nthL xss q).length ∧ (nthL xss q).length ≤ 40
theorem six_self : six (selfTo 6) := ⟨selfTo_len 6, fun q hq => by rw [selfTo_at (by omega)]; simp⟩
theorem six_set {xss : List (List Nd)} {q : Nat} {bs : List Nd} (h : six xss) (h0 : 0 < bs.length) (h40 : bs.length ≤ 40) (hq : q ≤ 5) : six (xss.set q bs) := by
  refine ⟨by rw [List.length_set]; exact h.1, fun p hp => ?_⟩
  rw [nthL_set (by rw [h.1]; omega)]
  split
  · exact ⟨h0, h40⟩
  · exact h.2 p hp
theorem OwnL.img {w : World} {B : Nat} {v : Value} {xss : List (List Nd)} (h : OwnL w B v xss) (h6 : six xss) : ∃ g c, v = .slice (some ⟨g, 0, none⟩) 6 c ∧ Img w (some ⟨g, 0, none⟩) xss := by
  obtain ⟨us, h1, -, -⟩ := id h
  obtain ⟨g, c, hv, -⟩ := row_some h1 (by rw [h6.1]; omega)
  obtain ⟨a, cap, hv2, hat⟩ := h.at
  rw [hv] at hv2
  cases hv2
  refine ⟨g, c, by rw [hv, h6.1], ?_, h6.2⟩
  rw [h6.1] at hat
  exact hat

set_option maxHeartbeats 1000000 in
theorem l03Bind_any (bs : List Nd) (q b off len cap : Nat) (w : World) (hq : q ≤ 5) (h0 : 0 < len) (hl : len ≤ 40) (h : AtN w (some ⟨b, off, none⟩) len bs) :
    Calls Try.prog 65 #[.int .i64 q, .slice (some ⟨b, off, none⟩) len cap] w fun e w' => ∃ v, e = .returned v ∧ OwnL w' w.heap.size v ((selfTo 6).set q bs) ∧ Below w.heap.size w w' := by
  have H := Lib.hid h
  clear h
  go_enter Try.func65, Try.ntmps65
  go_wp2_with fail
  refine (l03Self_any _).mono ?_
  rintro e w1 ⟨v1, rfl, ho1, hb1⟩
  obtain ⟨g, c, rfl, -⟩ := ho1.img six_self
  have O1 := Lib.hid ho1
  have B1 := Lib.hid hb1
  clear ho1 hb1
  go_wp2_with fail
  refine (l02Own0_any bs _ _ len cap _ (by omega) (H.out.keep B1.out (Nat.le_refl _))).mono ?_
  rintro e w2 ⟨v2, rfl, ho2, hb2⟩
  obtain ⟨s1, s2, ⟨u, s3⟩, s4⟩ := O1.out.set (selfTo_len 6).symm (show q < 6 by omega) hb2 ho2 B1.out.size
  have S1 := Lib.hid s1
  have B2 := Lib.hid (B1.out.trans s2)
  obtain ⟨a2, c2, rfl, -⟩ := ho2.at
  clear s1 s2 ho2 hb2
  go_wp2
  go_ret
  exact ⟨_, rfl, S1.out, B2.out⟩

def isS (xss : List (List Nd)) : Bool := decide (xss.length = 6) && okAll xss xss.length
theorem isS_six {xss : List (List Nd)} (h : isS xss = true) : six xss := by
  simp only [isS, Bool.and_eq_true, decide_eq_true_eq] at h
  refine ⟨h.1, fun q hq => ?_⟩
  have := okAll_at h.2 (show q < xss.length by omega)
  exact is_pos' this
theorem isS_bad {xss : List (List Nd)} {j : Nat} (h : j < xss.length) (hi : isB (nthL xss j) (nthL xss j).length = false) : isS xss = false := by
  rw [isS, okAll_bad h hi, Bool.and_false]

set_option maxHeartbeats 1000000 in
theorem l03Is_any (xss : List (List Nd)) (a : Option Addr) (len cap : Nat) (w : World) (hl : len ≤ 1048576) (hi : ∀ j, j < len → (nthL xss j).length ≤ 1048576) (h : AtNN w a len xss) :
    Calls Try.prog 54 #[.slice a len cap] w fun e w' => e = .returned (.bool (isS xss)) ∧ w = w' := by
  have H := Lib.hid h
  have LI := Lib.hid hi
  have X := Lib.hid h.1
  clear h hi
  go_enter Try.func54, Try.ntmps54
  go_wp2
  go_loop [3] (fun i => ∃ (j : Nat), j ≤ len ∧ i = .int .i64 j ∧ Hid (okAll xss j = true)) (fun i => len - (intOf i).toNat)
  case atStart => exact ⟨0, Nat.zero_le _, rfl, (show _ = _ from rfl)⟩
  case round =>
    obtain ⟨j, hj, rfl, hok⟩ := hrel
    by_cases hlt : j < len
    · obtain ⟨b, off, rfl, hb, hc⟩ := H.out.2.resolve_left (by omega)
      obtain ⟨a1, cap1, hc1, hat1⟩ := hc j hlt
      have hn3 := LI.out j hlt
      obtain ⟨n, hn⟩ : ∃ n, n = (nthL xss j).length := ⟨_, rfl⟩
      rw [← hn] at hc1 hat1 hn3
      have N := Lib.hid hn
      have A1 := Lib.hid hat1
      clear hc hat1 hn
      cases hbb : isB (nthL xss j) n
      · have BB := Lib.hid hbb
        clear hbb
        have E := Lib.hid (isS_bad (xss := xss) (show j < xss.length by rw [← X.out]; exact hlt) (show isB (nthL xss j) (nthL xss j).length = false by rw [← N.out]; exact BB.out))
        go_wp2_with fail
        refine (l02Is_any _ _ _ _ _ hn3 A1.out).mono ?_
        rw [BB.out]
        rintro e w1 ⟨rfl, rfl⟩
        go_wp2
        go_ret
        exact ⟨ret_bool E.out.symm, rfl⟩
      · have BB := Lib.hid hbb
        clear hbb
        have OK := Lib.hid (okAll_succ hok.out (show isB (nthL xss j) (nthL xss j).length = true by rw [← N.out]; exact BB.out))
        go_wp2_with fail
        refine (l02Is_any _ _ _ _ _ hn3 A1.out).mono ?_
        rw [BB.out]
        rintro e w1 ⟨rfl, rfl⟩
        go_wp2
        go_round
        case rel => exact ⟨j + 1, hlt, by go_num, OK⟩
        case measure => simp [intOf]; omega
    · obtain rfl : j = len := by omega
      have OK := Lib.hid (show isS xss = decide (j = 6) by rw [isS, ← X.out, hok.out, Bool.and_true])
      clear hok
      by_cases h6 : j = 6
      · rw [decide_eq_true h6] at OK
        subst h6
        go_wp2
        go_ret
        exact ⟨ret_bool OK.out.symm, rfl⟩
      · rw [decide_eq_false h6] at OK
        have h6' : ((j : Int) == 6) = false := by simp; omega
        clear h6
        go_wp2
        go_ret
        exact ⟨ret_bool OK.out.symm, rfl⟩

set_option maxHeartbeats 1000000 in
theorem isSub_any (xss : List (List Nd)) (a : Option Addr) (len cap : Nat) (w : World) (hl : len ≤ 1048576) (hi : ∀ j, j < len → (nthL xss j).length ≤ 1048576) (h : AtNN w a len xss) :
    Calls Try.prog 59 #[.slice a len cap] w fun e w' => e = .returned (.bool (isS xss)) ∧ Below w.heap.size w w' := by
  have H := Lib.hid h
  have LI := Lib.hid hi
  have X := Lib.hid h.1
  clear h hi
  by_cases h6 : len = 6
  · have OK := Lib.hid (show isS xss = okAll xss len by rw [isS, ← X.out, decide_eq_true h6]; rfl)
    clear X
    subst h6
    go_enter Try.func59, Try.ntmps59
    go_wp2_with fail
    refine (areF_any _ _ _ _ _ (Nat.le_trans hl (by decide)) LI.out H.out).mono ?_
    rintro e w1 ⟨rfl, hb1⟩
    go_wp2
    go_ret
    exact ⟨ret_bool OK.out.symm, hb1⟩
  · have OK := Lib.hid (show isS xss = false by rw [isS, ← X.out, decide_eq_false h6]; rfl)
    have h6' : ((len : Int) == 6) = false := by simp; omega
    clear h6 X
    go_enter Try.func59, Try.ntmps59
    go_wp2
    go_ret
    exact ⟨ret_bool OK.out.symm, Below.refl _ _⟩

theorem subOf_any (a : Option Addr) (cap : Nat) (w : World) : Calls Try.prog 61 #[.slice a 6 cap] w fun e w' => e = .returned (.func (.func 105) #[] #[.pointer (some ⟨w.heap.size, 0, none⟩)]) ∧ w'.cell? ⟨w.heap.size, 0, none⟩ = some (.slice a 6 cap) ∧ w.heap.size < w'.heap.size ∧ Below w.heap.size w w' := by
  have hmf : ∀ (fn : Fn) (first cap : Array Value) (w : World), (Instr.makeFunc fn first cap).run Try.prog w = .ok (.func fn first cap) w := fun _ _ _ _ => rfl
  go_enter Try.func61, Try.ntmps61
  go_wp2
  go_ret
  exact ⟨rfl, World.cell?_alloc_at _ _ _ _ rfl, by simp, (Below.refl _ _).alloc (Nat.le_refl _) _⟩

theorem binding_any (x : Int) (a : Option Addr) (len cap : Nat) (w : World) : Calls Try.prog 67 #[.int .i64 x, .slice a len cap] w fun e w' => ∃ R R', e = .returned (.func (.func 108) #[] #[.pointer (some ⟨R, 0, none⟩), .pointer (some ⟨R', 0, none⟩)]) ∧ w'.cell? ⟨R, 0, none⟩ = some (.int .i64 x) ∧ w'.cell? ⟨R', 0, none⟩ = some (.slice a len cap) ∧ R < w'.heap.size ∧ R' < w'.heap.size ∧ Below w.heap.size w w' := by
  have hmf : ∀ (fn : Fn) (first cap : Array Value) (w : World), (Instr.makeFunc fn first cap).run Try.prog w = .ok (.func fn first cap) w := fun _ _ _ _ => rfl
  go_enter Try.func67, Try.ntmps67
  go_wp2
  go_ret
  refine ⟨_, _, rfl, ?_, World.cell?_alloc_at _ _ _ _ (by simp), by simp; omega, by simp, ((Below.refl _ _).alloc (Nat.le_refl _) _).alloc (by simp) _⟩
  rw [World.cell?_alloc_past _ _ _ (by simp)]
  exact World.cell?_alloc_at _ _ _ _ rfl

end Go.Proofs.Ytbhgedabcclimaa
