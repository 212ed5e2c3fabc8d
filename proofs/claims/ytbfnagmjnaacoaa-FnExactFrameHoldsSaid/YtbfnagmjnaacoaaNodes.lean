/- Contracts of the model's functions that read a list of nodes: where a part ends, whether a list is a formula. Conditions: those in the theorems. -/
import Derived.Test.YtbfnagmjnaacoaaBase
namespace Go.Proofs.Ytbfnagmjnaacoaa
open Go.RowKit

/-- A node: its kind and its symbol. -/
abbrev Nd := Int × Int
def kd (xs : List Nd) (i : Nat) : Int := (xs.getD i (0, 0)).1
def sy (xs : List Nd) (i : Nat) : Int := (xs.getD i (0, 0)).2

/-- The list of nodes xs lies at the slice value (a, len): no element, or cells in a row, two for each node. -/
def AtN (w : World) (a : Option Addr) (len : Nat) (xs : List Nd) : Prop :=
  len = xs.length ∧ (len = 0 ∨ ∃ b off, a = some ⟨b, off, none⟩ ∧ b < w.heap.size ∧ ∀ j, j < len → w.cell? ⟨b, off + j * 2, none⟩ = some (.int .i64 (kd xs j)) ∧ w.cell? ⟨b, off + j * 2 + 1, none⟩ = some (.int .i64 (sy xs j)))

def prt (k : Int) : Int := if k = 2 ∨ k = 3 ∨ k = 4 then 2 else if k = 5 ∨ k = 6 then 1 else 0
theorem prt_bd (k : Int) : 0 ≤ prt k ∧ prt k ≤ 2 := by unfold prt; split <;> (try split) <;> omega

set_option maxHeartbeats 400000 in
theorem l02Parts_any (k : Int) (w : World) : Calls Try.prog 172 #[.int .i64 k] w fun e w' => e = .returned (.int .i64 (prt k)) ∧ w = w' := by
  by_cases h : k = 2 ∨ k = 3 ∨ k = 4 ∨ k = 5 ∨ k = 6
  · rcases h with rfl | rfl | rfl | rfl | rfl
    all_goals
      go_enter Try.func172, Try.ntmps172
      go_wp2
      go_ret
      exact ⟨rfl, rfl⟩
  · have e2 : (k == 2) = false := by simp; omega
    have e3 : (k == 3) = false := by simp; omega
    have e4 : (k == 4) = false := by simp; omega
    have e5 : (k == 5) = false := by simp; omega
    have e6 : (k == 6) = false := by simp; omega
    have HP : Hid (prt k = 0) := by show prt k = 0; unfold prt; rw [if_neg (by omega), if_neg (by omega)]
    clear h
    go_enter Try.func172, Try.ntmps172
    go_wp2
    go_ret
    exact ⟨ret_int HP.out.symm, rfl⟩

/-- Where a part ends, told from index i on with o parts open; -1 if the list ends first. -/
def pe (xs : List Nd) : Nat → Int → Nat → Int
  | 0, o, i => if o ≤ 0 then i else -1
  | f + 1, o, i => if o ≤ 0 then i else pe xs f (o - 1 + prt (kd xs i)) (i + 1)

set_option maxHeartbeats 400000 in
theorem l02Part_any (xs : List Nd) (a : Option Addr) (len cap i : Nat) (w : World) (hl : len ≤ 1048576) (hi : i ≤ len) (h : AtN w a len xs) :
    Calls Try.prog 154 #[.slice a len cap, .int .i64 i] w fun e w' => e = .returned (.int .i64 (pe xs (len - i) 1 i)) ∧ w = w' := by
  have H := Lib.hid h
  clear h
  go_enter Try.func154, Try.ntmps154
  go_wp2
  go_loop [1, 5] (fun i' o => ∃ k p : Nat, i ≤ k ∧ k ≤ len ∧ p ≤ 1 + 2 * k ∧ i' = .int .i64 k ∧ o = .int .i64 p ∧ pe xs (len - k) p k = pe xs (len - i) 1 i) (fun i' _ => len - (intOf i').toNat)
  case atStart => exact ⟨i, 1, Nat.le_refl _, hi, by omega, rfl, rfl, rfl⟩
  case round =>
    obtain ⟨k, p, hik, hk, hp, rfl, rfl, he⟩ := hrel
    have HE := Lib.hid he
    clear he
    by_cases h0 : 0 < p
    · by_cases hlt : k < len
      · obtain ⟨b, off, rfl, hb, hc⟩ := H.out.2.resolve_left (by omega)
        have hc1 := (hc k hlt).1
        clear hc
        have hb2 := prt_bd (kd xs k)
        obtain ⟨q, hq⟩ := Int.eq_ofNat_of_zero_le hb2.1
        have hq2 : q ≤ 2 := by omega
        have HQ := Lib.hid hq
        have hstep : pe xs (len - k) p k = pe xs (len - (k + 1)) (p - 1 + prt (kd xs k)) (k + 1) := by
          rw [show len - k = (len - (k + 1)) + 1 by omega, pe, if_neg (by omega)]
        have HST := Lib.hid hstep
        clear hb2 hq hstep
        go_wp2_with (go_at_call 172; refine (l02Parts_any _ _).mono ?_; rw [HQ.out]; rintro e w' ⟨rfl, rfl⟩)
        go_round
        case rel => exact ⟨k + 1, p - 1 + q, by omega, hlt, by omega, by go_num, by congr 1; omega, by rw [← HE.out, HST.out, HQ.out]; congr 1; omega⟩
        case measure => simp [intOf]; omega
      · obtain rfl : k = len := by omega
        have hv : pe xs (k - i) 1 i = -1 := by rw [← HE.out, Nat.sub_self, pe, if_neg (by omega)]
        have HV := Lib.hid hv
        clear hv
        go_wp2
        go_ret
        exact ⟨ret_int HV.out.symm, rfl⟩
    · obtain rfl : p = 0 := by omega
      have hv : pe xs (len - i) 1 i = k := by
        rw [← HE.out]
        cases hlk : len - k <;> (rw [pe, if_pos (by omega)])
      have HV := Lib.hid hv
      clear hv
      go_wp2
      go_ret
      exact ⟨ret_int HV.out.symm, rfl⟩

def okN (k s : Int) : Bool := inB k 0 6 && inB s 0 5 && (k == 0 || s == 0)
def treeTo (xs : List Nd) : Nat → Bool
  | 0 => true
  | i + 1 => treeTo xs i && okN (kd xs i) (sy xs i)
def treeB (xs : List Nd) (len : Nat) : Bool := treeTo xs len && decide (0 < len) && (pe xs len 1 0 == (len : Int))
def isB (xs : List Nd) (len : Nat) : Bool := decide (len ≤ 40) && treeB xs len
theorem treeTo_false {xs : List Nd} {k l : Nat} (hk : k ≤ l) (h : treeTo xs k = false) : treeTo xs l = false := by
  induction l with
  | zero => simp at hk; subst hk; exact h
  | succ l ih =>
    by_cases e : k = l + 1
    · subst e; exact h
    · rw [treeTo, ih (by omega)]; rfl
theorem tree_bad {xs : List Nd} {len k : Nat} (hk : k < len) (h : okN (kd xs k) (sy xs k) = false) : treeB xs len = false := by
  have h1 : treeTo xs (k + 1) = false := by rw [treeTo, h, Bool.and_false]
  rw [treeB, treeTo_false (k := k + 1) hk h1]; rfl

set_option maxHeartbeats 1000000 in
theorem l02Tree_any (xs : List Nd) (a : Option Addr) (len cap : Nat) (w : World) (hl : len ≤ 1048576) (h : AtN w a len xs) :
    Calls Try.prog 118 #[.slice a len cap] w fun e w' => e = .returned (.bool (treeB xs len)) ∧ w = w' := by
  have H := Lib.hid h
  clear h
  go_enter Try.func118, Try.ntmps118
  go_wp2
  go_loop [3] (fun i => ∃ k : Nat, k ≤ len ∧ i = .int .i64 k ∧ treeTo xs k = true) (fun i => len - (intOf i).toNat)
  case atStart => exact ⟨0, Nat.zero_le _, rfl, rfl⟩
  case round =>
    obtain ⟨k, hk, rfl, ht⟩ := hrel
    have HT := Lib.hid ht
    clear ht
    by_cases hlt : k < len
    · obtain ⟨b, off, rfl, hb, hc⟩ := H.out.2.resolve_left (by omega)
      obtain ⟨hc1, hc2⟩ := hc k hlt
      clear hc
      obtain ⟨x, hx⟩ : ∃ x, x = kd xs k := ⟨_, rfl⟩
      obtain ⟨y, hy⟩ : ∃ y, y = sy xs k := ⟨_, rfl⟩
      rw [← hx] at hc1
      rw [← hy] at hc2
      have HB : okN x y = false → treeB xs len = false := fun h => tree_bad hlt (by rw [← hx, ← hy]; exact h)
      have HO : okN x y = true → treeTo xs (k + 1) = true := fun h => by rw [treeTo, HT.out, ← hx, ← hy, h]; rfl
      have HBH := Lib.hid HB
      have HOH := Lib.hid HO
      clear HB HO hx hy
      cases h1 : inB x 0 6
      · go_wp2_with (go_at_call 103; refine (l01In_any _ _ _ _).mono ?_; rintro e w' ⟨rfl, rfl⟩)
        go_ret
        exact ⟨ret_bool (HBH.out (by simp [okN, h1])).symm, rfl⟩
      · cases h2 : inB y 0 5
        · go_wp2_with (go_at_call 103; refine (l01In_any _ _ _ _).mono ?_; rintro e w' ⟨rfl, rfl⟩)
          go_ret
          exact ⟨ret_bool (HBH.out (by simp [okN, h2])).symm, rfl⟩
        · cases h3 : (x == 0)
          · have h3' : (x != 0) = true := by simp at h3 ⊢; exact h3
            cases h4 : (y == 0)
            · have h4' : (y != 0) = true := by simp at h4 ⊢; exact h4
              go_wp2_with (go_at_call 103; refine (l01In_any _ _ _ _).mono ?_; rintro e w' ⟨rfl, rfl⟩)
              go_ret
              exact ⟨ret_bool (HBH.out (by simp only [okN, h3, h4, Bool.or_false, Bool.and_false])).symm, rfl⟩
            · have h4' : (y != 0) = false := by simp at h4 ⊢; exact h4
              have HK := Lib.hid (HOH.out (by simp only [okN, h1, h2, h3, h4, Bool.or_true, Bool.and_true]))
              go_wp2_with (go_at_call 103; refine (l01In_any _ _ _ _).mono ?_; rintro e w' ⟨rfl, rfl⟩)
              go_round
              case rel => exact ⟨k + 1, hlt, by go_num, HK.out⟩
              case measure => simp [intOf]; omega
          · have h3' : (x != 0) = false := by simp at h3 ⊢; exact h3
            have HK := Lib.hid (HOH.out (by simp only [okN, h1, h2, h3, Bool.true_or, Bool.and_true]))
            go_wp2_with (go_at_call 103; refine (l01In_any _ _ _ _).mono ?_; rintro e w' ⟨rfl, rfl⟩)
            go_round
            case rel => exact ⟨k + 1, hlt, by go_num, HK.out⟩
            case measure => simp [intOf]; omega
    · obtain rfl : k = len := by omega
      by_cases h0 : 0 < k
      · obtain ⟨q, hq⟩ : ∃ q, q = pe xs k 1 0 := ⟨_, rfl⟩
        have HQ := Lib.hid hq
        clear hq
        go_wp2_with (go_at_call 154; refine (l02Part_any xs _ _ _ 0 _ hl (Nat.zero_le _) H.out).mono ?_; rw [Nat.sub_zero, ← HQ.out]; rintro e w' ⟨rfl, rfl⟩)
        go_ret
        refine ⟨ret_bool ?_, rfl⟩
        rw [treeB, HT.out, ← HQ.out, decide_eq_true h0]
        rfl
      · have hv : treeB xs k = false := by rw [treeB, decide_eq_false h0, Bool.and_false]; rfl
        have HV := Lib.hid hv
        clear hv
        go_wp2
        go_ret
        exact ⟨ret_bool HV.out.symm, rfl⟩

set_option maxHeartbeats 400000 in
theorem l02Is_any (xs : List Nd) (a : Option Addr) (len cap : Nat) (w : World) (hl : len ≤ 1048576) (h : AtN w a len xs) :
    Calls Try.prog 64 #[.slice a len cap] w fun e w' => e = .returned (.bool (isB xs len)) ∧ w = w' := by
  have H := Lib.hid h
  clear h
  by_cases h40 : len ≤ 40
  · go_enter Try.func64, Try.ntmps64
    go_wp2_with (go_at_call 118; refine (l02Tree_any xs _ _ _ _ hl H.out).mono ?_; rintro e w' ⟨rfl, rfl⟩)
    go_ret
    exact ⟨ret_bool (by rw [isB, decide_eq_true h40]; rfl), rfl⟩
  · go_enter Try.func64, Try.ntmps64
    go_wp2
    go_ret
    exact ⟨ret_bool (by rw [isB, decide_eq_false h40]; rfl), rfl⟩

end Go.Proofs.Ytbfnagmjnaacoaa
