/- 3 texts in one: Base, Reads, Nodes. -/
import Derived.WalkKit
import Derived.WalkSpells
import Derived.WalkLawsBesides
import Derived.Deep.QuietTactic
import Derived.BigQuiet
import Derived.Lib.Hide
import Derived.ProofKit
import Derived.OpenShut
import Derived.Test.YtfkdefmafhlmnaaRows
/- Contracts of the small functions of chapter 1 that only compute: what each returns, for every argument that is named. Conditions: none but those in the theorems. -/
namespace Go.Proofs.Ytfkdefmafhlmnaa
open Go.RowKit

theorem ret_int {k : IntKind} {a b : Int} (h : a = b) : Ending.returned (.int k a) = .returned (.int k b) := by rw [h]
theorem ret_bool {a b : Bool} (h : a = b) : Ending.returned (.bool a) = .returned (.bool b) := by rw [h]
/-- A callee that leaves the world alone, or only draws, met inside a quiet region. -/
theorem q_same {P : Program} {F : FuncId} {args : Array Value} {W : World} {v : Value} {f : Nat → World} (h : Calls P F args W fun e w' => e = .returned v ∧ W = w') {m : Nat} (hW : W = f m) :
    Calls P F args W fun e w'' => e = .returned v ∧ ∃ m, w'' = f m := h.mono fun _ _ hh => ⟨hh.1, m, hh.2 ▸ hW⟩
theorem q_drew {P : Program} {F : FuncId} {args : Array Value} {W : World} {v : Value} {f : Nat → World} (h : Calls P F args W fun e w' => e = .returned v ∧ ∃ q, w' = W.drewN q) (hW : ∀ q, ∃ m, W.drewN q = f m) :
    Calls P F args W fun e w'' => e = .returned v ∧ ∃ m, w'' = f m := h.mono fun _ _ hh => ⟨hh.1, by obtain ⟨q, rfl⟩ := hh.2; exact hW q⟩
theorem own : ownKnob Try.prog.godebug = none := by kernel_rfl
theorem laidOut : laidOutB Try.prog = true := by kernel_rfl
/-- A slice of integers that came in: nil; or a row of 'cap' cells, the numbers 'zs', of which the first 'len' are its elements. -/
def IsRow (k : IntKind) (w : World) (a : Option Addr) (len cap : Nat) (zs : List Int) : Prop :=
  (a = none ∧ len = 0 ∧ cap = 0 ∧ zs = []) ∨
  ∃ x, a = some x ∧ len ≤ cap ∧ cap ≤ maxLen ∧ zs.length = cap ∧ (∀ i, i < zs.length → w.cell? (x.add i) = some (.int k (zs.getD i 0))) ∧ ∀ n ∈ zs, (Lit.int k n).wf = true
def inB (n lo hi : Int) : Bool := decide (lo ≤ n) && decide (n ≤ hi)
def one (n : Int) : Int := wrap64 (2 ^ n.toNat)
def full (n : Int) : Int := wrap64 (one n - 1)
def mskB (n m : Int) : Bool := inB m 0 (full n)
def cod (n m : Int) : Int := if inB n 0 30 then (if mskB n m then 0 else 1) else 2
def bitB (m i : Int) : Bool := bits .and .i64 (m / 2 ^ i.toNat) 1 == 1

theorem pow_bd (n : Int) (h0 : 0 ≤ n) (h1 : n ≤ 30) : 1 ≤ (2 : Int) ^ n.toNat ∧ (2 : Int) ^ n.toNat ≤ 1073741824 := by
  have h : n.toNat ≤ 30 := by omega
  have h2 : (2 : Nat) ^ n.toNat ≤ 2 ^ 30 := Nat.pow_le_pow_right (by decide) h
  have h3 : ((2 : Int) ^ n.toNat) = ((2 ^ n.toNat : Nat) : Int) := by simp
  have h4 : 0 < (2 : Nat) ^ n.toNat := Nat.two_pow_pos _
  rw [h3]; omega
theorem one_eq (n : Int) (h0 : 0 ≤ n) (h1 : n ≤ 30) : one n = 2 ^ n.toNat := by
  have := pow_bd n h0 h1
  unfold one
  exact IntWalk.wrap64_in _ (by omega)
theorem full_eq (n : Int) (h0 : 0 ≤ n) (h1 : n ≤ 30) : full n = 2 ^ n.toNat - 1 := by
  unfold full
  rw [one_eq n h0 h1]
  have := pow_bd n h0 h1
  exact IntWalk.wrap64_in _ (by omega)

theorem isSize_any (n : Int) (w : World) :
    Calls Try.prog 113 #[.int .i64 n] w fun e w' => e = .returned (.bool (inB n 0 30)) ∧ w = w' := by
  by_cases h : 0 ≤ n
  all_goals
    go_enter Try.func113, Try.ntmps113
    go_wp2
    go_ret
    exact ⟨by simp [inB] <;> omega, rfl⟩

theorem l01In_any (n lo hi : Int) (w : World) :
    Calls Try.prog 51 #[.int .i64 n, .int .i64 lo, .int .i64 hi] w fun e w' => e = .returned (.bool (inB n lo hi)) ∧ w = w' := by
  by_cases h : lo ≤ n
  all_goals
    go_enter Try.func51, Try.ntmps51
    go_wp2
    go_ret
    exact ⟨by simp [inB] <;> omega, rfl⟩

theorem isMaskWithin_any (n m : Int) (w : World) (hn : 0 ≤ n) (hn2 : n ≤ 30) :
    Calls Try.prog 107 #[.int .i64 n, .int .i64 m] w fun e w' => e = .returned (.bool (mskB n m)) ∧ w = w' := by
  have h1 := one_eq n hn hn2
  have h2 := full_eq n hn hn2
  have H1 := Lib.hid h1; clear h1
  have H2 := Lib.hid h2; clear h2
  by_cases h : 0 ≤ m
  all_goals
    go_enter Try.func107, Try.ntmps107
    go_wp2
    go_ret
    have h1 := H1.out
    have h2 := H2.out
    unfold one at h1
    refine ⟨ret_bool ?_, rfl⟩
    rw [mskB, inB, h2, Bool.eq_iff_iff]
    try rw [h1]
    generalize (2 : Int) ^ n.toNat = q
    simp
    omega

theorem l01One_any (n : Int) (w : World) (hn : 0 ≤ n) (hn2 : n ≤ 30) :
    Calls Try.prog 53 #[.int .i64 n] w fun e w' => e = .returned (.int .i64 (one n)) ∧ w = w' := by
  go_enter Try.func53, Try.ntmps53
  go_wp2
  go_ret
  exact ⟨rfl, rfl⟩

theorem l01Full_any (n : Int) (w : World) (hn : 0 ≤ n) (hn2 : n ≤ 30) :
    Calls Try.prog 104 #[.int .i64 n] w fun e w' => e = .returned (.int .i64 (full n)) ∧ w = w' := by
  go_enter Try.func104, Try.ntmps104
  go_wp2_with (go_at_call 53; refine (l01One_any _ _ (by omega) (by omega)).mono ?_; rintro e w' ⟨rfl, rfl⟩)
  go_ret
  exact ⟨rfl, rfl⟩

theorem hasMember_any (m i : Int) (w : World) (hn2 : 0 ≤ i) (hi : i ≤ 30) :
    Calls Try.prog 97 #[.int .i64 m, .int .i64 i] w fun e w' => e = .returned (.bool (bitB m i)) ∧ w = w' := by
  go_enter Try.func97, Try.ntmps97
  go_wp2
  go_ret
  exact ⟨rfl, rfl⟩

theorem l01Bit_any (m i : Int) (w : World) (hn2 : 0 ≤ i) (hi : i ≤ 30) :
    Calls Try.prog 121 #[.int .i64 m, .int .i64 i] w fun e w' => e = .returned (.bool (bitB m i)) ∧ w = w' := by
  go_enter Try.func121, Try.ntmps121
  go_wp2
  go_ret
  exact ⟨rfl, rfl⟩

theorem checkMask_any (n m : Int) (w : World) :
    Calls Try.prog 95 #[.int .i64 n, .int .i64 m] w fun e w' => e = .returned (.int .i64 (cod n m)) ∧ w = w' := by
  cases h1 : inB n 0 30
  · go_enter Try.func95, Try.ntmps95
    go_wp2_with (go_at_call 113; refine (isSize_any _ _).mono ?_; rintro e w' ⟨rfl, rfl⟩)
    go_ret
    exact ⟨by simp [cod, h1], rfl⟩
  · have hb : 0 ≤ n ∧ n ≤ 30 := by simpa [inB] using h1
    obtain ⟨hb1, hb2⟩ := hb
    cases h2 : mskB n m
    all_goals
      go_enter Try.func95, Try.ntmps95
      go_wp2_with (first | (go_at_call 113; refine (isSize_any _ _).mono ?_; rintro e w' ⟨rfl, rfl⟩) | (go_at_call 107; refine (isMaskWithin_any _ _ _ hb1 hb2).mono ?_; rintro e w' ⟨rfl, rfl⟩))
      go_ret
      exact ⟨by simp [cod, h1, h2], rfl⟩

end Go.Proofs.Ytfkdefmafhlmnaa

/- Contracts of the functions of chapter 1 that read a list and write nothing. Conditions: those in the theorems. -/
namespace Go.Proofs.Ytfkdefmafhlmnaa
open Go.RowKit

def nth (xs : List Int) (k : Nat) : Int := xs.getD k 0

/-- The list xs lies at the slice value (a, len): no element, or cells in a row. -/
def At (w : World) (a : Option Addr) (len : Nat) (xs : List Int) : Prop :=
  len = xs.length ∧ (len = 0 ∨ ∃ b off, a = some ⟨b, off, none⟩ ∧ b < w.heap.size ∧ ∀ j, j < len → w.cell? ⟨b, off + j, none⟩ = some (.int .i64 (nth xs j)))

theorem At.of_row {w : World} {a : Option Addr} {len cap : Nat} {zs : List Int} (h : IsRow .i64 w a len cap zs) : At w a len (zs.take len) := by
  rcases h with ⟨rfl, rfl, rfl, rfl⟩ | ⟨x, rfl, hl, hm, hz, hcell, hwz⟩
  · exact ⟨rfl, .inl rfl⟩
  · refine ⟨by simp; omega, ?_⟩
    by_cases h0 : len = 0
    · exact .inl h0
    · right
      obtain ⟨b, off, spot⟩ := x
      have hc := hcell 0 (by omega)
      have hspot : spot = none := by simpa [Addr.add] using World.cell?_spot hc
      subst hspot
      refine ⟨b, off, rfl, ?_, fun j hj => ?_⟩
      · exact World.block_lt_of_cell? w _ hc
      · have hcj := hcell j (by omega)
        have e : nth (zs.take len) j = zs.getD j 0 := by
          unfold nth
          rw [List.getD_eq_getElem?_getD, List.getD_eq_getElem?_getD, List.getElem?_take, if_pos hj]
        rw [e]
        have e2 : (⟨b, off, none⟩ : Addr).add j = ⟨b, off + j, none⟩ := by unfold Addr.add; split <;> simp_all
        rw [e2] at hcj
        exact hcj

def mksTo (n : Int) (xs : List Int) : Nat → Bool
  | 0 => true
  | k + 1 => mksTo n xs k && mskB n (nth xs k)

theorem mksTo_false {n : Int} {xs : List Int} {k l : Nat} (hk : k ≤ l) (h : mksTo n xs k = false) : mksTo n xs l = false := by
  induction l with
  | zero => simp at hk; subst hk; exact h
  | succ l ih =>
    by_cases e : k = l + 1
    · subst e; exact h
    · rw [mksTo, ih (by omega)]; rfl

def SomeDrew (w : World) (P : Ending → Prop) (e : Ending) (w' : World) : Prop := P e ∧ ∃ q, w' = w.drewN q

set_option maxHeartbeats 400000 in
theorem l01Masks_any (n : Int) (xs : List Int) (a : Option Addr) (len cap : Nat) (w : World) (hn : 0 ≤ n) (hn2 : n ≤ 30) (hl : len ≤ 1048576) (h : At w a len xs) :
    Calls Try.prog 85 #[.int .i64 n, .slice a len cap] w (SomeDrew w fun e => e = .returned (.bool (mksTo n xs len))) := by
  obtain ⟨hlen, rfl | ⟨b, off, rfl, hb, hc⟩⟩ := h
  · go_enter Try.func85, Try.ntmps85
    go_wp2
    refine wp_loop_rounds 1 ?_
    rw [rounds_succ]
    go_wp2
    go_ret
    exact ⟨rfl, 0, rfl⟩
  · clear hlen hb
    go_enter Try.func85, Try.ntmps85
    go_wp2
    go_loopw [5] (fun i wr => ∃ k q : Nat, k ≤ len ∧ i = .int .i64 k ∧ mksTo n xs k = true ∧ wr = w.drewN q) (fun i _ => len - (intOf i).toNat)
    case atStart => exact ⟨0, 0, Nat.zero_le _, rfl, rfl, rfl⟩
    case round =>
      obtain ⟨k, q, hk, rfl, hm, rfl⟩ := hrel
      have HM := Lib.hid hm
      clear hm
      by_cases hlt : k < len
      · have hcell := hc k hlt
        clear hc
        cases hb : inB (nth xs k) 0 (full n)
        · go_wp2
          go_quiet ((first | (go_at_call 104; exact q_same (l01Full_any _ _ hn hn2) rfl) | (go_at_call 51; exact q_same (l01In_any _ _ _ _) rfl)))
          go_wp2
          go_ret
          exact ⟨ret_bool (mksTo_false (k := k + 1) hlt (by rw [mksTo, mskB, hb, Bool.and_false])).symm, q + nq, by rw [World.drewN_drewN]⟩
        · go_wp2
          go_quiet ((first | (go_at_call 104; exact q_same (l01Full_any _ _ hn hn2) rfl) | (go_at_call 51; exact q_same (l01In_any _ _ _ _) rfl)))
          go_wp2
          go_roundw
          case rel => exact ⟨k + 1, _, hlt, by go_num, by rw [mksTo, HM.out, mskB, hb]; rfl, rfl⟩
          case measure => simp [intOf]; omega
      · obtain rfl : k = len := by omega
        clear hc
        go_wp2
        go_ret
        exact ⟨ret_bool HM.out.symm, _, rfl⟩

def chkI (xs : List Int) (len : Nat) : Int := if 30 < len then 2 else if mksTo len xs len then 0 else 1

theorem chkI_big {xs : List Int} {len : Nat} (h : 30 < len) : chkI xs len = 2 := if_pos h
theorem chkI_ok {xs : List Int} {len : Nat} (h : ¬ 30 < len) (h2 : mksTo len xs len = true) : chkI xs len = 0 := by rw [chkI, if_neg h, if_pos h2]
theorem chkI_bad {xs : List Int} {len : Nat} (h : ¬ 30 < len) (h2 : mksTo len xs len = false) : chkI xs len = 1 := by rw [chkI, if_neg h, if_neg (by simp [h2])]

set_option maxHeartbeats 400000 in
theorem check_any (xs : List Int) (a : Option Addr) (len cap : Nat) (w : World) (hl : len ≤ 1048576) (h : At w a len xs) :
    Calls Try.prog 89 #[.slice a len cap] w fun e w' => e = .returned (.int .i64 (chkI xs len)) ∧ w = w' := by
  obtain ⟨hlen, rfl | ⟨b, off, rfl, hb, hc⟩⟩ := h
  · clear hlen
    go_enter Try.func89, Try.ntmps89
    go_wp2
    refine wp_loop_rounds 1 ?_
    rw [rounds_succ]
    go_wp2
    go_ret
    exact ⟨rfl, rfl⟩
  · clear hlen hb
    by_cases hbig : 30 < len
    · go_enter Try.func89, Try.ntmps89
      go_wp2
      go_ret
      exact ⟨ret_int (chkI_big hbig).symm, rfl⟩
    · go_enter Try.func89, Try.ntmps89
      go_wp2
      go_loop [10] (fun i => ∃ k : Nat, k ≤ len ∧ i = .int .i64 k ∧ mksTo len xs k = true) (fun i => len - (intOf i).toNat)
      case atStart => exact ⟨0, Nat.zero_le _, rfl, rfl⟩
      case round =>
        obtain ⟨k, hk, rfl, hm⟩ := hrel
        have HM := Lib.hid hm
        clear hm
        by_cases hlt : k < len
        · have hcell := hc k hlt
          clear hc
          cases hb : mskB len (nth xs k)
          · go_wp2_with (go_at_call 107; refine (isMaskWithin_any _ _ _ (by omega) (by omega)).mono ?_; rintro e w' ⟨rfl, rfl⟩)
            go_ret
            exact ⟨ret_int (chkI_bad hbig (mksTo_false (k := k + 1) hlt (by rw [mksTo, hb, Bool.and_false]))).symm, rfl⟩
          · go_wp2_with (go_at_call 107; refine (isMaskWithin_any _ _ _ (by omega) (by omega)).mono ?_; rintro e w' ⟨rfl, rfl⟩)
            go_round
            case rel => exact ⟨k + 1, hlt, by go_num, by rw [mksTo, HM.out, hb]; rfl⟩
            case measure => simp [intOf]; omega
        · obtain rfl : k = len := by omega
          clear hc
          go_wp2
          go_ret
          exact ⟨ret_int (chkI_ok hbig HM.out).symm, rfl⟩

def imgTo (xs : List Int) (m : Int) : Nat → Int
  | 0 => 0
  | k + 1 => if bitB m k then bits .or .i64 (imgTo xs m k) (nth xs k) else imgTo xs m k

end Go.Proofs.Ytfkdefmafhlmnaa

/- Contracts of the model's functions that read a list of nodes: where a part ends, whether a list is a formula. Conditions: those in the theorems. -/
namespace Go.Proofs.Ytfkdefmafhlmnaa
open Go.RowKit

/-- A node: its kind and its symbol. -/
abbrev Nd := Int × Int
def kd (xs : List Nd) (i : Nat) : Int := (xs.getD i (0, 0)).1
def sy (xs : List Nd) (i : Nat) : Int := (xs.getD i (0, 0)).2

/-- The list of nodes xs lies at the slice value (a, len): no element, or cells in a row, two for each node. -/
def AtN (w : World) (a : Option Addr) (len : Nat) (xs : List Nd) : Prop :=
  len = xs.length ∧ (len = 0 ∨ ∃ b off, a = some ⟨b, off, none⟩ ∧ b < w.heap.size ∧ ∀ j, j < len → w.cell? ⟨b, off + j * 2, none⟩ = some (.int .i64 (kd xs j)) ∧ w.cell? ⟨b, off + j * 2 + 1, none⟩ = some (.int .i64 (sy xs j)))

def prt (k : Int) : Int := if k = 2 ∨ k = 3 ∨ k = 4 then 2 else if k = 5 ∨ k = 6 then 1 else 0
theorem prt_bd (k : Int) : 0 ≤ prt k ∧ prt k ≤ 2 := by unfold prt; split <;> (try split) <;> omega

set_option maxHeartbeats 400000 in
theorem l02Parts_any (k : Int) (w : World) : Calls Try.prog 129 #[.int .i64 k] w fun e w' => e = .returned (.int .i64 (prt k)) ∧ w = w' := by
  by_cases h : k = 2 ∨ k = 3 ∨ k = 4 ∨ k = 5 ∨ k = 6
  · rcases h with rfl | rfl | rfl | rfl | rfl
    all_goals
      go_enter Try.func129, Try.ntmps129
      go_wp2
      go_ret
      exact ⟨rfl, rfl⟩
  · have e2 : (k == 2) = false := by simp; omega
    have e3 : (k == 3) = false := by simp; omega
    have e4 : (k == 4) = false := by simp; omega
    have e5 : (k == 5) = false := by simp; omega
    have e6 : (k == 6) = false := by simp; omega
    have HP : Hid (prt k = 0) := by show prt k = 0; unfold prt; rw [if_neg (by omega), if_neg (by omega)]
    clear h
    go_enter Try.func129, Try.ntmps129
    go_wp2
    go_ret
    exact ⟨ret_int HP.out.symm, rfl⟩

/-- Where a part ends, told from index i on with o parts open; -1 if the list ends first. -/
def pe (xs : List Nd) : Nat → Int → Nat → Int
  | 0, o, i => if o ≤ 0 then i else -1
  | f + 1, o, i => if o ≤ 0 then i else pe xs f (o - 1 + prt (kd xs i)) (i + 1)

set_option maxHeartbeats 400000 in
theorem l02Part_any (xs : List Nd) (a : Option Addr) (len cap i : Nat) (w : World) (hl : len ≤ 1048576) (hi : i ≤ len) (h : AtN w a len xs) :
    Calls Try.prog 126 #[.slice a len cap, .int .i64 i] w fun e w' => e = .returned (.int .i64 (pe xs (len - i) 1 i)) ∧ w = w' := by
  have H := Lib.hid h
  clear h
  go_enter Try.func126, Try.ntmps126
  go_wp2
  go_loop [1, 5] (fun i' o => ∃ k p : Nat, i ≤ k ∧ k ≤ len ∧ p ≤ 1 + 2 * k ∧ i' = .int .i64 k ∧ o = .int .i64 p ∧ pe xs (len - k) p k = pe xs (len - i) 1 i) (fun i' _ => len - (intOf i').toNat)
  case atStart => exact ⟨i, 1, Nat.le_refl _, hi, by omega, rfl, rfl, rfl⟩
  case round =>
    obtain ⟨k, p, hik, hk, hp, rfl, rfl, he⟩ := hrel
    have HE := Lib.hid he
    clear he
    by_cases h0 : 0 < p
    · by_cases hlt : k < len
      · obtain ⟨b, off, rfl, hb, hc⟩ := H.out.2.resolve_left (by omega)
        have hc1 := (hc k hlt).1
        clear hc
        have hb2 := prt_bd (kd xs k)
        obtain ⟨q, hq⟩ := Int.eq_ofNat_of_zero_le hb2.1
        have hq2 : q ≤ 2 := by omega
        have HQ := Lib.hid hq
        have hstep : pe xs (len - k) p k = pe xs (len - (k + 1)) (p - 1 + prt (kd xs k)) (k + 1) := by
          rw [show len - k = (len - (k + 1)) + 1 by omega, pe, if_neg (by omega)]
        have HST := Lib.hid hstep
        clear hb2 hq hstep
        go_wp2_with (go_at_call 129; refine (l02Parts_any _ _).mono ?_; rw [HQ.out]; rintro e w' ⟨rfl, rfl⟩)
        go_round
        case rel => exact ⟨k + 1, p - 1 + q, by omega, hlt, by omega, by go_num, by congr 1; omega, by rw [← HE.out, HST.out, HQ.out]; congr 1; omega⟩
        case measure => simp [intOf]; omega
      · obtain rfl : k = len := by omega
        have hv : pe xs (k - i) 1 i = -1 := by rw [← HE.out, Nat.sub_self, pe, if_neg (by omega)]
        have HV := Lib.hid hv
        clear hv
        go_wp2
        go_ret
        exact ⟨ret_int HV.out.symm, rfl⟩
    · obtain rfl : p = 0 := by omega
      have hv : pe xs (len - i) 1 i = k := by
        rw [← HE.out]
        cases hlk : len - k <;> (rw [pe, if_pos (by omega)])
      have HV := Lib.hid hv
      clear hv
      go_wp2
      go_ret
      exact ⟨ret_int HV.out.symm, rfl⟩

def okN (k s : Int) : Bool := inB k 0 6 && inB s 0 5 && (k == 0 || s == 0)
def treeTo (xs : List Nd) : Nat → Bool
  | 0 => true
  | i + 1 => treeTo xs i && okN (kd xs i) (sy xs i)
def treeB (xs : List Nd) (len : Nat) : Bool := treeTo xs len && decide (0 < len) && (pe xs len 1 0 == (len : Int))
def isB (xs : List Nd) (len : Nat) : Bool := decide (len ≤ 40) && treeB xs len
theorem treeTo_false {xs : List Nd} {k l : Nat} (hk : k ≤ l) (h : treeTo xs k = false) : treeTo xs l = false := by
  induction l with
  | zero => simp at hk; subst hk; exact h
  | succ l ih =>
    by_cases e : k = l + 1
    · subst e; exact h
    · rw [treeTo, ih (by omega)]; rfl
theorem tree_bad {xs : List Nd} {len k : Nat} (hk : k < len) (h : okN (kd xs k) (sy xs k) = false) : treeB xs len = false := by
  have h1 : treeTo xs (k + 1) = false := by rw [treeTo, h, Bool.and_false]
  rw [treeB, treeTo_false (k := k + 1) hk h1]; rfl

end Go.Proofs.Ytfkdefmafhlmnaa
