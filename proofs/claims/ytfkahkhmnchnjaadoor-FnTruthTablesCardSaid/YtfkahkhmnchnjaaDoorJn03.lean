/- 3 texts in one: Plain, Bw, OwnI. -/
import Derived.Test.YtfkahkhmnchnjaaDoorJn01
import Derived.Test.YtfkahkhmnchnjaaDoorDeep
import Derived.Test.YtfkahkhmnchnjaaDoorJn05
/- Contracts of IsPlain of the model and of the program, at every list of nodes. Conditions: those in the theorems. -/
namespace Go.Proofs.YtfkahkhmnchnjaaDoor
open Go.RowKit

def mdB (k : Int) : Bool := k == 5 || k == 6
def plTo (xs : List Nd) : Nat → Bool
  | 0 => true
  | k + 1 => plTo xs k && !mdB (kd xs k)
theorem pl_false {xs : List Nd} {k len : Nat} (h : plTo xs k = false) (hk : k ≤ len) : plTo xs len = false := by
  induction len with
  | zero => have : k = 0 := by omega
            subst this; exact h
  | succ l ih =>
    by_cases e : k = l + 1
    · subst e; exact h
    · rw [plTo, ih (by omega)]; rfl
theorem pl_bad {xs : List Nd} {k len : Nat} (h : mdB (kd xs k) = true) (hk : k < len) : plTo xs len = false := by
  refine pl_false (k := k + 1) ?_ hk
  rw [plTo, h]; simp
theorem pl_step {xs : List Nd} {k : Nat} (h : plTo xs k = true) (h2 : mdB (kd xs k) = false) : plTo xs (k + 1) = true := by rw [plTo, h, h2]; rfl

set_option maxHeartbeats 1000000 in
theorem l02Plain_any (xs : List Nd) (a : Option Addr) (len cap : Nat) (w : World) (hl : len ≤ 1048576) (h : AtN w a len xs) :
    Calls Tryd.prog 37 #[.slice a len cap] w fun e w' => e = .returned (.bool (plTo xs len)) ∧ w = w' := by
  have H := Lib.hid h
  clear h
  go_enter Tryd.func37, Tryd.ntmps37
  go_wp2
  go_loop [3] (fun i => ∃ k : Nat, k ≤ len ∧ i = .int .i64 k ∧ plTo xs k = true) (fun i => len - (intOf i).toNat)
  case atStart => exact ⟨0, Nat.zero_le _, rfl, rfl⟩
  case round =>
    obtain ⟨k, hk, rfl, hp⟩ := hrel
    have HP := Lib.hid hp
    clear hp
    by_cases hlt : k < len
    · obtain ⟨b, off, rfl, hb, hc⟩ := H.out.2.resolve_left (by omega)
      obtain ⟨x, hx⟩ : ∃ x, x = kd xs k := ⟨_, rfl⟩
      have hc1 := (hc k hlt).1
      rw [← hx] at hc1
      clear hc
      have HX := Lib.hid hx
      clear hx
      cases h5 : (x == 5)
      · cases h6 : (x == 6)
        · have HS := Lib.hid (pl_step HP.out (show mdB (kd xs k) = false by rw [← HX.out, mdB, h5, h6]; rfl))
          go_wp2
          go_round
          case rel => exact ⟨k + 1, hlt, by go_num, HS.out⟩
          case measure => simp [intOf]; omega
        · have HS := Lib.hid (pl_bad (show mdB (kd xs k) = true by rw [← HX.out, mdB, h5, h6]; rfl) hlt)
          go_wp2
          go_ret
          exact ⟨ret_bool HS.out.symm, rfl⟩
      · have HS := Lib.hid (pl_bad (show mdB (kd xs k) = true by rw [← HX.out, mdB, h5]; rfl) hlt)
        go_wp2
        go_ret
        exact ⟨ret_bool HS.out.symm, rfl⟩
    · obtain rfl : k = len := by omega
      go_wp2
      go_ret
      exact ⟨ret_bool HP.out.symm, rfl⟩

def plR (xs : List Nd) : Bool := isB xs xs.length && plTo xs xs.length
def plC (xs : List Nd) : Int := if isB xs xs.length then 0 else 1
theorem plain_bad {xs : List Nd} (h : isB xs xs.length = false) : plR xs = false ∧ plC xs = 1 := by unfold plR plC; rw [h]; exact ⟨rfl, rfl⟩
theorem plain_good {xs : List Nd} (h : isB xs xs.length = true) : plR xs = plTo xs xs.length ∧ plC xs = 0 := by unfold plR plC; rw [h]; exact ⟨rfl, rfl⟩

set_option maxHeartbeats 1000000 in
theorem implIsPlain_at (x0 : List Nd) (a : Option Addr) (cap : Nat) (w : World) (hl : x0.length ≤ 1048576) (hat : AtN w a x0.length x0) :
    Calls Tryd.prog 54 #[.slice a x0.length cap] w fun e w' => e = .returned (.tuple #[.bool (plR x0), .int .i64 (plC x0)]) ∧ Below w.heap.size w w' := by
  have H := Lib.hid hat
  clear hat
  cases hb : isB x0 x0.length
  · obtain ⟨e1, e2⟩ := plain_bad hb
    rw [e1, e2]
    have HB := Lib.hid hb
    clear hb e1 e2
    go_enter Tryd.func54, Tryd.ntmps54
    go_wp2_with (go_at_call 27; refine (implIsF_any _ _ _ _ _ hl H.out).mono ?_; rw [HB.out]; rintro e w' ⟨rfl, hb⟩)
    go_ret2
    exact ⟨rfl, hb⟩
  · obtain ⟨e1, e2⟩ := plain_good hb
    rw [e1, e2]
    have HB := Lib.hid hb
    clear hb e1 e2
    obtain ⟨len, hlen⟩ : ∃ len, len = x0.length := ⟨_, rfl⟩
    rw [← hlen] at H HB hl ⊢
    clear hlen
    go_enter Tryd.func54, Tryd.ntmps54
    go_wp2_with fail
    refine (implIsF_any _ _ _ _ _ hl H.out).mono ?_
    rw [HB.out]
    rintro e w0 ⟨rfl, hb0⟩
    go_wp2
    go_loopw [11] (fun i wr => ∃ k : Nat, k ≤ len ∧ i = .int .i64 k ∧ plTo x0 k = true ∧ Below w.heap.size w wr) (fun i _ => len - (intOf i).toNat)
    case atStart => exact ⟨0, Nat.zero_le _, rfl, rfl, hb0⟩
    case round =>
      obtain ⟨k, hk, rfl, hp, hbel⟩ := hrel
      have HP := Lib.hid hp
      have BL := Lib.hid hbel
      clear hp hb0
      by_cases hlt : k < len
      · obtain ⟨b, off, rfl, hb, hc⟩ := H.out.2.resolve_left (by omega)
        have hc1 : wr.cell? ⟨b, off + k * 2, none⟩ = some (.int .i64 (kd x0 k)) := (hbel.cell (p := ⟨b, off + k * 2, none⟩) hb).trans (hc k hlt).1
        have hc2 : wr.cell? ⟨b, off + k * 2 + 1, none⟩ = some (.int .i64 (sy x0 k)) := (hbel.cell (p := ⟨b, off + k * 2 + 1, none⟩) hb).trans (hc k hlt).2
        clear hc
        have ba := Lib.hid (hbel.alloc hbel.size (.cells #[.int .i64 (kd x0 k), .int .i64 (sy x0 k)] 68))
        clear hbel
        cases hm : mdB (kd x0 k)
        · have HS := Lib.hid (pl_step HP.out hm)
          have HM : Hid ((kd x0 k == 5 || kd x0 k == 6) = false) := hm
          clear hm
          go_wp2_with (go_at_call 62; refine (isModal_any _ _).mono ?_; rw [HM.out]; rintro e w' ⟨rfl, rfl⟩)
          go_roundw
          case rel => exact ⟨k + 1, hlt, by go_num, HS.out, ba.out⟩
          case measure => simp [intOf]; omega
        · have HS := Lib.hid (pl_bad hm hlt)
          have HM : Hid ((kd x0 k == 5 || kd x0 k == 6) = true) := hm
          clear hm
          go_wp2_with (go_at_call 62; refine (isModal_any _ _).mono ?_; rw [HM.out]; rintro e w' ⟨rfl, rfl⟩)
          go_ret2
          exact ⟨by rw [HS.out]; rfl, ba.out⟩
      · obtain rfl : k = len := by omega
        clear hbel
        go_wp2
        go_ret2
        exact ⟨by rw [HP.out]; rfl, BL.out⟩

theorem implIsPlain_v (x0 : List Nd) (v : Value) (lo hi : Nat) (w : World) (hl : x0.length ≤ 1048576) (h : InN w lo hi v x0) :
    Calls Tryd.prog 54 #[v] w fun e w' => e = .returned (.tuple #[.bool (plR x0), .int .i64 (plC x0)]) ∧ Below w.heap.size w w' := by
  obtain ⟨a, cap, rfl, hat⟩ := h.at
  exact implIsPlain_at x0 a cap w hl hat

end Go.Proofs.YtfkahkhmnchnjaaDoor

/- Sets of rows as words of 64 digits: what the operations on words do to them, and the models of a plain formula as such a word. No conditions but those in the theorems. -/
namespace Go.Proofs.YtfkahkhmnchnjaaDoor
open Go.RowKit

/-- A word as a number. -/
def U (b : BitVec 64) : Int := (b.toNat : Int)
theorem ofInt_U (b : BitVec 64) : BitVec.ofInt 64 (U b) = b := by
  unfold U
  rw [BitVec.ofInt_natCast, BitVec.ofNat_toNat, BitVec.setWidth_eq]
theorem wrap_U (b : BitVec 64) : IntKind.u64.wrap (U b) = U b := IntWalk.u64_in _ ⟨by unfold U; omega, by have := b.isLt; unfold U; omega⟩
theorem U_and (a b : BitVec 64) : bits .and .u64 (U a) (U b) = U (a &&& b) := by
  show IntKind.u64.wrap (((BitVec.ofInt 64 (U a) &&& BitVec.ofInt 64 (U b)).toNat : Nat) : Int) = _
  rw [ofInt_U, ofInt_U]; exact wrap_U _
theorem U_or (a b : BitVec 64) : bits .or .u64 (U a) (U b) = U (a ||| b) := by
  show IntKind.u64.wrap (((BitVec.ofInt 64 (U a) ||| BitVec.ofInt 64 (U b)).toNat : Nat) : Int) = _
  rw [ofInt_U, ofInt_U]; exact wrap_U _
theorem U_xor (a b : BitVec 64) : bits .xor .u64 (U a) (U b) = U (a ^^^ b) := by
  show IntKind.u64.wrap (((BitVec.ofInt 64 (U a) ^^^ BitVec.ofInt 64 (U b)).toNat : Nat) : Int) = _
  rw [ofInt_U, ofInt_U]; exact wrap_U _
theorem U_andNot (a b : BitVec 64) : bits .andNot .u64 (U a) (U b) = U (a &&& ~~~b) := by
  show IntKind.u64.wrap (((BitVec.ofInt 64 (U a) &&& ~~~BitVec.ofInt 64 (U b)).toNat : Nat) : Int) = _
  rw [ofInt_U, ofInt_U]; exact wrap_U _
theorem U_all : (18446744073709551615 : Int) = U (BitVec.allOnes 64) := by decide
theorem U_zero : (0 : Int) = U 0#64 := rfl
theorem U_not (b : BitVec 64) : bits .xor .u64 18446744073709551615 (U b) = U (~~~b) := by
  rw [U_all, U_xor, BitVec.allOnes_xor]
theorem U_inj {a b : BitVec 64} (h : U a = U b) : a = b := BitVec.eq_of_toNat_eq (by unfold U at h; omega)
theorem U_beq (a b : BitVec 64) : (U a == U b) = (a == b) := by
  rw [Bool.eq_iff_iff, beq_iff_eq, beq_iff_eq]
  exact ⟨U_inj, fun h => by rw [h]⟩
/-- The digit of a word at a row, as the program tells it. -/
theorem U_row (b : BitVec 64) (r : Nat) : bits .and .u64 (U b / 2 ^ r) 1 = if b.getLsbD r then 1 else 0 := by
  have e1 : U b / 2 ^ r = U (b >>> r) := by
    unfold U
    rw [BitVec.toNat_ushiftRight, Nat.shiftRight_eq_div_pow]
    simp
  rw [e1, show (1 : Int) = U 1#64 from rfl, U_and]
  unfold U
  rw [BitVec.toNat_and, BitVec.toNat_ushiftRight]
  show ((b.toNat >>> r &&& 1 : Nat) : Int) = _
  rw [Nat.and_one_is_mod, Nat.shiftRight_eq_div_pow]
  show _ = if b.toNat.testBit r then (1 : Int) else 0
  rw [Nat.testBit_eq_decide_div_mod_eq]
  generalize b.toNat / 2 ^ r = y
  rcases Nat.mod_two_eq_zero_or_one y with h | h <;> simp [h]

namespace Fm
/-- The value of a plain formula in a row. -/
def ev : Fm → Nat → Bool
  | va s, r => r.testBit s.toNat
  | fa, _ => false
  | bi k a b, r => if k = 2 then a.ev r && b.ev r else if k = 3 then a.ev r || b.ev r else !a.ev r || b.ev r
  | un _ _, _ => false
def pl : Fm → Prop
  | va _ => True
  | fa => True
  | bi _ a b => a.pl ∧ b.pl
  | un _ _ => False
end Fm
/-- The rows in which the variable s is true. -/
def vr (s : Nat) : BitVec 64 := match s with
  | 0 => 0xaaaaaaaaaaaaaaaa#64
  | 1 => 0xcccccccccccccccc#64
  | 2 => 0xf0f0f0f0f0f0f0f0#64
  | 3 => 0xff00ff00ff00ff00#64
  | 4 => 0xffff0000ffff0000#64
  | _ => 0xffffffff00000000#64
set_option maxRecDepth 4000 in
theorem vr_row : ∀ s, s < 6 → ∀ r, r < 64 → (vr s).getLsbD r = r.testBit s := by decide
namespace Fm
/-- The models of a plain formula. -/
def mw : Fm → BitVec 64
  | va s => vr s.toNat
  | fa => 0#64
  | bi k a b => if k = 2 then a.mw &&& b.mw else if k = 3 then a.mw ||| b.mw else ~~~a.mw ||| b.mw
  | un _ _ => 0#64
theorem mw_row (f : Fm) (hf : f.ok) (r : Nat) (hr : r < 64) : f.mw.getLsbD r = f.ev r := by
  induction f with
  | va s =>
    have := hf.1; have := hf.2
    exact vr_row _ (by omega) r hr
  | fa => simp [mw, ev]
  | bi k a b iha ihb =>
    have e1 := iha hf.2.1
    have e2 := ihb hf.2.2
    simp only [mw, ev]
    split
    · rw [BitVec.getLsbD_and, e1, e2]
    · split
      · rw [BitVec.getLsbD_or, e1, e2]
      · rw [BitVec.getLsbD_or, BitVec.getLsbD_not, e1, e2]; simp [hr]
  | un k a ih => simp [mw, ev]
end Fm
theorem word_ext {a b : BitVec 64} (h : ∀ r, r < 64 → a.getLsbD r = b.getLsbD r) : a = b := BitVec.eq_of_getLsbD_eq (fun i hi => h i hi)

theorem plTo_at {xs : List Nd} {n : Nat} (h : plTo xs n = true) : ∀ k, k < n → mdB (kd xs k) = false := by
  induction n with
  | zero => intro k hk; omega
  | succ n ih =>
    rw [plTo, Bool.and_eq_true] at h
    intro k hk
    by_cases e : k = n
    · subst e; simpa using h.2
    · exact ih h.1 k (by omega)
theorem Fm.pl_of (f : Fm) (hf : f.ok) : ∀ (xs : List Nd) (i : Nat) (r : List Nd), xs.drop i = f.enc ++ r → (∀ k, i ≤ k → k < i + f.sz → mdB (kd xs k) = false) → f.pl := by
  induction f with
  | va s => intros; trivial
  | fa => intros; trivial
  | un k a ih =>
    intro xs i r h hk
    have h1 := hk i (Nat.le_refl _) (by simp only [Fm.sz]; omega)
    rw [kd_at (x := (k, 0)) (r := a.enc ++ r) (by rw [h]; simp [Fm.enc])] at h1
    rcases hf.1 with e | e <;> (subst e; cases h1)
  | bi k a b iha ihb =>
    intro xs i r h hk
    have h1 : xs.drop (i + 1) = a.enc ++ (b.enc ++ r) := drop_next (x := (k, 0)) (by rw [h]; simp [Fm.enc])
    have h2 := drop_add h1
    rw [Fm.enc_len] at h2
    simp only [Fm.sz] at hk
    exact ⟨iha hf.2.1 xs _ _ h1 (fun k' h3 h4 => hk k' (by omega) (by omega)), ihb hf.2.2 xs _ _ h2 (fun k' h3 h4 => hk k' (by omega) (by omega))⟩
theorem toFm_pl {xs : List Nd} (hb : isB xs xs.length = true) (hp : plTo xs xs.length = true) : (toFm xs).pl := by
  obtain ⟨h1, h2, h3⟩ := toFm_of hb
  refine Fm.pl_of _ h1 xs 0 [] (by rw [List.drop_zero, List.append_nil]; exact h2) (fun k _ hk => plTo_at hp k ?_)
  have := Fm.enc_len (toFm xs)
  rw [← h2] at this
  omega

end Go.Proofs.YtfkahkhmnchnjaaDoor

/- Lists of int64 that a call owns, told by values beside lists of nodes: compare, mark and held over them. Conditions: those in the theorems. -/
namespace Go.Proofs.YtfkahkhmnchnjaaDoor
open Go.RowKit

/-- The slice value v is the call's own, its block lies in lo .. hi - 1, and it holds xs. -/
def InI (w : World) (lo hi : Nat) (v : Value) (xs : List Int) : Prop := Own w lo v xs ∧ hi ≤ w.heap.size ∧ ∀ k, v.ownBlock = some k → lo ≤ k ∧ k < hi
theorem Own.inI {w : World} {lo : Nat} {v : Value} {xs : List Int} (h : Own w lo v xs) : InI w lo w.heap.size v xs := ⟨h, Nat.le_refl _, World.ownsRow.lt h⟩
theorem InI.below {w w' : World} {lo hi C : Nat} {v : Value} {xs : List Int} (h : InI w lo hi v xs) (hb : Below C w w') (hC : hi ≤ C) : InI w' lo hi v xs := by
  refine ⟨⟨h.1.1, ?_⟩, Nat.le_trans h.2.1 hb.size, h.2.2⟩
  rcases h.1.2 with h2 | ⟨g, cap, cur, hv, hg, hh, r⟩
  · exact .inl h2
  · have hlt := (h.2.2 g (by rw [hv]; rfl)).2
    exact .inr ⟨g, cap, cur, hv, hg, by rw [hb.block g (by omega)]; exact hh, r⟩
theorem InI.other {w w' : World} {lo hi lo' hi' : Nat} {v u : Value} {xs : List Int} (h : InI w lo hi v xs) (hu : ∀ k, u.ownBlock = some k → lo' ≤ k ∧ k < hi') (hg : w.grownBy w' u.ownBlock) (hd : hi ≤ lo' ∨ hi' ≤ lo) : InI w' lo hi v xs := by
  refine ⟨World.ownsRow.kept h.1 hg ?_, Nat.le_trans h.2.1 hg.size, h.2.2⟩
  cases hv : v.ownBlock with
  | none => exact .inl rfl
  | some k =>
    right
    intro e
    have h1 := h.2.2 k hv
    have h2 := hu k e.symm
    omega

end Go.Proofs.YtfkahkhmnchnjaaDoor
