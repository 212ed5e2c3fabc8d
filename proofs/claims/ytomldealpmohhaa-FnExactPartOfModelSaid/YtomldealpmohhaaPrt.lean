/- Contracts of the frame of a list of worlds, of the model and of the program, and of PartOfFrame. Conditions: those in the theorems. -/
import Derived.Test.YtomldealpmohhaaJn03
import Derived.Test.YtomldealpmohhaaMemb
namespace Go.Proofs.Ytomldealpmohhaa
open Go.RowKit

/-- The mask of the indices, in a list of worlds, of the members of x. -/
def sqTo (ls : List Int) (x : Int) : Nat → Int
  | 0 => 0
  | k + 1 => if bitB x (nth ls k) then bits .or .i64 (sqTo ls x k) (one k) else sqTo ls x k
def arF (xs ls : List Int) (i : Nat) : Int := sqTo ls (nth xs (nth ls i).toNat) ls.length
def arV (xs ls : List Int) : List Int := tab ls.length (arF xs ls)
def LsOk (n : Nat) (ls : List Int) : Prop := ∀ k, k < ls.length → ∃ p : Nat, nth ls k = p ∧ p < n
theorem memTo_ok (m k : Nat) : LsOk k (memTo m k) := by
  induction k with
  | zero => intro i hi; simp [memTo] at hi
  | succ k ih =>
    intro i hi
    rw [memTo] at hi ⊢
    split at hi
    · rename_i h
      rw [if_pos h]
      by_cases e : i < (memTo m k).length
      · obtain ⟨p, h1, h2⟩ := ih i e
        exact ⟨p, by rw [nth_left _ _ _ e]; exact h1, by omega⟩
      · have e2 : i = (memTo m k).length := by simp at hi; omega
        subst e2
        exact ⟨k, nth_snoc _ _ _ rfl, by omega⟩
    · rename_i h
      rw [if_neg h]
      obtain ⟨p, h1, h2⟩ := ih i hi
      exact ⟨p, h1, by omega⟩

theorem boxF1 (w : World) (n : Int) (a : Option Addr) (l c : Nat) : ∃ W : World, W = (w.alloc (.cells #[.int .i64 n, .slice a l c] 32)).alloc (.cells #[.int .i64 0, .slice none 0 0] 32) ∧
    Hid (Below w.heap.size w W) ∧ Hid (Bx W w.heap.size n a l c) ∧ Hid (Bz W (w.heap.size + 1)) ∧ W.heap.size = w.heap.size + 1 + 1 := by
  refine ⟨_, rfl, Lib.hid (((Below.refl w.heap.size w).alloc (Nat.le_refl _) _).alloc (by simp) _), Lib.hid ((Bx.new w n a l c _).keep (alloc_keep _ _).1), ?_, by simp⟩
  have := Bz.new (w.alloc (.cells #[.int .i64 n, .slice a l c] 32))
  exact Lib.hid (by simpa using this)

set_option maxHeartbeats 400000 in
theorem l05Squeeze_any (ls : List Int) (x : Int) (n : Nat) (a : Option Addr) (len cap : Nat) (w : World) (hl : len ≤ 30) (hn : n ≤ 30) (hok : LsOk n ls) (h : At w a len ls) :
    Calls Try.prog 59 #[.slice a len cap, .int .i64 x] w fun e w' => e = .returned (.int .i64 (sqTo ls x len)) ∧ w = w' := by
  obtain rfl := h.1
  have H := Lib.hid h
  have OK := Lib.hid hok
  clear h hok
  go_enter Try.func59, Try.ntmps59
  go_wp2
  go_loop [5, 6] (fun s i => ∃ k : Nat, k ≤ ls.length ∧ i = .int .i64 k ∧ s = .int .i64 (sqTo ls x k)) (fun _ i => ls.length - (intOf i).toNat)
  case atStart => exact ⟨0, Nat.zero_le _, rfl, rfl⟩
  case round =>
    obtain ⟨k, hk, rfl, rfl⟩ := hrel
    by_cases hlt : k < ls.length
    · obtain ⟨b, off, rfl, -, hc⟩ := H.out.2.resolve_left (by omega)
      obtain ⟨p, hp, hpn⟩ := OK.out k hlt
      have hcell := hc k hlt
      rw [hp] at hcell
      have HP := Lib.hid hp
      clear hc hp
      cases hb : bitB x (p : Int)
      all_goals
        have HB := Lib.hid hb
        go_wp2_with (first | (go_at_call 52; refine (l01Bit_any _ _ _ (by omega) (by omega)).mono ?_; rintro e w' ⟨rfl, rfl⟩) | (go_at_call 66; refine (l01One_any _ _ (by omega) (by omega)).mono ?_; rintro e w' ⟨rfl, rfl⟩))
        go_round
        case rel => exact ⟨k + 1, hlt, by go_num, by simp [sqTo, HP.out, HB.out]⟩
        case measure => simp [intOf]; omega
    · obtain rfl : k = ls.length := by omega
      go_wp2
      go_ret
      exact ⟨rfl, rfl⟩

def arTo (xs ls : List Int) : Nat → List Int
  | 0 => []
  | k + 1 => arTo xs ls k ++ [arF xs ls k]
theorem arTo_len (xs ls : List Int) (k : Nat) : (arTo xs ls k).length = k := by induction k with | zero => rfl | succ k ih => simp [arTo, ih]
theorem arTo_tab (xs ls : List Int) (k : Nat) : arTo xs ls k = tab k (arF xs ls) := by
  induction k with
  | zero => rfl
  | succ k ih => rw [arTo, ih]; unfold tab; rw [List.range_succ, List.map_append]; rfl
theorem own_ar {w : World} {B k : Nat} {v : Value} {xs ls : List Int} (h : w.ownsRow B 2 1 v k ((arTo xs ls k).map (Value.int .i64))) : Own w B v (arTo xs ls k) := by
  unfold Own; rw [arTo_len]; exact h

set_option maxHeartbeats 1000000 in
set_option maxRecDepth 100000 in
theorem l05Part_any (n : Int) (xs : List Int) (m : Nat) (a : Option Addr) (len cap : Nat) (w : World) (hl : len ≤ 8) (hm : m < 2 ^ len) (h : At w a len xs) :
    Calls Try.prog 60 #[.agg #[.int .i64 n, .slice a len cap], .int .i64 m] w fun e w' => ∃ v, e = .returned v ∧ OwnF w' w.heap.size v (arV xs (memTo m len)).length (arV xs (memTo m len)) ∧ Below w.heap.size w w' := by
  obtain ⟨W, hW, HB, X, Z, hWs⟩ := boxF1 w n a len cap
  have H := Lib.hid (h.keep HB.out (Nat.le_refl _))
  have hz0 : w.heap.size + 1 + 1 ≤ W.heap.size := by omega
  obtain rfl := h.1
  have hm30 : m < 1073741824 := by have : (2 : Nat) ^ xs.length ≤ 2 ^ 8 := Nat.pow_le_pow_right (by decide) hl; omega
  have M := Lib.hid (memTo_high hm 30 (by omega))
  obtain ⟨ls, hls⟩ : ∃ ls, ls = memTo m xs.length := ⟨_, rfl⟩
  have OK := Lib.hid (show LsOk xs.length ls by rw [hls]; exact memTo_ok m xs.length)
  have hll : ls.length ≤ 8 := by rw [hls]; exact Nat.le_trans (memTo_len m xs.length) hl
  rw [← hls] at M ⊢
  have HW := Lib.hid hW
  clear h hWs hm hls hW
  go_enter Try.func60, Try.ntmps60
  go_wp2_with fail
  rw [← HW.out]
  refine (l01List_any m hm30 _).mono ?_
  rw [M.out]
  rintro e w1 ⟨v1, rfl, ho, hb⟩
  obtain ⟨a1, k1, rfl, hat, -, -, -⟩ := ho.at
  have L1 := Lib.hid hat
  have B1 := Lib.hid hb
  clear ho hb hat
  go_wp2
  go_loopw [6, 7] (fun v i wr => ∃ k : Nat, k ≤ ls.length ∧ i = .int .i64 k ∧ wr.ownsRow w1.heap.size 2 1 v k ((arTo xs ls k).map (Value.int .i64)) ∧ Hid (Below w1.heap.size w1 wr)) (fun _ i _ => ls.length - (intOf i).toNat)
  case atStart => exact ⟨0, Nat.zero_le _, rfl, World.ownsRow_lit w1 #[] 0 (Nat.le_refl _) (by unfold maxLen; omega) rfl, Lib.hid ((Below.refl _ _).alloc (Nat.le_refl _) _)⟩
  case round =>
    obtain ⟨k, hk, rfl, hown, B⟩ := hrel
    have HO := Lib.hid hown
    clear hown
    have hs1 := B1.out.size
    have hsz := B.out.size
    have BW := Lib.hid (B1.out.trans (B.out.mono hs1))
    have HA := Lib.hid (H.out.keep BW.out (Nat.le_refl _))
    have LA := Lib.hid (L1.out.keep B.out (Nat.le_refl _))
    obtain ⟨lt0, x0, x0'⟩ := X.out.keep BW.out
    by_cases hlt : k < ls.length
    · obtain ⟨p, hp, hpn⟩ := OK.out k hlt
      obtain ⟨b', off', rfl, hb', hc'⟩ := LA.out.2.resolve_left (by omega)
      have hcell' := hc' k hlt
      rw [hp] at hcell'
      obtain ⟨b, off, rfl, hb, hc⟩ := HA.out.2.resolve_left (by omega)
      have hcell := hc p hpn
      have EL := Lib.hid (show sqTo ls (nth xs p) ls.length = arF xs ls k by rw [arF, hp, Int.toNat_natCast])
      clear hc hc' hp
      go_wp2
      go_region_law (first | (refine step_app1 rfl _ _ rfl w1.heap.size _ k _ rfl (HO.out.drew.alloc _) ⟨wr.heap.size, 0, none⟩ 1 _ rfl (World.cell?_alloc_at _ _ _ _ rfl) (by omega) (by simp; omega) ?_; intro v' w1' hown1 hgr1) | (go_simp; go_at_call 59; refine (l05Squeeze_any ls _ xs.length _ _ _ _ (by omega) (by omega) OK.out LA.out.drw).mono ?_; rintro e w' ⟨rfl, rfl⟩))
      all_goals
        have hbel := Lib.hid (below_app B.out (((Below.refl _ _).alloc hsz _).drew) hsz HO.out hgr1)
        rw [EL.out] at hown1
        clear hgr1 x0 x0' hcell hcell'
        go_wp2
        go_roundw
        case rel => exact ⟨k + 1, hlt, by go_num, by rw [arTo, List.map_append]; exact hown1, hbel⟩
        case measure => simp [intOf]; omega
    · obtain rfl : k = ls.length := by omega
      have O5 := Lib.hid (own_ar HO.out)
      obtain ⟨a5, k5, e5, hat5, -, hn5, -⟩ := O5.out.at
      rw [arTo_len] at e5 hat5
      subst e5
      have H5 := Lib.hid hat5
      have N5 := Lib.hid hn5
      have Z1 := Lib.hid (Z.out.keep BW.out)
      have B2 := Lib.hid (HB.out.trans (BW.out.mono HB.out.size))
      have E5 := Lib.hid (arTo_tab xs ls ls.length)
      clear hat5 hn5 x0 x0'
      go_wp2_with fail
      refine (l05Make_any _ _ _ _ _ (by omega) H5.out N5.out).mono ?_
      rintro e w2 ⟨v2, rfl, ho, hb⟩
      obtain ⟨a2, k2, rfl⟩ := ho.form
      obtain ⟨lt2, z0, z1, z2, z3⟩ := Z1.out.keep hb
      have B3 := Lib.hid (B2.out.trans (hb.mono B2.out.size))
      have O2 := Lib.hid ho
      clear ho hb
      go_wp2
      refine bodyPost_ret (v := .agg #[.int .i64 (arTo xs ls ls.length).length, .slice a2 (arTo xs ls ls.length).length k2]) (by simp [results, Try.results60, go_sem, z0, z1]) rfl ⟨_, rfl, ?_, (B3.out.setCell (by show _ ≤ _; simp) _).setCell (by show _ ≤ _; simp) _⟩
      have e6 : arV xs ls = arTo xs ls ls.length := E5.out.symm
      rw [e6]
      exact (O2.out.out2 (by omega)).mono (by omega)

end Go.Proofs.Ytomldealpmohhaa
