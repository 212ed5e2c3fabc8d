/- Contracts of arranged of the program and of PartOfFrame of both. Conditions: those in the theorems. -/
import Derived.Test.YtomldealpmohhaaPrt
import Derived.Test.YtomldealpmohhaaSum
namespace Go.Proofs.Ytomldealpmohhaa
open Go.RowKit

/-- The row under way: entries below i are done. -/
def arS (xs ls : List Int) (i t : Nat) : Int := if t < i then arF xs ls t else 0
theorem arS_start (xs ls : List Int) (t : Nat) : arS xs ls 0 t = 0 := by unfold arS; rw [if_neg (by omega)]
theorem arS_all {xs ls : List Int} {n t : Nat} (h : t < n) : arS xs ls n t = arF xs ls t := by unfold arS; rw [if_pos h]
theorem arS_set {xs ls : List Int} {k : Nat} {z : Int} (hz : z = arF xs ls k) (t : Nat) : (if t = k then z else arS xs ls k t) = arS xs ls (k + 1) t := by
  unfold arS
  by_cases e : t = k
  · subst e; rw [if_pos rfl, if_pos (by omega), hz]
  · rw [if_neg e]
    by_cases h2 : t < k
    · rw [if_pos h2, if_pos (by omega)]
    · rw [if_neg h2, if_neg (by omega)]

set_option maxHeartbeats 400000 in
theorem placesIn_any (ls : List Int) (x : Int) (n : Nat) (a : Option Addr) (len cap : Nat) (w : World) (hl : len ≤ 30) (hn : n ≤ 30) (hok : LsOk n ls) (h : At w a len ls) :
    Calls Try.prog 100 #[.slice a len cap, .int .i64 x] w fun e w' => e = .returned (.int .i64 (sqTo ls x len)) ∧ w = w' := by
  obtain rfl := h.1
  have H := Lib.hid h
  have OK := Lib.hid hok
  clear h hok
  go_enter Try.func100, Try.ntmps100
  go_wp2
  go_loop [5, 10] (fun s i => ∃ k : Nat, k ≤ ls.length ∧ i = .int .i64 k ∧ s = .int .i64 (sqTo ls x k)) (fun _ i => ls.length - (intOf i).toNat)
  case atStart => exact ⟨0, Nat.zero_le _, rfl, rfl⟩
  case round =>
    obtain ⟨k, hk, rfl, rfl⟩ := hrel
    by_cases hlt : k < ls.length
    · obtain ⟨b, off, rfl, -, hc⟩ := H.out.2.resolve_left (by omega)
      obtain ⟨p, hp, hpn⟩ := OK.out k hlt
      have hcell := hc k hlt
      rw [hp] at hcell
      have HP := Lib.hid hp
      clear hc hp
      cases hb : bitB x (p : Int)
      all_goals
        have HB := Lib.hid hb
        go_wp2_with (go_at_call 54; refine (hasMember_any _ _ _ (by omega) (by omega)).mono ?_; rw [HB.out]; rintro e w' ⟨rfl, rfl⟩)
        go_round
        case rel => exact ⟨k + 1, hlt, by go_num, by simp [sqTo, HP.out, HB.out, one]⟩
        case measure => simp [intOf]; omega
    · obtain rfl : k = ls.length := by omega
      go_wp2
      go_ret
      exact ⟨rfl, rfl⟩

set_option maxHeartbeats 2000000 in
set_option maxRecDepth 100000 in
theorem arranged_any (n : Int) (xs ls : List Int) (a al : Option Addr) (len cap ll cl : Nat) (w : World) (hl : len ≤ 30) (hll : ll ≤ 30) (hok : LsOk len ls) (h : At w a len xs) (h' : At w al ll ls) :
    Calls Try.prog 101 #[.agg #[.int .i64 n, .slice a len cap], .slice al ll cl] w fun e w' => ∃ v, e = .returned v ∧ OwnF w' w.heap.size v (arV xs ls).length (arV xs ls) ∧ Below w.heap.size w w' := by
  obtain ⟨W, hW, HB, X, Z, hWs⟩ := boxF1 w n a len cap
  have H := Lib.hid (h.keep HB.out (Nat.le_refl _))
  have H' := Lib.hid (h'.keep HB.out (Nat.le_refl _))
  have hmk := fun (W : World) => run_make_row' (P := Try.prog) 87 2 (.int .i64 0) 8 Try.underlying87 info64 rfl .i64 .i64 ll (by omega) (by omega) W
  have hr0 := World.rowIs_made W (.int .i64 0) ll 2
  rw [hWs] at hr0
  have HR0 := Lib.hid hr0
  have HBV := Lib.hid ((Below.refl (w.heap.size + 1 + 1) W).alloc (by omega) (.cells (madeCells #[.int .i64 0] ll) 2))
  have hz0 : w.heap.size + 1 + 1 ≤ W.heap.size := by omega
  have hz1 : W.heap.size ≤ w.heap.size + 1 + 1 := by omega
  obtain rfl := h.1
  obtain rfl := h'.1
  have OK := Lib.hid hok
  have HW := Lib.hid hW
  clear h h' hr0 hW hWs hok
  go_enter Try.func101, Try.ntmps101
  go_wp2
  clear hmk
  go_loopw [13] (fun i wr => ∃ k : Nat, k ≤ ls.length ∧ i = .int .i64 k ∧ wr.rowIs (w.heap.size + 1 + 1) 2 ls.length (fun t => .int .i64 (arS xs ls k t)) ∧ Hid (Below (w.heap.size + 1 + 1) W wr)) (fun i _ => ls.length - (intOf i).toNat)
  case atStart =>
    rw [← HW.out]
    exact ⟨0, Nat.zero_le _, rfl, HR0.out.congr fun t _ => by rw [arS_start], HBV⟩
  case round =>
    obtain ⟨k, hk, rfl, hrow, B⟩ := hrel
    have hsz := B.out.size
    by_cases hlt : k < ls.length
    · obtain ⟨p, hp, hpn⟩ := OK.out k hlt
      have HL := Lib.hid (H'.out.keep B.out (by omega))
      obtain ⟨b', off', rfl, hb', hc'⟩ := H'.out.2.resolve_left (by omega)
      obtain ⟨b, off, rfl, hb, hc⟩ := H.out.2.resolve_left (by omega)
      have hcell' : wr.cell? ⟨b', off' + k, none⟩ = some (.int .i64 (p : Int)) := (B.out.cell (p := ⟨b', off' + k, none⟩) (Nat.lt_of_lt_of_le hb' hz1)).trans (by rw [hc' k hlt, hp])
      have hcx : wr.cell? ⟨b, off + p, none⟩ = some (.int .i64 (nth xs p)) := (B.out.cell (p := ⟨b, off + p, none⟩) (Nat.lt_of_lt_of_le hb hz1)).trans (hc p hpn)
      have hcg : wr.cell? ⟨w.heap.size + 1 + 1, k, none⟩ = some (.int .i64 (arS xs ls k k)) := hrow.cell hlt
      have hfg : wr.frozen? ⟨w.heap.size + 1 + 1, k, none⟩ = false := hrow.frozen k
      obtain ⟨lt0, x0, x0'⟩ := X.out.below B.out (by omega)
      have EF := Lib.hid (show sqTo ls (nth xs p) ls.length = arF xs ls k by rw [arF, hp, Int.toNat_natCast])
      have HROW := Lib.hid hrow
      clear hc hc' hp hrow
      go_wp2_with (go_at_call 100; refine (placesIn_any ls _ xs.length _ _ _ _ (by omega) (by omega) OK.out HL.out).mono ?_; rw [EF.out]; rintro e w' ⟨rfl, rfl⟩)
      go_roundw
      case rel => exact ⟨k + 1, hlt, by go_num, row_setI HROW.out (fun t => arS_set rfl t), Lib.hid (B.out.setCell (p := ⟨w.heap.size + 1 + 1, k, none⟩) (Nat.le_refl _) _)⟩
      case measure => simp [intOf]; omega
    · obtain rfl : k = ls.length := by omega
      have O5 := Lib.hid (own_of_row (B := w.heap.size + 1 + 1) (Nat.le_refl _) (by omega) (hrow.congr fun t ht => by rw [arS_all ht]))
      have Z1 := Lib.hid (Z.out.below B.out (by omega))
      have B2 := Lib.hid (HB.out.trans (B.out.mono (by omega)))
      clear hrow
      go_wp2_with fail
      refine (frameOf_any _ _ _ _ (by omega)).mono ?_
      rintro e w2 ⟨rfl, hb⟩
      obtain ⟨lt2, z0, z1, z2, z3⟩ := Z1.out.keep hb
      have B3 := Lib.hid (B2.out.trans (hb.mono B2.out.size))
      have O6 := Lib.hid (O5.out.keep hb (Nat.le_refl _))
      clear hb O5
      go_wp2
      refine bodyPost_ret (v := .agg #[.int .i64 ls.length, .slice (some ⟨w.heap.size + 1 + 1, 0, none⟩) ls.length ls.length]) (by simp [results, Try.results101, go_sem, z0, z1]) rfl ⟨_, rfl, ?_, (B3.out.setCell (by show _ ≤ _; simp) _).setCell (by show _ ≤ _; simp) _⟩
      have e6 : ((arV xs ls).length : Int) = ls.length := by rw [arV, tab_len]
      rw [e6]
      exact ((OwnF.mk (n := ls.length) O6.out).out2 (by omega)).mono (by omega)

def prL (n : Int) (xs : List Int) (m : Int) : List Int := if cwV n xs m = 0 then arV xs (memTo m.toNat xs.length) else []
theorem pr_ok {n m : Int} {xs : List Int} (h : cwV n xs m = 0) : prL n xs m = arV xs (memTo m.toNat xs.length) := if_pos h
theorem pr_bad {n m : Int} {xs : List Int} (h : ¬ cwV n xs m = 0) : prL n xs m = [] := if_neg h
theorem RF.bad' {w : World} {B : Nat} {c c' n : Int} {xs : List Int} (h : c = c') (hn : n = 0) (hx : xs = []) : RF w B n c' xs (.returned (.tuple #[.agg #[.int .i64 0, .slice none 0 0], .int .i64 c])) := by
  subst h hn hx
  exact ⟨_, rfl, OwnF.mk (World.ownsRow_nil _ _ _ _)⟩

end Go.Proofs.Ytomldealpmohhaa
