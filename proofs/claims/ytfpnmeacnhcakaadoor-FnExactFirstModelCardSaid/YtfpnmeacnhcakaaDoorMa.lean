/- The models of a plain formula by the program. Conditions: the package's table reads as its text lays it (Tb), and those in the theorems. -/
import Derived.Test.YtfpnmeacnhcakaaDoorTv
namespace Go.Proofs.YtfpnmeacnhcakaaDoor
open Go.RowKit

/-- The package's table of rows reads as its text lays it. -/
def Tb (w : World) : Prop := ∀ s, s < 6 → w.cell? ⟨0, s, none⟩ = some (.int .u64 (U (vr s)))
theorem Tb.lt {w : World} (h : Tb w) : 0 < w.heap.size := World.block_lt_of_cell? _ _ (h 0 (by decide))
theorem Tb.keep {w w' : World} {C : Nat} (h : Tb w) (hb : Below C w w') (hC : w.heap.size ≤ C) : Tb w' := fun s hs =>
  (hb.cell (p := ⟨0, s, none⟩) (Nat.lt_of_lt_of_le h.lt hC)).trans (h s hs)
theorem AtN.nodeAt {w : World} {b off len : Nat} {xs : List Nd} (h : AtN w (some ⟨b, off, none⟩) len xs) {i : Nat} {f : Fm} {r : List Nd} (hd : xs.drop i = f.enc ++ r) : i < len ∧ b < w.heap.size ∧ w.cell? ⟨b, off + i * 2, none⟩ = some (.int .i64 f.kind) ∧ w.cell? ⟨b, off + i * 2 + 1, none⟩ = some (.int .i64 f.sym) := by
  have hl := h.1
  obtain ⟨h1, h2, h3⟩ := h.kindAt hd
  obtain ⟨b', off', ha, hb, hc⟩ := h.2.resolve_left (by omega)
  cases ha
  have e : sy xs i = f.sym := by
    cases f with
    | va s => exact sy_at hd
    | fa => exact sy_at hd
    | bi k a c => exact sy_at (x := (k, 0)) (r := a.enc ++ c.enc ++ r) (by rw [hd]; simp [Fm.enc])
    | un k a => exact sy_at (x := (k, 0)) (r := a.enc ++ r) (by rw [hd]; simp [Fm.enc])
  have := (hc i (by omega)).2
  rw [e] at this
  exact ⟨h1, h2, h3, this⟩
theorem ret_mw {a b : Int} {i j : Int} (h1 : a = b) (h2 : i = j) : Ending.returned (.tuple #[.int .u64 a, .int .i64 i]) = .returned (.tuple #[.int .u64 b, .int .i64 j]) := by rw [h1, h2]
def mwB (k : Int) (x y : BitVec 64) : BitVec 64 := if k = 2 then x &&& y else if k = 3 then x ||| y else ~~~x ||| y

set_option maxHeartbeats 2000000 in
theorem modelsAt_any (xs : List Nd) (b off len cap : Nat) (w : World) (hl : len ≤ 1048576) (h : AtN w (some ⟨b, off, none⟩) len xs) (hT : Tb w) (f : Fm) (hf : f.ok) (hp : f.pl) : ∀ (i : Nat) (r : List Nd), xs.drop i = f.enc ++ r →
    Calls Tryd.prog 52 #[.slice (some ⟨b, off, none⟩) len cap, .int .i64 i] w fun e w' => e = .returned (.tuple #[.int .u64 (U f.mw), .int .i64 ((i + f.sz : Nat) : Int)]) ∧ w = w' := by
  have H := Lib.hid h
  have T := Lib.hid hT
  clear h hT
  induction f with
  | va s =>
    intro i r hd
    obtain ⟨hi, hb, c1, c2⟩ := H.out.nodeAt hd
    have hs0 := hf.1
    have hs6 := hf.2
    obtain ⟨n, rfl⟩ : ∃ n : Nat, s = n := ⟨s.toNat, by omega⟩
    have hn : n < 6 := by omega
    replace c1 : w.cell? ⟨b, off + i * 2, none⟩ = some (.int .i64 0) := c1
    replace c2 : w.cell? ⟨b, off + i * 2 + 1, none⟩ = some (.int .i64 n) := c2
    have c3 := T.out n hn
    have E := Lib.hid (show U (vr n) = U (Fm.va (n : Int)).mw by simp [Fm.mw])
    clear hd hf hp hs0 hs6
    generalize U (vr n) = z at c3 E
    go_enter Tryd.func52, Tryd.ntmps52
    go_wp2
    go_ret2
    exact ⟨ret_mw E.out rfl, rfl⟩
  | fa =>
    intro i r hd
    obtain ⟨hi, hb, c1, c2⟩ := H.out.nodeAt hd
    replace c1 : w.cell? ⟨b, off + i * 2, none⟩ = some (.int .i64 1) := c1
    clear hd c2
    go_enter Tryd.func52, Tryd.ntmps52
    go_wp2
    go_ret2
    exact ⟨ret_mw rfl rfl, rfl⟩
  | un k g ih => exact hp.elim
  | bi k g d ihg ihd =>
    intro i r hd
    obtain ⟨hi, hb, c1, -⟩ := H.out.nodeAt hd
    have hd1 : xs.drop (i + 1) = g.enc ++ (d.enc ++ r) := drop_next (x := (k, 0)) (by rw [hd]; simp [Fm.enc])
    have hd2 : xs.drop (i + 1 + g.sz) = d.enc ++ r := by have := drop_add hd1; rwa [Fm.enc_len] at this
    have hsz := congrArg List.length hd1
    simp [Fm.enc_len] at hsz
    have hll := H.out.1
    have hgs : g.sz ≤ 1048576 := by omega
    have hgs3 : d.sz ≤ 1048576 := by omega
    have ig := ihg hf.2.1 hp.1 (i + 1) _ hd1
    have id := ihd hf.2.2 hp.2 (i + 1 + g.sz) _ hd2
    have e0 : mwB k g.mw d.mw = (Fm.bi k g d).mw := rfl
    have hk := hf.1
    replace c1 : w.cell? ⟨b, off + i * 2, none⟩ = some (.int .i64 k) := c1
    rw [← e0, show (Fm.bi k g d).sz = 1 + g.sz + d.sz from rfl]
    generalize g.mw = x at ig ⊢
    generalize d.mw = y at id ⊢
    have IG := Lib.hid ig
    have ID := Lib.hid id
    clear hd hd1 hd2 hsz ihg ihd hll ig id e0 hf hp
    rcases hk with rfl | rfl | rfl
    all_goals
      go_enter Tryd.func52, Tryd.ntmps52
      go_wp2_with fail
      refine IG.out.mono ?_
      rintro e w' ⟨rfl, rfl⟩
      go_wp2_with fail
      refine ID.out.mono ?_
      rintro e w' ⟨rfl, rfl⟩
      go_wp2
      go_ret2
      refine ⟨ret_mw ?_ (by omega), rfl⟩
      first | exact U_and x y | exact U_or x y | (rw [U_not]; exact U_or _ y) | (rw [show IntKind.u64.max = 18446744073709551615 from rfl, U_not]; exact U_or _ y)

/-- The models of a list of nodes: none where it is no plain formula. -/
noncomputable def mwR (xs : List Nd) : BitVec 64 := if ck xs = 0 then (toFm xs).mw else 0#64
theorem mwR_bad {xs : List Nd} (h : ck xs ≠ 0) : mwR xs = 0#64 := if_neg h
theorem mwR_good {xs : List Nd} (h : ck xs = 0) : mwR xs = (toFm xs).mw := if_pos h
/-- A list of nodes that came in and may be taken for a formula. -/
def NnA (w : World) (a : Option Addr) (cap : Nat) (xs : List Nd) : Prop := AtN w a xs.length xs ∧ xs.length ≤ cap ∧ cap ≤ maxLen
theorem NnA.keep {w w' : World} {C : Nat} {a : Option Addr} {cap : Nat} {xs : List Nd} (h : NnA w a cap xs) (hb : Below C w w') (hC : w.heap.size ≤ C) : NnA w' a cap xs := ⟨h.1.keep hb hC, h.2⟩

set_option maxHeartbeats 1000000 in
theorem modelsOf_any (xs : List Nd) (a : Option Addr) (cap : Nat) (w : World) (hl : xs.length ≤ 1048576) (h : AtN w a xs.length xs) (hT : Tb w) :
    Calls Tryd.prog 35 #[.slice a xs.length cap] w fun e w' => e = .returned (.tuple #[.int .u64 (U (mwR xs)), .int .i64 (ck xs)]) ∧ Below w.heap.size w w' := by
  have CN := ck1_any xs a xs.length cap w.heap.size w hl h 26 rfl
  have H := Lib.hid h
  have T := Lib.hid hT
  clear h hT
  by_cases hc : ck xs = 0
  · obtain ⟨hb, hpl⟩ := ck_good hc
    obtain ⟨f1, f2, f3⟩ := toFm_of hb
    have f4 := toFm_pl hb hpl
    have h40 := (is_pos' hb).2
    have E := Lib.hid (mwR_good hc)
    rw [hc] at CN ⊢
    have C := Lib.hid CN
    have F1 := Lib.hid f1
    have F4 := Lib.hid f4
    have D := Lib.hid (show xs.drop 0 = (toFm xs).enc ++ [] by rw [List.drop_zero, List.append_nil]; exact f2)
    have hpos := (is_pos' hb).1
    have hat' := H.out
    obtain ⟨b, off, ha, -, -⟩ := hat'.2.resolve_left (by omega)
    subst ha
    clear hat' hc hb hpl f1 f2 f3 f4 CN
    go_enter Tryd.func35, Tryd.ntmps35
    go_wp2_with fail
    refine C.out.mono ?_
    rintro e w1 ⟨rfl, hb1⟩
    have B1 := Lib.hid hb1
    clear hb1
    go_wp2_with fail
    refine (modelsAt_any xs b off xs.length cap w1 hl (H.out.keep B1.out (Nat.le_refl _)) (T.out.keep B1.out (Nat.le_refl _)) (toFm xs) F1.out F4.out 0 [] D.out).mono ?_
    rw [← E.out]
    rintro e w' ⟨rfl, rfl⟩
    go_wp2
    go_ret2
    exact ⟨rfl, B1.out⟩
  · rw [mwR_bad hc]
    have C := Lib.hid CN
    have hne : (ck xs == 0) = false := by simpa using hc
    generalize ck xs = z at C hne ⊢
    clear CN hc
    go_enter Tryd.func35, Tryd.ntmps35
    go_wp2_with fail
    refine C.out.mono ?_
    rintro e w1 ⟨rfl, hb1⟩
    have B1 := Lib.hid hb1
    clear hb1
    go_wp2
    go_ret2
    exact ⟨rfl, B1.out⟩

end Go.Proofs.YtfpnmeacnhcakaaDoor
