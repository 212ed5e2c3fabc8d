/- 2 texts in one: Ma, Fs. -/
import Derived.Test.YtfkahkhmnchnjaaDoorTv
/- The models of a plain formula by the program. Conditions: the package's table reads as its text lays it (Tb), and those in the theorems. -/
namespace Go.Proofs.YtfkahkhmnchnjaaDoor
open Go.RowKit

/-- The package's table of rows reads as its text lays it. -/
def Tb (w : World) : Prop := ∀ s, s < 6 → w.cell? ⟨1, s, none⟩ = some (.int .u64 (U (vr s)))
theorem Tb.lt {w : World} (h : Tb w) : 1 < w.heap.size := World.block_lt_of_cell? _ _ (h 0 (by decide))
theorem Tb.keep {w w' : World} {C : Nat} (h : Tb w) (hb : Below C w w') (hC : w.heap.size ≤ C) : Tb w' := fun s hs =>
  (hb.cell (p := ⟨1, s, none⟩) (Nat.lt_of_lt_of_le h.lt hC)).trans (h s hs)
theorem AtN.nodeAt {w : World} {b off len : Nat} {xs : List Nd} (h : AtN w (some ⟨b, off, none⟩) len xs) {i : Nat} {f : Fm} {r : List Nd} (hd : xs.drop i = f.enc ++ r) : i < len ∧ b < w.heap.size ∧ w.cell? ⟨b, off + i * 2, none⟩ = some (.int .i64 f.kind) ∧ w.cell? ⟨b, off + i * 2 + 1, none⟩ = some (.int .i64 f.sym) := by
  have hl := h.1
  obtain ⟨h1, h2, h3⟩ := h.kindAt hd
  obtain ⟨b', off', ha, hb, hc⟩ := h.2.resolve_left (by omega)
  cases ha
  have e : sy xs i = f.sym := by
    cases f with
    | va s => exact sy_at hd
    | fa => exact sy_at hd
    | bi k a c => exact sy_at (x := (k, 0)) (r := a.enc ++ c.enc ++ r) (by rw [hd]; simp [Fm.enc])
    | un k a => exact sy_at (x := (k, 0)) (r := a.enc ++ r) (by rw [hd]; simp [Fm.enc])
  have := (hc i (by omega)).2
  rw [e] at this
  exact ⟨h1, h2, h3, this⟩
theorem ret_mw {a b : Int} {i j : Int} (h1 : a = b) (h2 : i = j) : Ending.returned (.tuple #[.int .u64 a, .int .i64 i]) = .returned (.tuple #[.int .u64 b, .int .i64 j]) := by rw [h1, h2]
def mwB (k : Int) (x y : BitVec 64) : BitVec 64 := if k = 2 then x &&& y else if k = 3 then x ||| y else ~~~x ||| y

set_option maxHeartbeats 2000000 in
theorem modelsAt_any (xs : List Nd) (b off len cap : Nat) (w : World) (hl : len ≤ 1048576) (h : AtN w (some ⟨b, off, none⟩) len xs) (hT : Tb w) (f : Fm) (hf : f.ok) (hp : f.pl) : ∀ (i : Nat) (r : List Nd), xs.drop i = f.enc ++ r →
    Calls Tryd.prog 35 #[.slice (some ⟨b, off, none⟩) len cap, .int .i64 i] w fun e w' => e = .returned (.tuple #[.int .u64 (U f.mw), .int .i64 ((i + f.sz : Nat) : Int)]) ∧ w = w' := by
  have H := Lib.hid h
  have T := Lib.hid hT
  clear h hT
  induction f with
  | va s =>
    intro i r hd
    obtain ⟨hi, hb, c1, c2⟩ := H.out.nodeAt hd
    have hs0 := hf.1
    have hs6 := hf.2
    obtain ⟨n, rfl⟩ : ∃ n : Nat, s = n := ⟨s.toNat, by omega⟩
    have hn : n < 6 := by omega
    replace c1 : w.cell? ⟨b, off + i * 2, none⟩ = some (.int .i64 0) := c1
    replace c2 : w.cell? ⟨b, off + i * 2 + 1, none⟩ = some (.int .i64 n) := c2
    have c3 := T.out n hn
    have E := Lib.hid (show U (vr n) = U (Fm.va (n : Int)).mw by simp [Fm.mw])
    clear hd hf hp hs0 hs6
    generalize U (vr n) = z at c3 E
    go_enter Tryd.func35, Tryd.ntmps35
    go_wp2
    go_ret2
    exact ⟨ret_mw E.out rfl, rfl⟩
  | fa =>
    intro i r hd
    obtain ⟨hi, hb, c1, c2⟩ := H.out.nodeAt hd
    replace c1 : w.cell? ⟨b, off + i * 2, none⟩ = some (.int .i64 1) := c1
    clear hd c2
    go_enter Tryd.func35, Tryd.ntmps35
    go_wp2
    go_ret2
    exact ⟨ret_mw rfl rfl, rfl⟩
  | un k g ih => exact hp.elim
  | bi k g d ihg ihd =>
    intro i r hd
    obtain ⟨hi, hb, c1, -⟩ := H.out.nodeAt hd
    have hd1 : xs.drop (i + 1) = g.enc ++ (d.enc ++ r) := drop_next (x := (k, 0)) (by rw [hd]; simp [Fm.enc])
    have hd2 : xs.drop (i + 1 + g.sz) = d.enc ++ r := by have := drop_add hd1; rwa [Fm.enc_len] at this
    have hsz := congrArg List.length hd1
    simp [Fm.enc_len] at hsz
    have hll := H.out.1
    have hgs : g.sz ≤ 1048576 := by omega
    have hgs3 : d.sz ≤ 1048576 := by omega
    have ig := ihg hf.2.1 hp.1 (i + 1) _ hd1
    have id := ihd hf.2.2 hp.2 (i + 1 + g.sz) _ hd2
    have e0 : mwB k g.mw d.mw = (Fm.bi k g d).mw := rfl
    have hk := hf.1
    replace c1 : w.cell? ⟨b, off + i * 2, none⟩ = some (.int .i64 k) := c1
    rw [← e0, show (Fm.bi k g d).sz = 1 + g.sz + d.sz from rfl]
    generalize g.mw = x at ig ⊢
    generalize d.mw = y at id ⊢
    have IG := Lib.hid ig
    have ID := Lib.hid id
    clear hd hd1 hd2 hsz ihg ihd hll ig id e0 hf hp
    rcases hk with rfl | rfl | rfl
    all_goals
      go_enter Tryd.func35, Tryd.ntmps35
      go_wp2_with fail
      refine IG.out.mono ?_
      rintro e w' ⟨rfl, rfl⟩
      go_wp2_with fail
      refine ID.out.mono ?_
      rintro e w' ⟨rfl, rfl⟩
      go_wp2
      go_ret2
      refine ⟨ret_mw ?_ (by omega), rfl⟩
      first | exact U_and x y | exact U_or x y | (rw [U_not]; exact U_or _ y) | (rw [show IntKind.u64.max = 18446744073709551615 from rfl, U_not]; exact U_or _ y)

/-- The models of a list of nodes: none where it is no plain formula. -/
noncomputable def mwR (xs : List Nd) : BitVec 64 := if ck xs = 0 then (toFm xs).mw else 0#64
theorem mwR_bad {xs : List Nd} (h : ck xs ≠ 0) : mwR xs = 0#64 := if_neg h
theorem mwR_good {xs : List Nd} (h : ck xs = 0) : mwR xs = (toFm xs).mw := if_pos h
/-- A list of nodes that came in and may be taken for a formula. -/
def NnA (w : World) (a : Option Addr) (cap : Nat) (xs : List Nd) : Prop := AtN w a xs.length xs ∧ xs.length ≤ cap ∧ cap ≤ maxLen
theorem NnA.keep {w w' : World} {C : Nat} {a : Option Addr} {cap : Nat} {xs : List Nd} (h : NnA w a cap xs) (hb : Below C w w') (hC : w.heap.size ≤ C) : NnA w' a cap xs := ⟨h.1.keep hb hC, h.2⟩

set_option maxHeartbeats 1000000 in
theorem modelsOf_any (xs : List Nd) (a : Option Addr) (cap : Nat) (w : World) (hl : xs.length ≤ 1048576) (h : AtN w a xs.length xs) (hT : Tb w) :
    Calls Tryd.prog 19 #[.slice a xs.length cap] w fun e w' => e = .returned (.tuple #[.int .u64 (U (mwR xs)), .int .i64 (ck xs)]) ∧ Below w.heap.size w w' := by
  have CN := ck1_any xs a xs.length cap w.heap.size w hl h 24 rfl
  have H := Lib.hid h
  have T := Lib.hid hT
  clear h hT
  by_cases hc : ck xs = 0
  · obtain ⟨hb, hpl⟩ := ck_good hc
    obtain ⟨f1, f2, f3⟩ := toFm_of hb
    have f4 := toFm_pl hb hpl
    have h40 := (is_pos' hb).2
    have E := Lib.hid (mwR_good hc)
    rw [hc] at CN ⊢
    have C := Lib.hid CN
    have F1 := Lib.hid f1
    have F4 := Lib.hid f4
    have D := Lib.hid (show xs.drop 0 = (toFm xs).enc ++ [] by rw [List.drop_zero, List.append_nil]; exact f2)
    have hpos := (is_pos' hb).1
    have hat' := H.out
    obtain ⟨b, off, ha, -, -⟩ := hat'.2.resolve_left (by omega)
    subst ha
    clear hat' hc hb hpl f1 f2 f3 f4 CN
    go_enter Tryd.func19, Tryd.ntmps19
    go_wp2_with fail
    refine C.out.mono ?_
    rintro e w1 ⟨rfl, hb1⟩
    have B1 := Lib.hid hb1
    clear hb1
    go_wp2_with fail
    refine (modelsAt_any xs b off xs.length cap w1 hl (H.out.keep B1.out (Nat.le_refl _)) (T.out.keep B1.out (Nat.le_refl _)) (toFm xs) F1.out F4.out 0 [] D.out).mono ?_
    rw [← E.out]
    rintro e w' ⟨rfl, rfl⟩
    go_wp2
    go_ret2
    exact ⟨rfl, B1.out⟩
  · rw [mwR_bad hc]
    have C := Lib.hid CN
    have hne : (ck xs == 0) = false := by simpa using hc
    generalize ck xs = z at C hne ⊢
    clear CN hc
    go_enter Tryd.func19, Tryd.ntmps19
    go_wp2_with fail
    refine C.out.mono ?_
    rintro e w1 ⟨rfl, hb1⟩
    have B1 := Lib.hid hb1
    clear hb1
    go_wp2
    go_ret2
    exact ⟨rfl, B1.out⟩

end Go.Proofs.YtfkahkhmnchnjaaDoor

/- The first row with a value by the model; IsTautology of the model and of the program. Conditions: the package's table for the program, and those in the theorems. -/
namespace Go.Proofs.YtfkahkhmnchnjaaDoor
open Go.RowKit

/-- The number of the first element that is v, counted from k; -1 if none is. -/
def fs : List Bool → Bool → Nat → Int
  | [], _, _ => -1
  | b :: bs, v, k => if b = v then k else fs bs v (k + 1)
theorem fs_end {bs : List Bool} {v : Bool} {k n : Nat} (h : fs bs v 0 = fs (bs.drop k) v k) (hk : k = n) (hn : n = bs.length) : fs bs v 0 = -1 := by
  rw [h, List.drop_eq_nil_of_le (by omega)]; rfl
theorem fs_hit {bs : List Bool} {v : Bool} {k n : Nat} (h : fs bs v 0 = fs (bs.drop k) v k) (hk : k < n) (hn : n = bs.length) (e : bs.getD k false = v) : fs bs v 0 = k := by
  subst hn
  rw [h, List.drop_eq_getElem_cons hk, fs, if_pos (by rw [← e]; simp [List.getD, hk])]
theorem fs_go {bs : List Bool} {v : Bool} {k n : Nat} (h : fs bs v 0 = fs (bs.drop k) v k) (hk : k < n) (hn : n = bs.length) (e : bs.getD k false ≠ v) : fs bs v 0 = fs (bs.drop (k + 1)) v (k + 1) := by
  subst hn
  rw [h, List.drop_eq_getElem_cons hk, fs, if_neg (by intro e2; exact e (by rw [← e2]; simp [List.getD, hk]))]
theorem fs_neg {bs : List Bool} {v : Bool} (k : Nat) : fs bs v k < 0 ↔ ∀ b ∈ bs, b ≠ v := by
  induction bs generalizing k with
  | nil => simp [fs]
  | cons b bs ih =>
    rw [fs]
    split
    · rename_i h; subst h; simp
    · rename_i h
      rw [ih]; simp [h]
theorem fs_tbl {f : Fm} {v : Bool} : fs (tbl f 64) v 0 < 0 ↔ ∀ r, r < 64 → f.ev r ≠ v := by
  rw [fs_neg]
  simp [tbl]
theorem all_ones (f : Fm) (hf : f.ok) : (U f.mw == 18446744073709551615) = decide (fs (tbl f 64) false 0 < 0) := by
  rw [U_all, U_beq, Bool.eq_iff_iff, beq_iff_eq, decide_eq_true_eq, fs_tbl]
  constructor
  · intro h r hr
    rw [← Fm.mw_row f hf r hr, h, BitVec.getLsbD_allOnes]; simp [hr]
  · intro h
    refine word_ext fun r hr => ?_
    rw [Fm.mw_row f hf r hr, BitVec.getLsbD_allOnes]
    have := h r hr
    cases e : f.ev r
    · exact (this e).elim
    · simp [hr]

noncomputable def tauR (xs : List Nd) : Bool := if ck xs = 0 then decide (fs (tbl (toFm xs) 64) false 0 < 0) else false
theorem tauR_bad {xs : List Nd} (h : ck xs ≠ 0) : tauR xs = false := if_neg h
theorem tauR_good {xs : List Nd} (h : ck xs = 0) : tauR xs = decide (fs (tbl (toFm xs) 64) false 0 < 0) := if_pos h
theorem plain_at {xs : List Nd} {a : Option Addr} {cap : Nat} {w : World} (hc : ck xs = 0) (h : AtN w a xs.length xs) (h1 : xs.length ≤ cap) (h2 : cap ≤ maxLen) :
    ∃ b off, a = some ⟨b, off, none⟩ ∧ AtF w b off xs.length cap (toFm xs) ∧ (toFm xs).ok ∧ (toFm xs).pl ∧ xs.length ≤ 40 := by
  obtain ⟨hb, hpl⟩ := ck_good hc
  obtain ⟨b, off, ha, hf⟩ := h.formula hb h1 h2
  exact ⟨b, off, ha, hf, (toFm_of hb).1, toFm_pl hb hpl, (is_pos' hb).2⟩
theorem ret_bi {a b : Bool} {i j : Int} (h1 : a = b) (h2 : i = j) : Ending.returned (.tuple #[.bool a, .int .i64 i]) = .returned (.tuple #[.bool b, .int .i64 j]) := by rw [h1, h2]

set_option maxHeartbeats 1000000 in
theorem implIsTautology_v (x0 : List Nd) (v : Value) (lo hi : Nat) (w : World) (hl : x0.length ≤ 1048576) (h : InN w lo hi v x0) (hT : Tb w) :
    Calls Tryd.prog 10 #[v] w fun e w' => e = .returned (.tuple #[.bool (tauR x0), .int .i64 (ck x0)]) ∧ Below w.heap.size w w' := by
  obtain ⟨a, cap, rfl, hat, hca, hcb⟩ := h.at'
  have MM := modelsOf_any x0 a cap w hl hat hT
  clear h hat hT
  by_cases hc : ck x0 = 0
  · have E := Lib.hid (all_ones (toFm x0) (toFm_of (ck_good hc).1).1)
    rw [tauR_good hc]
    rw [hc, mwR_good hc] at MM
    rw [hc]
    have C := Lib.hid MM
    clear MM hc
    generalize U (toFm x0).mw = y at C E ⊢
    go_enter Tryd.func10, Tryd.ntmps10
    go_wp2_with fail
    refine C.out.mono ?_
    rintro e w1 ⟨rfl, hb1⟩
    have B1 := Lib.hid hb1
    clear hb1 C
    go_wp2
    go_ret2
    exact ⟨ret_bi (by first | exact E.out | simpa using E.out) rfl, B1.out⟩
  · rw [tauR_bad hc]
    rw [mwR_bad hc] at MM
    have C := Lib.hid MM
    have hne : (ck x0 == 0) = false := by simpa using hc
    generalize ck x0 = z at C hne ⊢
    clear MM hc
    go_enter Tryd.func10, Tryd.ntmps10
    go_wp2_with fail
    refine C.out.mono ?_
    rintro e w1 ⟨rfl, hb1⟩
    have B1 := Lib.hid hb1
    clear hb1
    go_wp2
    go_ret2
    exact ⟨rfl, B1.out⟩

end Go.Proofs.YtfkahkhmnchnjaaDoor
