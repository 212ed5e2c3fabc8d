/- 3 texts in one: PrB, PrM, PmM. -/
import Derived.Shelf.Small.Strs
import Derived.Deep.AppendLies
import Derived.Test.YtfkdefmafhlmnaaCnP
import Derived.Test.YtfkdefmafhlmnaaPoM
import Derived.Test.YtfkdefmafhlmnaaJn06
/- The reader of point formulas: the library's IndexByte laid, the reader in its box, and its small steps: next, point, add. Conditions: those in the theorems. -/
namespace Go.Proofs.Ytfkdefmafhlmnaa
open Go.RowKit Go.Shelf

def ixb_ren : Ren := ⟨fun | 137 => 76 | 217 => 103 | 266 => 120 | n => n, fun | 3 => 3 | 5 => 5 | 9 => 9 | n => n, fun n => n⟩
theorem ixbL : Lays.n137 Try.prog ixb_ren where
  mixed := by kernel_rfl
  f137 := Try.func76.trans (congrArg some (by kernel_rfl))
  f217 := Try.func103.trans (congrArg some (by kernel_rfl))
  f266 := Try.func120.trans (congrArg some (by kernel_rfl))
  t3 := Try.underlying3
  a3 := Try.isAgg3
  z3 := Try.sizeOf3
  v3 := Try.zeroValue3
  t5 := Try.underlying5
  a5 := Try.isAgg5
  z5 := Try.sizeOf5
  v5 := Try.zeroValue5
  t9 := Try.underlying9
  a9 := Try.isAgg9
  z9 := Try.sizeOf9
  v9 := Try.zeroValue9
/-- Where a byte stands first in a list, or -1. -/
def ixB (l : List UInt8) (c : Nat) : Int := Lib.indexByte l c.toUInt8
theorem indexByte_any (l : List UInt8) (c : Nat) (w : World) :
    Calls Try.prog 76 #[.string ⟨l.toArray⟩, .int .u8 c] w fun e w' => e = .returned (.int .i64 (ixB l c)) ∧ w' = w := by
  refine (Any.strings_IndexByte ixbL ⟨l.toArray⟩ c w).mono ?_
  rintro e w' ⟨rfl, rfl⟩
  exact ⟨rfl, rfl⟩

def stq (ys : List UInt8) : ByteArray := ⟨ys.toArray⟩
theorem stq_size (ys : List UInt8) : (stq ys).size = ys.length := by simp [stq, ByteArray.size]
/-- The first byte of a text, or 0; as a point. -/
def hdN : List UInt8 → Nat
  | [] => 0
  | c :: _ => c.toNat
def ptN (s : List UInt8) : Int := (hdN s : Int) - 48
theorem hdN_lt (s : List UInt8) : hdN s < 256 := by
  cases s with
  | nil => decide
  | cons c s => exact c.toNat_lt
/-- The reader lies in block b: what is left of the text, and the list that it owns, in later blocks. -/
def Rd (w : World) (b : Nat) (s : List UInt8) (v : Value) (ls : List Pd) : Prop :=
  b < w.heap.size ∧ w.cell? ⟨b, 0, none⟩ = some (.string (stq s)) ∧ w.cell? ⟨b, 1, none⟩ = some v ∧ w.frozen? ⟨b, 0, none⟩ = false ∧ w.frozen? ⟨b, 1, none⟩ = false ∧ OwnP w (b + 1) v ls
theorem Rd.ne {w : World} {b : Nat} {s : List UInt8} {v : Value} {ls : List Pd} (h : Rd w b s v ls) : ∀ k, v.ownBlock = some k → ¬ k = b := fun k hk e => by
  have := (World.ownsRow.lt h.2.2.2.2.2 k hk).1; omega
theorem OwnP.keptR {w w' : World} {B : Nat} {v : Value} {xs : List Pd} {r : Option Nat} (h : OwnP w B v xs) (hg : w.grownBy w' r) (hne : ∀ k, v.ownBlock = some k → ¬ r = some k) : OwnP w' B v xs := by
  refine World.ownsRow.kept h hg ?_
  cases hv : v.ownBlock with
  | none => exact .inl rfl
  | some k => exact .inr (fun e => hne k hv e.symm)
theorem grown_setR (w : World) (b o : Nat) (v : Value) : w.grownBy (w.setCell ⟨b, o, none⟩ v) (some b) :=
  ⟨rfl, rfl, rfl, by simp [World.setCell], fun k _ hne => Below.heap_setCell _ _ _ _ (fun e => hne (by rw [e]))⟩
theorem Rd.put0 {w : World} {b : Nat} {s : List UInt8} {v : Value} {ls : List Pd} (h : Rd w b s v ls) (s' : List UInt8) : Rd (w.setCell ⟨b, 0, none⟩ (.string (stq s'))) b s' v ls := by
  have h8 := h.ne
  obtain ⟨h2, h3, h4, h5, h6, h7⟩ := h
  refine ⟨by simpa [World.setCell] using h2, World.cell?_setCell_same _ _ _ h3, ?_, by rw [World.frozen?_setCell]; exact h5, by rw [World.frozen?_setCell]; exact h6, h7.keptR (grown_setR w b 0 _) (fun k hk e => h8 k hk (by injection e with e; exact e.symm))⟩
  rw [World.cell?_setCell_other _ _ _ _ (fun e => by cases e)]; exact h4
theorem Rd.grown {w w2 : World} {b : Nat} {s : List UInt8} {v v' : Value} {ls ls' : List Pd} (h : Rd w b s v ls) (hg : w.grownBy w2 v.ownBlock) (ho : OwnP w2 (b + 1) v' ls') :
    w2.cell? ⟨b, 1, none⟩ = some v ∧ w2.frozen? ⟨b, 1, none⟩ = false ∧ Rd (w2.setCell ⟨b, 1, none⟩ v') b s v' ls' ∧ Below b w (w2.setCell ⟨b, 1, none⟩ v') := by
  have h8 := h.ne
  obtain ⟨h2, h3, h4, h5, h6, h7⟩ := h
  have ne : ∀ o, some (⟨b, o, none⟩ : Addr).block ≠ v.ownBlock := fun o e => h8 b e.symm rfl
  have c1 : w2.cell? ⟨b, 1, none⟩ = some v := hg.cell h4 (ne 1)
  have c0 : w2.cell? ⟨b, 0, none⟩ = some (.string (stq s)) := hg.cell h3 (ne 0)
  have f1 : w2.frozen? ⟨b, 1, none⟩ = false := (hg.frozen_far ⟨b, 1, none⟩ h2 (ne 1)).trans h6
  have f0 : w2.frozen? ⟨b, 0, none⟩ = false := (hg.frozen_far ⟨b, 0, none⟩ h2 (ne 0)).trans h5
  have hs := hg.size
  refine ⟨c1, f1, ⟨by simpa [World.setCell] using Nat.lt_of_lt_of_le h2 hs, ?_, World.cell?_setCell_same _ _ _ c1, by rw [World.frozen?_setCell]; exact f0, by rw [World.frozen?_setCell]; exact f1, ho.keptR (grown_setR w2 b 1 _) (fun k hk e => by injection e with e; have := (World.ownsRow.lt ho k hk).1; omega)⟩, ?_⟩
  · rw [World.cell?_setCell_other _ _ _ _ (fun e => by cases e)]; exact c0
  · exact ((Below.refl b w).grown hg (by omega) (fun k hk => by have := (World.ownsRow.lt h7 k hk).1; omega)).setCell (p := ⟨b, 1, none⟩) (Nat.le_refl _) _
theorem Rd.keep {w w' : World} {b : Nat} {s : List UInt8} {v : Value} {ls : List Pd} (h : Rd w b s v ls) (hb : Below w.heap.size w w') : Rd w' b s v ls := by
  obtain ⟨h2, h3, h4, h5, h6, h7⟩ := h
  exact ⟨Nat.lt_of_lt_of_le h2 hb.size, (hb.cell (p := ⟨b, 0, none⟩) h2).trans h3, (hb.cell (p := ⟨b, 1, none⟩) h2).trans h4, (hb.frozen (p := ⟨b, 0, none⟩) h2).trans h5, (hb.frozen (p := ⟨b, 1, none⟩) h2).trans h6, (h7.inn.below hb (Nat.le_refl _)).1⟩
theorem stq_cons_slice (c : UInt8) (s : List UInt8) : (stq (c :: s)).extract 1 (stq (c :: s)).size = stq s := by
  apply ByteArray.ext
  rw [ByteArray.data_extract]
  show ((c :: s).toArray).extract 1 _ = s.toArray
  rw [stq_size]
  simp

set_option maxHeartbeats 1000000 in
theorem prNext_any (w : World) (b : Nat) (s : List UInt8) (v : Value) (ls : List Pd) (hs : s.length ≤ 1048576) (h : Rd w b s v ls) :
    Calls Try.prog 73 #[.pointer (some ⟨b, 0, none⟩)] w fun e w' => e = .returned (.int .u8 (hdN s)) ∧ Rd w' b s.tail v ls ∧ Below b w w' := by
  have H := Lib.hid h
  obtain ⟨h2, h3, -, h5, -, -⟩ := h
  cases s with
  | nil =>
    have e0 : (stq []).toList = ([] : List UInt8) := by rw [ByteArray.toList_eq]; rfl
    have hne : ((stq []).toList == (ByteArray.mk #[]).toList) = true := by rw [ByteArray.toList_eq, ByteArray.toList_eq]; rfl
    go_enter Try.func73, Try.ntmps73
    go_wp2
    go_ret
    exact ⟨rfl, H.out, Below.refl _ _⟩
  | cons c s =>
    obtain ⟨t, ht⟩ : ∃ t, t = stq (c :: s) := ⟨_, rfl⟩
    have hsz : t.size = s.length + 1 := by rw [ht, stq_size]; rfl
    have hx : t.extract 1 (s.length + 1) = stq s := by rw [← hsz, ht]; exact stq_cons_slice c s
    have HX := Lib.hid hx
    clear hx
    have hne : t.toList.isEmpty = false := by rw [ht, ByteArray.toList_eq]; rfl
    have h0 : (0 : Nat) < t.size := by omega
    have hc : Hid (t[0].toNat = c.toNat) := Lib.hid (by subst ht; rfl)
    have P := Lib.hid (H.out.put0 s)
    rw [← ht] at h3
    have HS : s.length + 1 ≤ 1048576 := hs
    clear ht
    go_enter Try.func73, Try.ntmps73
    go_wp2
    go_ret
    refine ⟨?_, ?_, ?_⟩
    · show Ending.returned (Value.int .u8 (t[0].toNat : Int)) = _
      rw [hc.out]; rfl
    · rw [HX.out]; exact P.out
    · exact (Below.refl _ _).setCell (p := ⟨b, 0, none⟩) (Nat.le_refl _) _

theorem conv_u8 (n : Nat) (h : n < 256) : IntKind.i64.wrap (n : Int) = n := by
  unfold IntKind.wrap; simp [IntKind.bits, IntKind.signed]; omega

set_option maxHeartbeats 1000000 in
theorem prPoint_any (w : World) (b : Nat) (s : List UInt8) (v : Value) (ls : List Pd) (hs : s.length ≤ 1048576) (h : Rd w b s v ls) :
    Calls Try.prog 75 #[.pointer (some ⟨b, 0, none⟩)] w fun e w' => e = .returned (.int .i64 (ptN s)) ∧ Rd w' b s.tail v ls ∧ Below b w w' := by
  have H := Lib.hid h
  have hh := hdN_lt s
  go_enter Try.func75, Try.ntmps75
  go_wp2_with fail
  refine (prNext_any _ b s v ls hs H.out).mono ?_
  obtain ⟨n, hn⟩ : ∃ n, n = hdN s := ⟨_, rfl⟩
  have R := Lib.hid (show ptN s = (n : Int) - 48 by rw [hn]; rfl)
  rw [← hn] at hh ⊢
  clear hn
  rintro e w1 ⟨rfl, hr, hb⟩
  have HR := Lib.hid hr
  have HB := Lib.hid hb
  clear hr hb
  go_wp2
  go_ret
  exact ⟨ret_int (by rw [R.out]), HR.out, HB.out⟩

set_option maxHeartbeats 1000000 in
theorem prAdd_any (k f t : Int) (w : World) (b : Nat) (s : List UInt8) (v : Value) (ls : List Pd) (hl : ls.length ≤ 1048576) (h : Rd w b s v ls) :
    Calls Try.prog 74 #[.pointer (some ⟨b, 0, none⟩), .int .i64 k, .int .i64 f, .int .i64 t] w fun e w' => ∃ v', e = .returned (.tuple #[]) ∧ Rd w' b s v' (ls ++ [(k, f, t)]) ∧ Below b w w' := by
  have h2 := h.1
  have h4 := h.2.2.1
  obtain ⟨W, hW⟩ : ∃ W, W = w.alloc (.cells #[.int .i64 k, .int .i64 f, .int .i64 t] 61) := ⟨_, rfl⟩
  have gW : Below w.heap.size w W := by rw [hW]; exact (Below.refl _ _).alloc (Nat.le_refl _) _
  have RW := Lib.hid (h.keep gW)
  have AW := Lib.hid (show AtP W (some ⟨w.heap.size, 0, none⟩) 1 [(k, f, t)] by
    obtain ⟨a, cap, e, hat, -⟩ := (litP w w.heap.size k f t (Nat.le_refl _)).at
    injection e with e1 e2 e3
    rw [hW]; subst e1; exact hat)
  have sW : w.heap.size ≤ W.heap.size := gW.size
  have BW := Lib.hid (gW.mono (Nat.le_of_lt h2))
  have HW := Lib.hid hW
  obtain ⟨a0, c, hv, -⟩ := h.2.2.2.2.2.at
  have HV := Lib.hid hv
  have c1 := RW.out.2.2.1
  clear gW hW h
  go_enter Try.func74, Try.ntmps74
  go_wp2_with (at_builtin; rw [← HW.out]; refine list_appPt rfl _ _ rfl (b + 1) v ls (by rw [HV.out]; rfl) RW.out.2.2.2.2.2 [(k, f, t)] (some ⟨w.heap.size, 0, none⟩) 1 1 rfl AW.out (by decide) (by omega) (by omega) ?_; intro v' w2 ho hg; obtain ⟨a9, c9, e9, -⟩ := ho.at; subst e9; obtain ⟨g1, g2, g3, g4⟩ := RW.out.grown hg ho; have G3 := Lib.hid g3; have G4 := Lib.hid (BW.out.trans g4); clear ho hg g3 g4)
  go_end0
  have LN : (ls ++ [(k, f, t)]).length = ls.length + 1 := by simp
  have q3 := G3.out
  have q4 := G4.out
  rw [LN] at q3 q4
  exact ⟨_, rfl, q3, q4⟩

end Go.Proofs.Ytfkdefmafhlmnaa

/- The program's reader of point formulas as a function: what it makes of a text; of the text of a formula it makes this formula. Conditions: those in the theorems. -/
namespace Go.Proofs.Ytfkdefmafhlmnaa
open Go.RowKit

/-- The letters of quantifiers, of links, of variables. -/
def qtL : List UInt8 := [65, 69]
def lkL : List UInt8 := [38, 124, 62]
def vaB : List UInt8 := [112, 113, 114, 115, 116, 117]
/-- The list with another kind at a place. -/
def kdS (ls : List Pd) (j : Nat) (k : Int) : List Pd := ls.set j (k, fp ls j, tp ls j)
def rd : Nat → List UInt8 → List Pd → List UInt8 × List Pd
  | 0, s, ls => (s, ls)
  | n + 1, s, ls =>
    if 120 < ls.length then (s, ls)
    else if hdN s = 82 then (s.tail.tail.tail, ls ++ [(0, ptN s.tail, ptN s.tail.tail)])
    else if hdN s = 70 then (s.tail, ls ++ [(3, 0, 0)])
    else if hdN s = 65 ∨ hdN s = 69 then rd n s.tail.tail (ls ++ [(7 + ixB qtL (hdN s), ptN s.tail, 0)])
    else if hdN s = 126 then ((rd n s.tail (ls ++ [(6, 0, 0)])).1, (rd n s.tail (ls ++ [(6, 0, 0)])).2 ++ [(3, 0, 0)])
    else if hdN s = 40 then
      ((rd n (rd n s.tail (ls ++ [(0, 0, 0)])).1.tail (kdS (rd n s.tail (ls ++ [(0, 0, 0)])).2 ls.length (4 + ixB lkL (hdN (rd n s.tail (ls ++ [(0, 0, 0)])).1)))).1.tail,
       (rd n (rd n s.tail (ls ++ [(0, 0, 0)])).1.tail (kdS (rd n s.tail (ls ++ [(0, 0, 0)])).2 ls.length (4 + ixB lkL (hdN (rd n s.tail (ls ++ [(0, 0, 0)])).1)))).2)
    else if 0 ≤ ixB vaB (hdN s) then (s.tail.tail, ls ++ [(2, ixB vaB (hdN s), ptN s.tail)])
    else (s.tail.tail.tail, ls ++ [(1, (hdN s : Int) - 48, ptN s.tail.tail)])
theorem kdS_len (ls : List Pd) (j : Nat) (k : Int) : (kdS ls j k).length = ls.length := by simp [kdS]
theorem rd_ge : ∀ (n : Nat) (s : List UInt8) (ls : List Pd), ls.length ≤ (rd n s ls).2.length
  | 0, s, ls => Nat.le_refl _
  | n + 1, s, ls => by
    rw [rd]
    split
    · exact Nat.le_refl _
    split
    · simp
    split
    · simp
    split
    · refine Nat.le_trans ?_ (rd_ge n _ _); simp
    split
    · have := rd_ge n s.tail (ls ++ [(6, 0, 0)])
      simp at this ⊢; omega
    split
    · have h1 := rd_ge n s.tail (ls ++ [(0, 0, 0)])
      refine Nat.le_trans ?_ (rd_ge n _ _)
      rw [kdS_len]; simp at h1; omega
    split <;> simp
theorem rd_le : ∀ (n : Nat) (s : List UInt8) (ls : List Pd), (rd n s ls).2.length ≤ max ls.length (121 + n)
  | 0, s, ls => by simp only [rd]; omega
  | n + 1, s, ls => by
    rw [rd]
    split
    · show ls.length ≤ _; omega
    split
    · simp; omega
    split
    · simp; omega
    split
    · have := rd_le n s.tail.tail (ls ++ [(7 + ixB qtL (hdN s), ptN s.tail, 0)])
      simp at this; omega
    split
    · have := rd_le n s.tail (ls ++ [(6, 0, 0)])
      simp at this ⊢; omega
    split
    · have h1 := rd_le n s.tail (ls ++ [(0, 0, 0)])
      have h2 := rd_le n (rd n s.tail (ls ++ [(0, 0, 0)])).1.tail (kdS (rd n s.tail (ls ++ [(0, 0, 0)])).2 ls.length (4 + ixB lkL (hdN (rd n s.tail (ls ++ [(0, 0, 0)])).1)))
      rw [kdS_len] at h2
      simp at h1
      refine Nat.le_trans h2 ?_
      omega
    split <;> (simp; omega)
theorem rd_len : ∀ (n : Nat) (s : List UInt8) (ls : List Pd), (rd n s ls).1.length ≤ s.length
  | 0, s, ls => Nat.le_refl _
  | n + 1, s, ls => by
    rw [rd]
    split
    · exact Nat.le_refl _
    split
    · simp; omega
    split
    · simp
    split
    · have := rd_len n s.tail.tail (ls ++ [(7 + ixB qtL (hdN s), ptN s.tail, 0)])
      simp at this; omega
    split
    · have := rd_len n s.tail (ls ++ [(6, 0, 0)])
      simp at this ⊢; omega
    split
    · have h1 := rd_len n s.tail (ls ++ [(0, 0, 0)])
      have h2 := rd_len n (rd n s.tail (ls ++ [(0, 0, 0)])).1.tail (kdS (rd n s.tail (ls ++ [(0, 0, 0)])).2 ls.length (4 + ixB lkL (hdN (rd n s.tail (ls ++ [(0, 0, 0)])).1)))
      simp at h1 h2 ⊢
      omega
    split <;> (simp; omega)

end Go.Proofs.Ytfkdefmafhlmnaa

/- The model's reader of point formulas as a function. Conditions: those in the theorems. -/
namespace Go.Proofs.Ytfkdefmafhlmnaa
open Go.RowKit

/-- A text begins with a digit; the point that it tells. -/
def dgB (s : List UInt8) : Bool := decide (48 ≤ hdN s) && decide (hdN s ≤ 57)
def dvN (s : List UInt8) : Int := if dgB s then (hdN s : Int) - 48 else 0
/-- A sign of a link. -/
def sgB (c : Nat) : Bool := c == 38 || c == 124 || c == 62
def sgK (c : Nat) : Int := if c = 38 then 4 else if c = 124 then 5 else 6
/-- What is left of the text, whether it has failed, and the list. -/
def mr : Nat → List UInt8 → Bool → List UInt8 × Bool × List Pd
  | 0, s, fl => (s, fl, [(3, 0, 0)])
  | n + 1, s, fl =>
    if (fl || s.isEmpty) = true then (s.tail, true, [(3, 0, 0)])
    else if hdN s = 82 then (s.tail.tail.tail, !(dgB s.tail && dgB s.tail.tail), [(0, dvN s.tail, dvN s.tail.tail)])
    else if hdN s = 70 then (s.tail, false, [(3, 0, 0)])
    else if hdN s = 126 then ((mr n s.tail false).1, (mr n s.tail false).2.1, (6, 0, 0) :: ((mr n s.tail false).2.2 ++ [(3, 0, 0)]))
    else if hdN s = 65 ∨ hdN s = 69 then ((mr n s.tail.tail (!dgB s.tail)).1, (mr n s.tail.tail (!dgB s.tail)).2.1, ((if hdN s = 65 then 7 else 8), dvN s.tail, 0) :: (mr n s.tail.tail (!dgB s.tail)).2.2)
    else if 112 ≤ hdN s ∧ hdN s ≤ 117 then (s.tail.tail, !dgB s.tail, [(2, (hdN s : Int) - 112, dvN s.tail)])
    else if 48 ≤ hdN s ∧ hdN s ≤ 57 then (s.tail.tail.tail, !(decide (hdN s.tail = 61) && dgB s.tail.tail), [(1, (hdN s : Int) - 48, dvN s.tail.tail)])
    else if hdN s = 40 then
      let a := mr n s.tail false
      let b := mr n a.1.tail (a.2.1 || a.1.isEmpty)
      (b.1.tail, (b.2.1 || b.1.isEmpty) || !(decide (hdN b.1 = 41) && sgB (hdN a.1)), (sgK (hdN a.1), 0, 0) :: (a.2.2 ++ b.2.2))
    else (s.tail, true, [(3, 0, 0)])
theorem mr_len : ∀ (n : Nat) (s : List UInt8) (fl : Bool), 1 ≤ (mr n s fl).2.2.length ∧ (mr n s fl).2.2.length + 2 * (mr n s fl).1.length ≤ 2 * s.length + 1
  | 0, s, fl => by simp [mr]; omega
  | n + 1, s, fl => by
    rw [mr]
    split
    · simp; omega
    rename_i hne
    have hs : 0 < s.length := by
      cases s with
      | nil => simp at hne
      | cons c s => simp
    split
    · simp; omega
    split
    · simp; omega
    split
    · have := mr_len n s.tail false
      simp at this ⊢; omega
    split
    · have := mr_len n s.tail.tail (!dgB s.tail)
      simp at this ⊢; omega
    split
    · simp; omega
    split
    · simp; omega
    split
    · have h1 := mr_len n s.tail false
      have h2 := mr_len n (mr n s.tail false).1.tail ((mr n s.tail false).2.1 || (mr n s.tail false).1.isEmpty)
      simp at h1 h2 ⊢; omega
    · simp; omega

end Go.Proofs.Ytfkdefmafhlmnaa
