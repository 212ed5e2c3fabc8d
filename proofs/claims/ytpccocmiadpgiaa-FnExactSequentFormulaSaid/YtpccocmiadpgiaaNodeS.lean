/- Contracts of the small functions of package laws over lists of nodes: copy, compare, mark, held. Conditions: those in the theorems. -/
import Derived.Deep.OwnRows
import Derived.OwnWalk
import Derived.RegionTactic
import Derived.ChangeAlike
import Derived.BigRegion
import Derived.Deep.RegionWith
import Derived.Test.YtpccocmiadpgiaaJn01
namespace Go.Proofs.Ytpccocmiadpgiaa
open Go.RowKit

theorem infoNd : (Try.prog.info? 55).map (fun i => (i.zero, i.size, i.bytes)) = some (some (.agg #[.int .i64 0, .int .i64 0]), 2, 16) := by kernel_rfl

/-- The cells of a list of nodes. -/
def cellsN (xs : List Nd) : List Value := xs.flatMap fun x => [.int .i64 x.1, .int .i64 x.2]
theorem cellsN_len (xs : List Nd) : (cellsN xs).length = xs.length * 2 := by
  unfold cellsN
  induction xs with
  | nil => rfl
  | cons x xs ih => simp only [List.flatMap_cons, List.length_append, List.length_cons, List.length_nil]; omega
theorem cellsN_at (xs : List Nd) (j : Nat) (h : j < xs.length) : (cellsN xs)[j * 2]? = some (.int .i64 (kd xs j)) ∧ (cellsN xs)[j * 2 + 1]? = some (.int .i64 (sy xs j)) := by
  induction xs generalizing j with
  | nil => simp at h
  | cons x xs ih =>
    cases j with
    | zero => exact ⟨rfl, rfl⟩
    | succ j =>
      have := ih j (by simpa using h)
      have e1 : (j + 1) * 2 = j * 2 + 1 + 1 := by omega
      rw [e1]
      exact ⟨this.1, this.2⟩
def OwnN (w : World) (B : Nat) (v : Value) (xs : List Nd) : Prop := w.ownsRow B 55 2 v xs.length (cellsN xs)

set_option maxHeartbeats 400000 in
theorem eqNode_any (k s : Int) (w : World) : Calls Try.prog 34 #[.agg #[.int .i64 k, .int .i64 s], .agg #[.int .i64 k, .int .i64 s]] w fun e w' => e = .returned (.bool true) ∧ Below w.heap.size w w' := by
  go_enter Try.func34, Try.ntmps34
  go_wp2
  go_ret
  exact ⟨rfl, ((Below.refl _ _).alloc (Nat.le_refl _) _).alloc (by simp) _⟩

theorem cellsN_append (xs ys : List Nd) : cellsN (xs ++ ys) = cellsN xs ++ cellsN ys := by simp [cellsN]
theorem cellsN_set (xs : List Nd) (k : Nat) (h : k < xs.length) (x y : Int) : ((cellsN xs).set (k * 2) (.int .i64 x)).set (k * 2 + 1) (.int .i64 y) = cellsN (xs.set k (x, y)) := by
  induction xs generalizing k with
  | nil => simp at h
  | cons z xs ih =>
    cases k with
    | zero => rfl
    | succ k =>
      have e1 : (k + 1) * 2 = k * 2 + 1 + 1 := by omega
      rw [e1]
      show Value.int .i64 z.1 :: Value.int .i64 z.2 :: ((cellsN xs).set (k * 2) _).set (k * 2 + 1) _ = _
      rw [ih k (by simpa using h)]
      rfl
theorem cellsN_made (len : Nat) : (madeCells #[.int .i64 0, .int .i64 0] (len * 2)).toList = cellsN (List.replicate len (0, 0)) := by
  apply List.ext_getElem?
  intro i
  have hl := cellsN_len (List.replicate len ((0 : Int), (0 : Int)))
  rw [List.length_replicate] at hl
  by_cases hi : i < len * 2
  · have hz : ∀ j, j < 2 → (#[Value.int .i64 0, Value.int .i64 0])[j]? = some (Value.int .i64 0) := fun j hj => by
      match j, hj with
      | 0, _ => rfl
      | 1, _ => rfl
    have h1 : (madeCells #[Value.int .i64 0, Value.int .i64 0] (len * 2)).toList[i]? = some (.int .i64 0) := by
      have h2 := hz (i % 2) (by omega)
      have h3 : i % 2 = 0 ∨ i % 2 = 1 := by omega
      rcases h3 with h3 | h3 <;> simp [madeCells, hi, h3]
    rw [h1]
    have hk : i / 2 < (List.replicate len ((0 : Int), (0 : Int))).length := by rw [List.length_replicate]; omega
    obtain ⟨g1, g2⟩ := cellsN_at (List.replicate len ((0 : Int), (0 : Int))) (i / 2) hk
    have e1 : kd (List.replicate len ((0 : Int), (0 : Int))) (i / 2) = 0 := by unfold kd; simp [List.getD, show i / 2 < len by omega]
    have e2 : sy (List.replicate len ((0 : Int), (0 : Int))) (i / 2) = 0 := by unfold sy; simp [List.getD, show i / 2 < len by omega]
    rw [e1] at g1
    rw [e2] at g2
    by_cases hm : i % 2 = 0
    · rw [show i / 2 * 2 = i by omega] at g1; exact g1.symm
    · rw [show i / 2 * 2 + 1 = i by omega] at g2; exact g2.symm
  · rw [List.getElem?_eq_none (by simp [madeCells]; omega), List.getElem?_eq_none (by omega)]

/-- A list of which the first k nodes are xs's and the others zero. -/
def cplN (xs : List Nd) (len k : Nat) : List Nd := xs.take k ++ List.replicate (len - k) (0, 0)
theorem cplN_len (xs : List Nd) (len k : Nat) (h : len = xs.length) (hk : k ≤ len) : (cplN xs len k).length = len := by simp [cplN]; omega

theorem cplN_set (xs : List Nd) (len k : Nat) (h : len = xs.length) (hk : k < len) : (cplN xs len k).set k (kd xs k, sy xs k) = cplN xs len (k + 1) := by
  have hx : (kd xs k, sy xs k) = xs[k]'(by omega) := by unfold kd sy; simp [List.getD, show k < xs.length by omega]
  rw [hx]
  unfold cplN
  apply List.ext_getElem?
  intro j
  by_cases e : j = k
  · subst e
    rw [List.getElem?_set_self (by simp; omega), List.getElem?_append_left (by simp; omega), List.getElem?_take, if_pos (by omega), List.getElem?_eq_getElem (by omega)]
  · rw [List.getElem?_set_ne (by omega)]
    simp only [List.getElem?_append, List.getElem?_take, List.length_take, List.getElem?_replicate]
    by_cases h1 : j < k
    · simp [h1, show j < min k xs.length by omega, show j < k + 1 by omega, show j < min (k+1) xs.length by omega]
    · simp [show ¬ j < min k xs.length by omega, show ¬ j < min (k+1) xs.length by omega]
      simp [show min k xs.length = k by omega, show min (k + 1) xs.length = k + 1 by omega, show (j - k < len - k) ↔ (j - (k + 1) < len - (k + 1)) by omega]
theorem cplN_all (xs : List Nd) (len : Nat) (h : len = xs.length) : cplN xs len len = xs := by subst h; simp [cplN]

theorem AtN.keep {w w' : World} {C : Nat} {a : Option Addr} {len : Nat} {xs : List Nd} (h : AtN w a len xs) (hb : Below C w w') (hC : w.heap.size ≤ C) : AtN w' a len xs := by
  refine ⟨h.1, ?_⟩
  rcases h.2 with h2 | ⟨b, off, ha, hlt, hc⟩
  · exact .inl h2
  · exact .inr ⟨b, off, ha, Nat.lt_of_lt_of_le hlt hb.size, fun j hj => ⟨(hb.cell (p := ⟨b, off + j * 2, none⟩) (by show b < C; omega)).trans (hc j hj).1, (hb.cell (p := ⟨b, off + j * 2 + 1, none⟩) (by show b < C; omega)).trans (hc j hj).2⟩⟩

set_option maxHeartbeats 1000000 in
theorem eqNodeS_any (xs : List Nd) (a a' : Option Addr) (len cap cap' : Nat) (w : World) (hl : len ≤ 1048576) (h : AtN w a len xs) (h' : AtN w a' len xs) :
    Calls Try.prog 15 #[.slice a len cap, .slice a' len cap'] w fun e w' => e = .returned (.bool true) ∧ Below w.heap.size w w' := by
  have H := Lib.hid h
  have H' := Lib.hid h'
  clear h h'
  go_enter Try.func15, Try.ntmps15
  go_wp2
  go_loopw [5] (fun i wr => ∃ k : Nat, k ≤ len ∧ i = .int .i64 k ∧ Below w.heap.size w wr) (fun i _ => len - (intOf i).toNat)
  case atStart => exact ⟨0, Nat.zero_le _, rfl, Below.refl _ _⟩
  case round =>
    obtain ⟨k, hk, rfl, hbel⟩ := hrel
    by_cases hlt : k < len
    · obtain ⟨b, off, rfl, hb, hc⟩ := H.out.2.resolve_left (by omega)
      obtain ⟨b', off', rfl, hb', hc'⟩ := H'.out.2.resolve_left (by omega)
      have g1 : wr.cell? ⟨b, off + k * 2, none⟩ = some (.int .i64 (kd xs k)) := (hbel.cell (p := ⟨b, off + k * 2, none⟩) hb).trans (hc k hlt).1
      have g2 : wr.cell? ⟨b, off + k * 2 + 1, none⟩ = some (.int .i64 (sy xs k)) := (hbel.cell (p := ⟨b, off + k * 2 + 1, none⟩) hb).trans (hc k hlt).2
      have g1' : wr.cell? ⟨b', off' + k * 2, none⟩ = some (.int .i64 (kd xs k)) := (hbel.cell (p := ⟨b', off' + k * 2, none⟩) hb').trans (hc' k hlt).1
      have g2' : wr.cell? ⟨b', off' + k * 2 + 1, none⟩ = some (.int .i64 (sy xs k)) := (hbel.cell (p := ⟨b', off' + k * 2 + 1, none⟩) hb').trans (hc' k hlt).2
      clear hc hc'
      go_wp2
      go_region_with (go_at_call 34; refine (eqNode_any _ _ _).mono ?_; rintro e w1 ⟨rfl, hb1⟩)
      all_goals
        go_wp2
        go_roundw
        case rel => exact ⟨k + 1, hlt, by go_num, hbel.drew.trans (hb1.mono hbel.size)⟩
        case measure => simp [intOf]; omega
    · obtain rfl : k = len := by omega
      go_wp2
      go_ret
      exact ⟨rfl, hbel⟩

/-- The marks n, n + 1, .. on the nodes of a list, two for each node. -/
def mkN (n : Int) : Nat → List Nd
  | 0 => []
  | k + 1 => mkN n k ++ [(n + 2 * k, n + 2 * k + 1)]
theorem mkN_len (n : Int) (k : Nat) : (mkN n k).length = k := by induction k with | zero => rfl | succ k ih => simp [mkN, ih]
theorem mkN_at (n : Int) (k j : Nat) (h : j < k) : kd (mkN n k) j = n + 2 * j ∧ sy (mkN n k) j = n + 2 * j + 1 := by
  induction k with
  | zero => omega
  | succ k ih =>
    have hl := mkN_len n k
    unfold kd sy at *
    by_cases e : j = k
    · subst e; simp [mkN, List.getD, hl]
    · have := ih (by omega)
      simp only [mkN, List.getD_eq_getElem?_getD] at this ⊢
      rw [List.getElem?_append_left (by omega)]
      exact this
def mklN (xs : List Nd) (n : Int) (j : Nat) : List Nd := mkN n j ++ xs.drop j
theorem mklN_len (xs : List Nd) (n : Int) (j : Nat) (h : j ≤ xs.length) : (mklN xs n j).length = xs.length := by simp [mklN, mkN_len]; omega
theorem mklN_set (xs : List Nd) (n : Int) (j : Nat) (h : j < xs.length) : (mklN xs n j).set j (n + 2 * j, n + 2 * j + 1) = mklN xs n (j + 1) := by
  have e : xs.drop j = xs[j] :: xs.drop (j + 1) := List.drop_eq_getElem_cons h
  rw [mklN, mklN, mkN, e, List.set_append_right _ _ (by simp [mkN_len]), mkN_len, Nat.sub_self, List.set_cons_zero, List.append_assoc]
  rfl
theorem mklN_all (xs : List Nd) (n : Int) : mklN xs n xs.length = mkN n xs.length := by simp [mklN]

set_option maxHeartbeats 1000000 in
theorem markNodeS_any (xs : List Nd) (v : Value) (B : Nat) (n : Int) (w : World) (hl : xs.length ≤ 1048576) (hn : 0 ≤ n) (hn2 : n ≤ 4611686018427387904) (h : OwnN w B v xs) :
    Calls Try.prog 17 #[v, .int .i64 n] w fun e w' => e = .returned (.int .i64 (n + 2 * xs.length)) ∧ OwnN w' B v (mkN n xs.length) ∧ Below B w w' ∧ w.grownBy w' v.ownBlock := by
  obtain ⟨hlen, ⟨rfl, hn0⟩ | ⟨g, cap, cur, rfl, hg, hh, hcc, hm, hs, ht⟩⟩ := id h
  · obtain rfl : xs = [] := List.eq_nil_of_length_eq_zero hn0
    have H := Lib.hid h
    clear h hlen hn0
    go_enter Try.func17, Try.ntmps17
    go_wp2
    refine wp_loop_rounds 1 ?_
    rw [rounds_succ]
    go_wp2
    go_ret
    exact ⟨ret_int (by simp), H.out, Below.refl _ _, World.grownBy.refl _ _⟩
  · obtain ⟨len, hlen2⟩ : ∃ len, len = xs.length := ⟨_, rfl⟩
    have hlb : len ≤ 1048576 := by omega
    unfold OwnN at h
    rw [← hlen2] at h ⊢
    have HL := Lib.hid hlen2
    clear hlen2 hlen hh hs ht hl hcc
    have hg' := hg
    clear hg
    have hst : w.ownsRow B 55 2 (.slice (some ⟨g, 0, none⟩) len cap) len (cellsN (mklN xs n 0)) := h
    have HH := Lib.hid hst
    clear hst h
    go_enter Try.func17, Try.ntmps17
    go_wp2
    go_loopw [1, 5] (fun c i wr => ∃ k : Nat, k ≤ len ∧ i = .int .i64 k ∧ c = .int .i64 (n + 2 * k) ∧ wr.ownsRow B 55 2 (.slice (some ⟨g, 0, none⟩) len cap) len (cellsN (mklN xs n k)) ∧ Below B w wr ∧ w.grownBy wr (some g)) (fun _ i _ => len - (intOf i).toNat)
    case atStart => exact ⟨0, Nat.zero_le _, rfl, by simp, HH.out, Below.refl _ _, World.grownBy.refl _ _⟩
    case round =>
      obtain ⟨k, hk, rfl, rfl, hown, hbel, hgr⟩ := hrel
      by_cases hlt : k < len
      · have hl2 : (mklN xs n k).length = len := by rw [mklN_len xs n k (by rw [← HL.out]; exact hk), HL.out]
        obtain ⟨h1, h2⟩ := cellsN_at (mklN xs n k) k (by omega)
        have hg1 : wr.cell? ⟨g, k * 2, none⟩ = some (.int .i64 (kd (mklN xs n k) k)) := (hown.cellAt (k * 2) (by omega)).trans h1
        have hg2 : wr.cell? ⟨g, k * 2 + 1, none⟩ = some (.int .i64 (sy (mklN xs n k) k)) := (hown.cellAt (k * 2 + 1) (by omega)).trans h2
        have hf1 : wr.frozen? ⟨g, k * 2, none⟩ = false := hown.frozenAt _
        have hf2 : wr.frozen? ⟨g, k * 2 + 1, none⟩ = false := hown.frozenAt _
        have s1 := hown.stored (k * 2) (.int .i64 (n + 2 * k))
        have s2 := s1.1.stored (k * 2 + 1) (.int .i64 (n + 2 * k + 1))
        have s3 := s2.1
        rw [cellsN_set _ _ (by omega), mklN_set _ _ _ (by rw [← HL.out]; exact hlt)] at s3
        have hbs := (hbel.setCell (p := ⟨g, k * 2, none⟩) hg' (.int .i64 (n + 2 * k))).setCell (p := ⟨g, k * 2 + 1, none⟩) hg' (.int .i64 (n + 2 * k + 1))
        have gt : ∀ {a b c : World}, a.grownBy b (some g) → b.grownBy c (some g) → a.grownBy c (some g) := fun h k => ⟨k.os.trans h.os, k.tape.trans h.tape, k.output.trans h.output, Nat.le_trans h.size k.size, fun i hi hne => (k.block i (Nat.lt_of_lt_of_le hi h.size) hne).trans (h.block i hi hne)⟩
        have hgs := gt hgr (gt s1.2 s2.2)
        have S3 := Lib.hid s3
        have HBS := Lib.hid hbs
        have HGS := Lib.hid hgs
        clear hown h1 h2 s1 s2 s3 hbs hgs gt hl2
        go_wp2
        go_roundw
        case rel => exact ⟨k + 1, hlt, by go_num, by go_num, S3.out, HBS.out, HGS.out⟩
        case measure => simp [intOf]; omega
      · obtain rfl : k = len := by omega
        have HO := Lib.hid hown
        clear hown
        go_wp2
        go_ret
        refine ⟨rfl, ?_, hbel, hgr⟩
        have ho := HO.out
        have e := HL.out
        rw [e, mklN_all] at ho
        unfold OwnN
        rw [mkN_len, e]
        exact ho

set_option maxHeartbeats 400000 in
theorem heldNodeS_any (m : Nat) (a : Option Addr) (cap : Nat) (n : Int) (w : World) (hl : m ≤ 1048576) (hn : 0 ≤ n) (hn2 : n ≤ 4611686018427387904) (h : AtN w a m (mkN n m)) :
    Calls Try.prog 18 #[.slice a m cap, .int .i64 n] w fun e w' => e = .returned (.int .i64 (n + 2 * m)) ∧ w = w' := by
  have H := Lib.hid h
  clear h
  go_enter Try.func18, Try.ntmps18
  go_wp2
  go_loop [1, 5] (fun c i => ∃ k : Nat, k ≤ m ∧ i = .int .i64 k ∧ c = .int .i64 (n + 2 * k)) (fun _ i => m - (intOf i).toNat)
  case atStart => exact ⟨0, Nat.zero_le _, rfl, by simp⟩
  case round =>
    obtain ⟨k, hk, rfl, rfl⟩ := hrel
    by_cases hlt : k < m
    · obtain ⟨b, off, rfl, hb, hc⟩ := H.out.2.resolve_left (by omega)
      obtain ⟨h1, h2⟩ := hc k hlt
      obtain ⟨e1, e2⟩ := mkN_at n m k hlt
      rw [e1] at h1
      rw [e2] at h2
      clear hc e1 e2
      go_wp2
      go_round
      case rel => exact ⟨k + 1, hlt, by go_num, by go_num⟩
      case measure => simp [intOf]; omega
    · obtain rfl : k = m := by omega
      go_wp2
      go_ret
      exact ⟨rfl, rfl⟩

end Go.Proofs.Ytpccocmiadpgiaa
