/- Lists of point nodes (three cells each), and contracts of the small functions of package laws over them: copy, compare, mark, held. Conditions: those in the theorems. -/
import Derived.Test.YtfkdefmafhlmnaaNodeS
namespace Go.Proofs.Ytfkdefmafhlmnaa
open Go.RowKit

/-- A point node: its kind and its two numbers. -/
abbrev Pd := Int × Int × Int
def kp (xs : List Pd) (i : Nat) : Int := (xs.getD i (0, 0, 0)).1
def fp (xs : List Pd) (i : Nat) : Int := (xs.getD i (0, 0, 0)).2.1
def tp (xs : List Pd) (i : Nat) : Int := (xs.getD i (0, 0, 0)).2.2

/-- The list of point nodes xs lies at the slice value (a, len): no element, or cells in a row, three for each node. -/
def AtP (w : World) (a : Option Addr) (len : Nat) (xs : List Pd) : Prop :=
  len = xs.length ∧ (len = 0 ∨ ∃ b off, a = some ⟨b, off, none⟩ ∧ b < w.heap.size ∧ ∀ j, j < len → w.cell? ⟨b, off + j * 3, none⟩ = some (.int .i64 (kp xs j)) ∧ w.cell? ⟨b, off + j * 3 + 1, none⟩ = some (.int .i64 (fp xs j)) ∧ w.cell? ⟨b, off + j * 3 + 2, none⟩ = some (.int .i64 (tp xs j)))

theorem infoPd : (Try.prog.info? 61).map (fun i => (i.zero, i.size, i.bytes)) = some (some (.agg #[.int .i64 0, .int .i64 0, .int .i64 0]), 3, 24) := by kernel_rfl

/-- The cells of a list of point nodes. -/
def cellsP (xs : List Pd) : List Value := xs.flatMap fun x => [.int .i64 x.1, .int .i64 x.2.1, .int .i64 x.2.2]
theorem cellsP_len (xs : List Pd) : (cellsP xs).length = xs.length * 3 := by
  unfold cellsP
  induction xs with
  | nil => rfl
  | cons x xs ih => simp only [List.flatMap_cons, List.length_append, List.length_cons, List.length_nil]; omega
theorem cellsP_at (xs : List Pd) (j : Nat) (h : j < xs.length) : (cellsP xs)[j * 3]? = some (.int .i64 (kp xs j)) ∧ (cellsP xs)[j * 3 + 1]? = some (.int .i64 (fp xs j)) ∧ (cellsP xs)[j * 3 + 2]? = some (.int .i64 (tp xs j)) := by
  induction xs generalizing j with
  | nil => simp at h
  | cons x xs ih =>
    cases j with
    | zero => exact ⟨rfl, rfl, rfl⟩
    | succ j =>
      have := ih j (by simpa using h)
      have e1 : (j + 1) * 3 = j * 3 + 1 + 1 + 1 := by omega
      rw [e1]
      exact ⟨this.1, this.2.1, this.2.2⟩
def OwnP (w : World) (B : Nat) (v : Value) (xs : List Pd) : Prop := w.ownsRow B 61 3 v xs.length (cellsP xs)

set_option maxHeartbeats 400000 in
theorem eqPoint_any (k s t : Int) (w : World) : Calls Try.prog 58 #[.agg #[.int .i64 k, .int .i64 s, .int .i64 t], .agg #[.int .i64 k, .int .i64 s, .int .i64 t]] w fun e w' => e = .returned (.bool true) ∧ Below w.heap.size w w' := by
  go_enter Try.func58, Try.ntmps58
  go_wp2
  go_ret
  exact ⟨rfl, ((Below.refl _ _).alloc (Nat.le_refl _) _).alloc (by simp) _⟩

theorem cellsP_append (xs ys : List Pd) : cellsP (xs ++ ys) = cellsP xs ++ cellsP ys := by simp [cellsP]
theorem cellsP_set (xs : List Pd) (k : Nat) (h : k < xs.length) (x y z : Int) : (((cellsP xs).set (k * 3) (.int .i64 x)).set (k * 3 + 1) (.int .i64 y)).set (k * 3 + 2) (.int .i64 z) = cellsP (xs.set k (x, y, z)) := by
  induction xs generalizing k with
  | nil => simp at h
  | cons u xs ih =>
    cases k with
    | zero => rfl
    | succ k =>
      have e1 : (k + 1) * 3 = k * 3 + 1 + 1 + 1 := by omega
      rw [e1]
      show Value.int .i64 u.1 :: Value.int .i64 u.2.1 :: Value.int .i64 u.2.2 :: (((cellsP xs).set (k * 3) _).set (k * 3 + 1) _).set (k * 3 + 2) _ = _
      rw [ih k (by simpa using h)]
      rfl
theorem cellsP_made (len : Nat) : (madeCells #[.int .i64 0, .int .i64 0, .int .i64 0] (len * 3)).toList = cellsP (List.replicate len (0, 0, 0)) := by
  apply List.ext_getElem?
  intro i
  have hl := cellsP_len (List.replicate len ((0 : Int), (0 : Int), (0 : Int)))
  rw [List.length_replicate] at hl
  by_cases hi : i < len * 3
  · have h1 : (madeCells #[Value.int .i64 0, Value.int .i64 0, Value.int .i64 0] (len * 3)).toList[i]? = some (.int .i64 0) := by
      have h3 : i % 3 = 0 ∨ i % 3 = 1 ∨ i % 3 = 2 := by omega
      rcases h3 with h3 | h3 | h3 <;> simp [madeCells, hi, h3]
    rw [h1]
    have hk : i / 3 < (List.replicate len ((0 : Int), (0 : Int), (0 : Int))).length := by rw [List.length_replicate]; omega
    obtain ⟨g1, g2, g3⟩ := cellsP_at (List.replicate len ((0 : Int), (0 : Int), (0 : Int))) (i / 3) hk
    have e1 : kp (List.replicate len ((0 : Int), (0 : Int), (0 : Int))) (i / 3) = 0 := by unfold kp; simp [List.getD, show i / 3 < len by omega]
    have e2 : fp (List.replicate len ((0 : Int), (0 : Int), (0 : Int))) (i / 3) = 0 := by unfold fp; simp [List.getD, show i / 3 < len by omega]
    have e3 : tp (List.replicate len ((0 : Int), (0 : Int), (0 : Int))) (i / 3) = 0 := by unfold tp; simp [List.getD, show i / 3 < len by omega]
    rw [e1] at g1
    rw [e2] at g2
    rw [e3] at g3
    have h3 : i % 3 = 0 ∨ i % 3 = 1 ∨ i % 3 = 2 := by omega
    rcases h3 with h3 | h3 | h3
    · rw [show i / 3 * 3 = i by omega] at g1; exact g1.symm
    · rw [show i / 3 * 3 + 1 = i by omega] at g2; exact g2.symm
    · rw [show i / 3 * 3 + 2 = i by omega] at g3; exact g3.symm
  · rw [List.getElem?_eq_none (by simp [madeCells]; omega), List.getElem?_eq_none (by omega)]

/-- A list of which the first k nodes are xs's and the others zero. -/
def cplP (xs : List Pd) (len k : Nat) : List Pd := xs.take k ++ List.replicate (len - k) (0, 0, 0)
theorem cplP_len (xs : List Pd) (len k : Nat) (h : len = xs.length) (hk : k ≤ len) : (cplP xs len k).length = len := by simp [cplP]; omega

theorem cplP_set (xs : List Pd) (len k : Nat) (h : len = xs.length) (hk : k < len) : (cplP xs len k).set k (kp xs k, fp xs k, tp xs k) = cplP xs len (k + 1) := by
  have hx : (kp xs k, fp xs k, tp xs k) = xs[k]'(by omega) := by unfold kp fp tp; simp [List.getD, show k < xs.length by omega]
  rw [hx]
  unfold cplP
  apply List.ext_getElem?
  intro j
  by_cases e : j = k
  · subst e
    rw [List.getElem?_set_self (by simp; omega), List.getElem?_append_left (by simp; omega), List.getElem?_take, if_pos (by omega), List.getElem?_eq_getElem (by omega)]
  · rw [List.getElem?_set_ne (by omega)]
    simp only [List.getElem?_append, List.getElem?_take, List.length_take, List.getElem?_replicate]
    by_cases h1 : j < k
    · simp [h1, show j < min k xs.length by omega, show j < k + 1 by omega, show j < min (k+1) xs.length by omega]
    · simp [show ¬ j < min k xs.length by omega, show ¬ j < min (k+1) xs.length by omega]
      simp [show min k xs.length = k by omega, show min (k + 1) xs.length = k + 1 by omega, show (j - k < len - k) ↔ (j - (k + 1) < len - (k + 1)) by omega]
theorem cplP_all (xs : List Pd) (len : Nat) (h : len = xs.length) : cplP xs len len = xs := by subst h; simp [cplP]

theorem AtP.keep {w w' : World} {C : Nat} {a : Option Addr} {len : Nat} {xs : List Pd} (h : AtP w a len xs) (hb : Below C w w') (hC : w.heap.size ≤ C) : AtP w' a len xs := by
  refine ⟨h.1, ?_⟩
  rcases h.2 with h2 | ⟨b, off, ha, hlt, hc⟩
  · exact .inl h2
  · exact .inr ⟨b, off, ha, Nat.lt_of_lt_of_le hlt hb.size, fun j hj => ⟨(hb.cell (p := ⟨b, off + j * 3, none⟩) (by show b < C; omega)).trans (hc j hj).1, (hb.cell (p := ⟨b, off + j * 3 + 1, none⟩) (by show b < C; omega)).trans (hc j hj).2.1, (hb.cell (p := ⟨b, off + j * 3 + 2, none⟩) (by show b < C; omega)).trans (hc j hj).2.2⟩⟩

set_option maxHeartbeats 1000000 in
theorem eqPointS_any (xs : List Pd) (a a' : Option Addr) (len cap cap' : Nat) (w : World) (hl : len ≤ 1048576) (h : AtP w a len xs) (h' : AtP w a' len xs) :
    Calls Try.prog 30 #[.slice a len cap, .slice a' len cap'] w fun e w' => e = .returned (.bool true) ∧ Below w.heap.size w w' := by
  have H := Lib.hid h
  have H' := Lib.hid h'
  clear h h'
  go_enter Try.func30, Try.ntmps30
  go_wp2
  go_loopw [5] (fun i wr => ∃ k : Nat, k ≤ len ∧ i = .int .i64 k ∧ Below w.heap.size w wr) (fun i _ => len - (intOf i).toNat)
  case atStart => exact ⟨0, Nat.zero_le _, rfl, Below.refl _ _⟩
  case round =>
    obtain ⟨k, hk, rfl, hbel⟩ := hrel
    by_cases hlt : k < len
    · obtain ⟨b, off, rfl, hb, hc⟩ := H.out.2.resolve_left (by omega)
      obtain ⟨b', off', rfl, hb', hc'⟩ := H'.out.2.resolve_left (by omega)
      have g1 : wr.cell? ⟨b, off + k * 3, none⟩ = some (.int .i64 (kp xs k)) := (hbel.cell (p := ⟨b, off + k * 3, none⟩) hb).trans (hc k hlt).1
      have g2 : wr.cell? ⟨b, off + k * 3 + 1, none⟩ = some (.int .i64 (fp xs k)) := (hbel.cell (p := ⟨b, off + k * 3 + 1, none⟩) hb).trans (hc k hlt).2.1
      have g3 : wr.cell? ⟨b, off + k * 3 + 2, none⟩ = some (.int .i64 (tp xs k)) := (hbel.cell (p := ⟨b, off + k * 3 + 2, none⟩) hb).trans (hc k hlt).2.2
      have g1' : wr.cell? ⟨b', off' + k * 3, none⟩ = some (.int .i64 (kp xs k)) := (hbel.cell (p := ⟨b', off' + k * 3, none⟩) hb').trans (hc' k hlt).1
      have g2' : wr.cell? ⟨b', off' + k * 3 + 1, none⟩ = some (.int .i64 (fp xs k)) := (hbel.cell (p := ⟨b', off' + k * 3 + 1, none⟩) hb').trans (hc' k hlt).2.1
      have g3' : wr.cell? ⟨b', off' + k * 3 + 2, none⟩ = some (.int .i64 (tp xs k)) := (hbel.cell (p := ⟨b', off' + k * 3 + 2, none⟩) hb').trans (hc' k hlt).2.2
      clear hc hc'
      go_wp2
      go_region_with (go_at_call 58; refine (eqPoint_any _ _ _ _).mono ?_; rintro e w1 ⟨rfl, hb1⟩)
      all_goals
        go_wp2
        go_roundw
        case rel => exact ⟨k + 1, hlt, by go_num, hbel.drew.trans (hb1.mono hbel.size)⟩
        case measure => simp [intOf]; omega
    · obtain rfl : k = len := by omega
      go_wp2
      go_ret
      exact ⟨rfl, hbel⟩

/-- The marks n, n + 1, .. on the nodes of a list, two for each node. -/
def mkP (n : Int) : Nat → List Pd
  | 0 => []
  | k + 1 => mkP n k ++ [(n + 3 * k, n + 3 * k + 1, n + 3 * k + 1 + 1)]
theorem mkP_len (n : Int) (k : Nat) : (mkP n k).length = k := by induction k with | zero => rfl | succ k ih => simp [mkP, ih]
theorem mkP_at (n : Int) (k j : Nat) (h : j < k) : kp (mkP n k) j = n + 3 * j ∧ fp (mkP n k) j = n + 3 * j + 1 ∧ tp (mkP n k) j = n + 3 * j + 1 + 1 := by
  induction k with
  | zero => omega
  | succ k ih =>
    have hl := mkP_len n k
    unfold kp fp tp at *
    by_cases e : j = k
    · subst e; simp [mkP, List.getD, hl]
    · have := ih (by omega)
      simp only [mkP, List.getD_eq_getElem?_getD] at this ⊢
      rw [List.getElem?_append_left (by omega)]
      exact this
def mklP (xs : List Pd) (n : Int) (j : Nat) : List Pd := mkP n j ++ xs.drop j
theorem mklP_len (xs : List Pd) (n : Int) (j : Nat) (h : j ≤ xs.length) : (mklP xs n j).length = xs.length := by simp [mklP, mkP_len]; omega
theorem mklP_set (xs : List Pd) (n : Int) (j : Nat) (h : j < xs.length) : (mklP xs n j).set j (n + 3 * j, n + 3 * j + 1, n + 3 * j + 1 + 1) = mklP xs n (j + 1) := by
  have e : xs.drop j = xs[j] :: xs.drop (j + 1) := List.drop_eq_getElem_cons h
  rw [mklP, mklP, mkP, e, List.set_append_right _ _ (by simp [mkP_len]), mkP_len, Nat.sub_self, List.set_cons_zero, List.append_assoc]
  rfl
theorem mklP_all (xs : List Pd) (n : Int) : mklP xs n xs.length = mkP n xs.length := by simp [mklP]

set_option maxHeartbeats 1000000 in
theorem markPointS_any (xs : List Pd) (v : Value) (B : Nat) (n : Int) (w : World) (hl : xs.length ≤ 1048576) (hn : 0 ≤ n) (hn2 : n ≤ 4611686018427387904) (h : OwnP w B v xs) :
    Calls Try.prog 31 #[v, .int .i64 n] w fun e w' => e = .returned (.int .i64 (n + 3 * xs.length)) ∧ OwnP w' B v (mkP n xs.length) ∧ Below B w w' ∧ w.grownBy w' v.ownBlock := by
  obtain ⟨hlen, ⟨rfl, hn0⟩ | ⟨g, cap, cur, rfl, hg, hh, hcc, hm, hs, ht⟩⟩ := id h
  · obtain rfl : xs = [] := List.eq_nil_of_length_eq_zero hn0
    have H := Lib.hid h
    clear h hlen hn0
    go_enter Try.func31, Try.ntmps31
    go_wp2
    refine wp_loop_rounds 1 ?_
    rw [rounds_succ]
    go_wp2
    go_ret
    exact ⟨ret_int (by simp), H.out, Below.refl _ _, World.grownBy.refl _ _⟩
  · obtain ⟨len, hlen2⟩ : ∃ len, len = xs.length := ⟨_, rfl⟩
    have hlb : len ≤ 1048576 := by omega
    unfold OwnP at h
    rw [← hlen2] at h ⊢
    have HL := Lib.hid hlen2
    clear hlen2 hlen hh hs ht hl hcc
    have hg' := hg
    clear hg
    have hst : w.ownsRow B 61 3 (.slice (some ⟨g, 0, none⟩) len cap) len (cellsP (mklP xs n 0)) := h
    have HH := Lib.hid hst
    clear hst h
    go_enter Try.func31, Try.ntmps31
    go_wp2
    go_loopw [1, 5] (fun c i wr => ∃ k : Nat, k ≤ len ∧ i = .int .i64 k ∧ c = .int .i64 (n + 3 * k) ∧ wr.ownsRow B 61 3 (.slice (some ⟨g, 0, none⟩) len cap) len (cellsP (mklP xs n k)) ∧ Below B w wr ∧ w.grownBy wr (some g)) (fun _ i _ => len - (intOf i).toNat)
    case atStart => exact ⟨0, Nat.zero_le _, rfl, by simp, HH.out, Below.refl _ _, World.grownBy.refl _ _⟩
    case round =>
      obtain ⟨k, hk, rfl, rfl, hown, hbel, hgr⟩ := hrel
      by_cases hlt : k < len
      · have hl2 : (mklP xs n k).length = len := by rw [mklP_len xs n k (by rw [← HL.out]; exact hk), HL.out]
        obtain ⟨h1, h2, h3⟩ := cellsP_at (mklP xs n k) k (by omega)
        have hg1 : wr.cell? ⟨g, k * 3, none⟩ = some (.int .i64 (kp (mklP xs n k) k)) := (hown.cellAt (k * 3) (by omega)).trans h1
        have hg2 : wr.cell? ⟨g, k * 3 + 1, none⟩ = some (.int .i64 (fp (mklP xs n k) k)) := (hown.cellAt (k * 3 + 1) (by omega)).trans h2
        have hg3 : wr.cell? ⟨g, k * 3 + 2, none⟩ = some (.int .i64 (tp (mklP xs n k) k)) := (hown.cellAt (k * 3 + 2) (by omega)).trans h3
        have hf1 : wr.frozen? ⟨g, k * 3, none⟩ = false := hown.frozenAt _
        have hf2 : wr.frozen? ⟨g, k * 3 + 1, none⟩ = false := hown.frozenAt _
        have hf3 : wr.frozen? ⟨g, k * 3 + 2, none⟩ = false := hown.frozenAt _
        have s1 := hown.stored (k * 3) (.int .i64 (n + 3 * k))
        have s2 := s1.1.stored (k * 3 + 1) (.int .i64 (n + 3 * k + 1))
        have s4 := s2.1.stored (k * 3 + 2) (.int .i64 (n + 3 * k + 1 + 1))
        have s3 := s4.1
        rw [cellsP_set _ _ (by omega), mklP_set _ _ _ (by rw [← HL.out]; exact hlt)] at s3
        have hbs := ((hbel.setCell (p := ⟨g, k * 3, none⟩) hg' (.int .i64 (n + 3 * k))).setCell (p := ⟨g, k * 3 + 1, none⟩) hg' (.int .i64 (n + 3 * k + 1))).setCell (p := ⟨g, k * 3 + 2, none⟩) hg' (.int .i64 (n + 3 * k + 1 + 1))
        have gt : ∀ {a b c : World}, a.grownBy b (some g) → b.grownBy c (some g) → a.grownBy c (some g) := fun h k => ⟨k.os.trans h.os, k.tape.trans h.tape, k.output.trans h.output, Nat.le_trans h.size k.size, fun i hi hne => (k.block i (Nat.lt_of_lt_of_le hi h.size) hne).trans (h.block i hi hne)⟩
        have hgs := gt hgr (gt s1.2 (gt s2.2 s4.2))
        have S3 := Lib.hid s3
        have HBS := Lib.hid hbs
        have HGS := Lib.hid hgs
        clear hown h1 h2 h3 s1 s2 s3 s4 hbs hgs gt hl2
        go_wp2
        go_roundw
        case rel => exact ⟨k + 1, hlt, by go_num, by go_num, S3.out, HBS.out, HGS.out⟩
        case measure => simp [intOf]; omega
      · obtain rfl : k = len := by omega
        have HO := Lib.hid hown
        clear hown
        go_wp2
        go_ret
        refine ⟨rfl, ?_, hbel, hgr⟩
        have ho := HO.out
        have e := HL.out
        rw [e, mklP_all] at ho
        unfold OwnP
        rw [mkP_len, e]
        exact ho

set_option maxHeartbeats 400000 in
theorem heldPointS_any (m : Nat) (a : Option Addr) (cap : Nat) (n : Int) (w : World) (hl : m ≤ 1048576) (hn : 0 ≤ n) (hn2 : n ≤ 4611686018427387904) (h : AtP w a m (mkP n m)) :
    Calls Try.prog 32 #[.slice a m cap, .int .i64 n] w fun e w' => e = .returned (.int .i64 (n + 3 * m)) ∧ w = w' := by
  have H := Lib.hid h
  clear h
  go_enter Try.func32, Try.ntmps32
  go_wp2
  go_loop [1, 5] (fun c i => ∃ k : Nat, k ≤ m ∧ i = .int .i64 k ∧ c = .int .i64 (n + 3 * k)) (fun _ i => m - (intOf i).toNat)
  case atStart => exact ⟨0, Nat.zero_le _, rfl, by simp⟩
  case round =>
    obtain ⟨k, hk, rfl, rfl⟩ := hrel
    by_cases hlt : k < m
    · obtain ⟨b, off, rfl, hb, hc⟩ := H.out.2.resolve_left (by omega)
      obtain ⟨h1, h2, h3⟩ := hc k hlt
      obtain ⟨e1, e2, e3⟩ := mkP_at n m k hlt
      rw [e1] at h1
      rw [e2] at h2
      rw [e3] at h3
      clear hc e1 e2 e3
      go_wp2
      go_round
      case rel => exact ⟨k + 1, hlt, by go_num, by go_num⟩
      case measure => simp [intOf]; omega
    · obtain rfl : k = m := by omega
      go_wp2
      go_ret
      exact ⟨rfl, rfl⟩

end Go.Proofs.Ytfkdefmafhlmnaa
