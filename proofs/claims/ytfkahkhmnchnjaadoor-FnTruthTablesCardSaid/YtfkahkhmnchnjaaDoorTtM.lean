/- What the table of a formula tells of its models (mathematics), and the laws' small functions over lists of int64. Conditions: those in the theorems. -/
import Derived.Test.YtfkahkhmnchnjaaDoorTz
import Derived.Test.YtfkahkhmnchnjaaDoorJn13
import Derived.Test.YtfkahkhmnchnjaaDoorTi
import Derived.Test.YtfkahkhmnchnjaaDoorJn14
import Derived.Test.YtfkahkhmnchnjaaDoorJn10
namespace Go.Proofs.YtfkahkhmnchnjaaDoor
open Go.RowKit

theorem cnF_all (f : Fm) (k : Nat) : cnF f k = k ↔ ∀ r, r < k → f.ev r = true := by
  induction k with
  | zero => simp [cnF]
  | succ k ih =>
    have := cnF_le f k
    rw [cnF]
    constructor
    · intro h r hr
      cases e : f.ev k
      · rw [e] at h; simp at h; omega
      · rw [e] at h
        by_cases hk : r = k
        · subst hk; exact e
        · exact ih.1 (by simpa using h) r (by omega)
    · intro h
      rw [h k (by omega), ih.2 (fun r hr => h r (by omega))]; rfl
theorem tau_cn (f : Fm) : decide (fs (tbl f 64) false 0 < 0) = decide (cnF f 64 = 64) := by
  rw [Bool.eq_iff_iff, decide_eq_true_eq, decide_eq_true_eq, fs_tbl, cnF_all]
  constructor
  · intro h r hr
    have := h r hr
    cases e : f.ev r
    · exact (this e).elim
    · rfl
  · intro h r hr; rw [h r hr]; simp
theorem ck_ok' {xs : List Nd} (h : ck xs = 0) : (toFm xs).ok := (toFm_of (ck_good h).1).1
theorem fs_down {f : Fm} {k : Nat} (hk : k < 64) : fs ((tbl f 64).drop k) true k = if f.ev k then (k : Int) else fs ((tbl f 64).drop (k + 1)) true (k + 1) := by
  have hl : k < (tbl f 64).length := by rw [tbl_len]; exact hk
  rw [List.drop_eq_getElem_cons hl, fs]
  have e : (tbl f 64)[k] = f.ev k := by simp [tbl]
  rw [e]
theorem fs_top (f : Fm) : fs ((tbl f 64).drop 64) true 64 = -1 := by
  rw [List.drop_eq_nil_of_le (by rw [tbl_len]; exact Nat.le_refl _)]; rfl
theorem fs_rng (f : Fm) (k : Nat) (hk : k ≤ 64) : -1 ≤ fs ((tbl f 64).drop k) true k ∧ fs ((tbl f 64).drop k) true k < 64 := by
  induction h : 64 - k generalizing k with
  | zero => obtain rfl : k = 64 := by omega
            rw [fs_top]; omega
  | succ d ih =>
    rw [fs_down (by omega)]
    have := ih (k + 1) (by omega) (by omega)
    split
    · omega
    · exact this
theorem la_six {xs : List Nd} (hc : ck xs = 0) : laB (vaL xs) 6 = false := by
  have ht := (is_tree (ck_good hc).1).1
  have hm := mkTo_lt ht xs.length (Nat.le_refl _)
  unfold laB
  by_cases h0 : 0 < (vaL xs).length
  · rw [decide_eq_true h0, Bool.true_and]
    refine decide_eq_false ?_
    have hmem : nth (vaL xs) ((vaL xs).length - 1) ∈ vaL xs := by
      have hl : (vaL xs).length - 1 < (vaL xs).length := by omega
      have : nth (vaL xs) ((vaL xs).length - 1) = (vaL xs)[(vaL xs).length - 1] := by simp [nth, List.getD, hl]
      rw [this]; exact List.getElem_mem _
    obtain ⟨i, h1, h2, h3⟩ := (mem_bit _ _ 30).1 hmem
    rw [h3]
    intro hle
    have := bitN_high (m := mkTo xs xs.length) (i := 6) (k := i) (by omega) (by omega)
    rw [this] at h2; cases h2
  · rw [decide_eq_false h0]; rfl
theorem cm_six {xs : List Nd} (hc : ck xs = 0) : cmV xs 6 = (cnF (toFm xs) 64 : Nat) ∧ cmC xs 6 = 0 := by
  obtain ⟨h1, h2⟩ := cm_good2 (n := 6) hc (by decide) (la_six hc)
  exact ⟨h1, h2⟩
theorem dpL_mem (f : Fm) (x : Int) (n : Nat) : x ∈ dpL f n ↔ ∃ v, v < n ∧ dpR f v 64 = true ∧ x = (v : Int) := by
  induction n with
  | zero => simp [dpL]
  | succ n ih =>
    cases e : dpR f n 64
    · rw [dpL_no e, ih]
      constructor
      · rintro ⟨v, h1, h2⟩; exact ⟨v, by omega, h2⟩
      · rintro ⟨v, h1, h2, h3⟩
        by_cases hv : v = n
        · subst hv; rw [e] at h2; cases h2
        · exact ⟨v, by omega, h2, h3⟩
    · rw [dpL_yes e, List.mem_append, ih, List.mem_singleton]
      constructor
      · rintro (⟨v, h1, h2⟩ | h)
        · exact ⟨v, by omega, h2⟩
        · exact ⟨n, by omega, e, h⟩
      · rintro ⟨v, h1, h2, h3⟩
        by_cases hv : v = n
        · subst hv; right; exact h3
        · left; exact ⟨v, by omega, h2, h3⟩
/-- The first k elements have x. -/
def haB (zs : List Int) (x : Int) : Nat → Bool
  | 0 => false
  | k + 1 => haB zs x k || decide (nth zs k = x)
theorem haB_true {zs : List Int} {x : Int} {k l : Nat} (hk : k < l) (h : nth zs k = x) : haB zs x l = true := by
  induction l with
  | zero => omega
  | succ l ih =>
    rw [haB]
    by_cases e : k = l
    · subst e; rw [decide_eq_true h]; simp
    · rw [ih (by omega)]; rfl
theorem haB_mem (zs : List Int) (x : Int) : haB zs x zs.length = decide (x ∈ zs) := by
  have key : ∀ n, haB zs x n = true ↔ ∃ k, k < n ∧ nth zs k = x := by
    intro n
    induction n with
    | zero => simp [haB]
    | succ n ih =>
      rw [haB, Bool.or_eq_true, ih, decide_eq_true_eq]
      constructor
      · rintro (⟨k, h1, h2⟩ | h)
        · exact ⟨k, by omega, h2⟩
        · exact ⟨n, by omega, h⟩
      · rintro ⟨k, h1, h2⟩
        by_cases e : k = n
        · subst e; right; exact h2
        · left; exact ⟨k, by omega, h2⟩
  rw [Bool.eq_iff_iff, key, decide_eq_true_eq, List.mem_iff_getElem]
  constructor
  · rintro ⟨k, h1, h2⟩; exact ⟨k, h1, by rw [← h2]; simp [nth, List.getD, h1]⟩
  · rintro ⟨k, h1, h2⟩; exact ⟨k, h1, by rw [← h2]; simp [nth, List.getD, h1]⟩
theorem haB_dp (f : Fm) {v : Nat} (hv : v < 6) : haB (dpL f 6) (v : Int) (dpL f 6).length = dpR f v 64 := by
  rw [haB_mem, Bool.eq_iff_iff, decide_eq_true_eq, dpL_mem]
  constructor
  · rintro ⟨u, h1, h2, h3⟩
    have : u = v := by omega
    subst this; exact h2
  · intro h; exact ⟨v, hv, h, rfl⟩

/-- The negation of a formula has the other rows. -/
theorem cnF_not (f : Fm) (k : Nat) : cnF (.bi 4 f .fa) k + cnF f k = k := by
  induction k with
  | zero => rfl
  | succ k ih =>
    have e : (Fm.bi 4 f .fa).ev k = !f.ev k := by simp [Fm.ev]
    rw [cnF, cnF, e]
    cases f.ev k <;> simp <;> omega
theorem plTo_of {xs : List Nd} {n : Nat} (h : ∀ k, k < n → mdB (kd xs k) = false) : plTo xs n = true := by
  induction n with
  | zero => rfl
  | succ n ih => rw [plTo, ih (fun k hk => h k (by omega)), h n (by omega)]; rfl
theorem not_ok {xs : List Nd} (hc : ck xs = 0) (h40 : (notL xs).length ≤ 40) : ck (notL xs) = 0 ∧ toFm (notL xs) = .bi 4 (toFm xs) .fa := by
  obtain ⟨hb, hp⟩ := ck_good hc
  obtain ⟨f1, f2, f3⟩ := toFm_of hb
  have fo : (Fm.bi 4 (toFm xs) .fa).ok := ⟨by decide, f1, trivial⟩
  have fe : notL xs = (Fm.bi 4 (toFm xs) .fa).enc := by
    have : (Fm.bi 4 (toFm xs) .fa).enc = (4, 0) :: ((toFm xs).enc ++ [(1, 0)]) := by simp [Fm.enc]
    rw [this, ← f2]; rfl
  have fs40 : (Fm.bi 4 (toFm xs) .fa).sz ≤ 40 := by
    have := congrArg List.length fe
    rw [Fm.enc_len] at this
    omega
  have hb2 : isB (notL xs) (notL xs).length = true := by rw [fe]; exact fm_is _ fo fs40
  obtain ⟨g1, g2, g3⟩ := toFm_of hb2
  have heq : toFm (notL xs) = .bi 4 (toFm xs) .fa := (enc_inj _ g1 _ [] [] fo (by rw [List.append_nil, List.append_nil, ← g2, fe])).1
  have hpl : plTo (notL xs) (notL xs).length = true := plTo_of fun k hk => by
    have hl : (notL xs).length = xs.length + 2 := by simp [notL]
    cases k with
    | zero => rfl
    | succ j =>
      show mdB (kd (xs ++ [(1, 0)]) j) = false
      by_cases hj : j < xs.length
      · have e : kd (xs ++ [(1, 0)]) j = kd xs j := by simp [kd, List.getD_eq_getElem?_getD, List.getElem?_append, hj]
        rw [e]; exact plTo_at hp j hj
      · obtain rfl : j = xs.length := by omega
        have e : kd (xs ++ [(1, 0)]) xs.length = 1 := by simp [kd, List.getD_eq_getElem?_getD]
        rw [e]; rfl
  exact ⟨by rw [ck, hb2, hpl]; rfl, heq⟩

set_option maxHeartbeats 1000000 in
theorem sumTt_any (f : Fm) (a : Option Addr) (cap : Nat) (w : World) (h : At w a 64 (ttL f 64)) :
    Calls Tryd.prog 9 #[.slice a 64 cap] w fun e w' => e = .returned (.int .i64 ((cnF f 64 : Nat) : Int)) ∧ w = w' := by
  obtain ⟨b, off, rfl, hb, hc⟩ := h.2.resolve_left (by omega)
  have HC := Lib.hid hc
  clear h hc
  go_enter Tryd.func9, Tryd.ntmps9
  go_wp2
  go_loop [3, 4] (fun n i => ∃ k : Nat, k ≤ 64 ∧ i = .int .i64 k ∧ n = .int .i64 ((cnF f k : Nat) : Int)) (fun _ i => 64 - (intOf i).toNat)
  case atStart => exact ⟨0, Nat.zero_le _, rfl, rfl⟩
  case round =>
    obtain ⟨k, hk, rfl, rfl⟩ := hrel
    have hle := cnF_le f k
    by_cases hlt : k < 64
    · have c1 := HC.out k hlt
      rw [ttL_at f hlt] at c1
      have N := Lib.hid (show cnF f (k + 1) = cnF f k + if f.ev k then 1 else 0 from rfl)
      generalize f.ev k = y at c1 N
      generalize cnF f k = cc at N hle ⊢
      cases y
      · replace c1 : w.cell? ⟨b, off + k, none⟩ = some (.int .i64 0) := c1
        go_wp2
        go_round
        case rel => exact ⟨k + 1, hlt, by go_num, by rw [N.out]; simp⟩
        case measure => simp [intOf]; omega
      · replace c1 : w.cell? ⟨b, off + k, none⟩ = some (.int .i64 1) := c1
        go_wp2
        go_round
        case rel => exact ⟨k + 1, hlt, by go_num, by rw [N.out]; simp⟩
        case measure => simp [intOf]; omega
    · obtain rfl : k = 64 := by omega
      go_wp2
      go_ret
      exact ⟨rfl, rfl⟩

theorem bit5_any (m i : Int) (w : World) (hn2 : 0 ≤ i) (hi : i ≤ 30) :
    Calls Tryd.prog 14 #[.int .i64 m, .int .i64 i] w fun e w' => e = .returned (.bool (bitB m i)) ∧ w = w' := by
  go_enter Tryd.func14, Tryd.ntmps14
  go_wp2
  go_ret
  exact ⟨rfl, rfl⟩

set_option maxHeartbeats 1000000 in
theorem hasInt_any (zs : List Int) (x : Int) (a : Option Addr) (len cap : Nat) (w : World) (hl : len ≤ 1048576) (h : At w a len zs) :
    Calls Tryd.prog 15 #[.slice a len cap, .int .i64 x] w fun e w' => e = .returned (.bool (haB zs x len)) ∧ w = w' := by
  have H := Lib.hid h
  clear h
  go_enter Tryd.func15, Tryd.ntmps15
  go_wp2
  go_loop [5] (fun i => ∃ k : Nat, k ≤ len ∧ i = .int .i64 k ∧ Hid (haB zs x k = false)) (fun i => len - (intOf i).toNat)
  case atStart => exact ⟨0, Nat.zero_le _, rfl, (show _ = _ from rfl)⟩
  case round =>
    obtain ⟨k, hk, rfl, hm⟩ := hrel
    by_cases hlt : k < len
    · obtain ⟨b, off, rfl, hb, hc⟩ := H.out.2.resolve_left (by omega)
      have c1 := hc k hlt
      by_cases e : nth zs k = x
      · have E := Lib.hid (haB_true hlt e)
        clear hc hm
        rw [e] at c1
        go_wp2
        go_ret
        exact ⟨ret_bool E.out.symm, rfl⟩
      · have E := Lib.hid (show haB zs x (k + 1) = false by rw [haB, hm.out, decide_eq_false e]; rfl)
        have hne : (nth zs k == x) = false := by simpa using e
        generalize nth zs k = y at c1 hne e
        clear hc hm
        go_wp2
        go_round
        case rel => exact ⟨k + 1, hlt, by go_num, E⟩
        case measure => simp [intOf]; omega
    · obtain rfl : k = len := by omega
      have E := Lib.hid hm.out
      clear hm
      go_wp2
      go_ret
      exact ⟨ret_bool E.out.symm, rfl⟩

end Go.Proofs.YtfkahkhmnchnjaaDoor
