/- 2 texts in one: FiM, FiS. -/
import Derived.Lib.TrailingZeros
import Derived.Test.YtnoaaklkbfbdbaaDoorJn16
import Derived.Test.YtnoaaklkbfbdbaaDoorMsk
import Derived.Test.YtnoaaklkbfbdbaaDoorJn04
/- The first model of a frame that refutes a formula: which one, and the least world. Conditions: those in the theorems. -/
namespace Go.Proofs.YtnoaaklkbfbdbaaDoor
open Go.RowKit

/-- The least k below N of which p holds, or N. -/
def lst (p : Nat → Bool) : Nat → Nat
  | 0 => 0
  | N + 1 => if lst p N < N then lst p N else if p N then N else N + 1
theorem lst_eq {p : Nat → Bool} : ∀ {N k : Nat}, k ≤ N → (∀ j, j < k → p j = false) → (k < N → p k = true) → lst p N = k
  | 0, k, h, _, _ => by have : k = 0 := by omega
                        subst this; rfl
  | N + 1, k, h, h1, h2 => by
    by_cases e : k < N
    · rw [lst, lst_eq (by omega : k ≤ N) h1 (fun _ => h2 (by omega)), if_pos e]
    · by_cases e2 : k = N
      · subst e2
        rw [lst, lst_eq (Nat.le_refl k) h1 (fun q => absurd q (by omega)), if_neg (by omega), h2 (by omega), if_pos rfl]
      · obtain rfl : k = N + 1 := by omega
        rw [lst, lst_eq (Nat.le_refl N) (fun j hj => h1 j (by omega)) (fun q => absurd q (by omega)), if_neg (by omega), h1 N (by omega)]
        rfl

/-- The worlds at which the k-th model refutes a formula. -/
noncomputable def zF (xs : List Int) (zs : List Nd) (k : Nat) : Int := bits .andNot .i64 (full xs.length) ((toFm zs).tr xs (vlL xs.length (vrL zs) k))
noncomputable def fiN (xs : List Int) (zs : List Nd) : Nat := 2 ^ (xs.length * (vrL zs).length)
noncomputable def fiK (xs : List Int) (zs : List Nd) : Nat := lst (fun k => !(zF xs zs k == 0)) (fiN xs zs)
noncomputable def fiL (n : Int) (xs : List Int) (zs : List Nd) : List Int := if rwC n xs zs = 0 ∧ fiK xs zs < fiN xs zs then vlL xs.length (vrL zs) (fiK xs zs) else []
noncomputable def fiW (n : Int) (xs : List Int) (zs : List Nd) : Int := if rwC n xs zs = 0 ∧ fiK xs zs < fiN xs zs then nth (memTo (zF xs zs (fiK xs zs)).toNat 30) 0 else 0
noncomputable def fiC (n : Int) (xs : List Int) (zs : List Nd) : Int := if rwC n xs zs = 0 then (if fiK xs zs < fiN xs zs then 0 else 4) else rwC n xs zs
noncomputable def voV (n : Int) (xs : List Int) (zs : List Nd) : Bool := decide (rwC n xs zs = 0 ∧ ¬ fiK xs zs < fiN xs zs)
theorem fi_bad {n : Int} {xs : List Int} {zs : List Nd} (h : ¬ rwC n xs zs = 0) : fiL n xs zs = [] ∧ fiW n xs zs = 0 ∧ fiC n xs zs = rwC n xs zs ∧ voV n xs zs = false :=
  ⟨if_neg fun q => h q.1, if_neg fun q => h q.1, if_neg h, decide_eq_false fun q => h q.1⟩
theorem fi_none {n : Int} {xs : List Int} {zs : List Nd} (h : rwC n xs zs = 0) (ha : ∀ j, j < fiN xs zs → zF xs zs j = 0) : fiL n xs zs = [] ∧ fiW n xs zs = 0 ∧ fiC n xs zs = 4 ∧ voV n xs zs = true := by
  have e : fiK xs zs = fiN xs zs := lst_eq (Nat.le_refl _) (fun j hj => by simp [ha j hj]) (fun q => absurd q (Nat.lt_irrefl _))
  have g : ¬ fiK xs zs < fiN xs zs := by omega
  exact ⟨if_neg fun q => g q.2, if_neg fun q => g q.2, by rw [fiC, if_pos h, if_neg g], decide_eq_true ⟨h, g⟩⟩
theorem fi_hit {n : Int} {xs : List Int} {zs : List Nd} {k : Nat} (h : rwC n xs zs = 0) (hk : k < fiN xs zs) (ha : ∀ j, j < k → zF xs zs j = 0) (hz : ¬ zF xs zs k = 0) :
    fiL n xs zs = vlL xs.length (vrL zs) k ∧ fiW n xs zs = nth (memTo (zF xs zs k).toNat 30) 0 ∧ fiC n xs zs = 0 ∧ voV n xs zs = false := by
  have e : fiK xs zs = k := lst_eq (Nat.le_of_lt hk) (fun j hj => by simp [ha j hj]) (fun _ => by simpa using hz)
  have g : rwC n xs zs = 0 ∧ fiK xs zs < fiN xs zs := ⟨h, by omega⟩
  refine ⟨by rw [fiL, if_pos g, e], by rw [fiW, if_pos g, e], by rw [fiC, if_pos h, if_pos g.2], decide_eq_false fun q => q.2 g.2⟩
theorem rwC_ne (n : Int) (xs : List Int) (zs : List Nd) : ¬ rwC n xs zs = 4 := by
  unfold rwC csC
  split
  · split
    · omega
    · omega
  · omega
theorem voC (n : Int) (xs : List Int) (zs : List Nd) : (if fiC n xs zs = 4 then Ending.returned (.tuple #[.bool true, .int .i64 0]) else .returned (.tuple #[.bool false, .int .i64 (fiC n xs zs)])) = .returned (.tuple #[.bool (voV n xs zs), .int .i64 (rwC n xs zs)]) := by
  by_cases h : rwC n xs zs = 0
  · by_cases g : fiK xs zs < fiN xs zs
    · have e : fiC n xs zs = 0 := by rw [fiC, if_pos h, if_pos g]
      rw [e, if_neg (by decide), h, show voV n xs zs = false from decide_eq_false fun q => q.2 g]
    · have e : fiC n xs zs = 4 := by rw [fiC, if_pos h, if_neg g]
      rw [e, if_pos rfl, h, show voV n xs zs = true from decide_eq_true ⟨h, g⟩]
  · obtain ⟨-, -, e, e2⟩ := fi_bad h
    rw [e, if_neg (rwC_ne n xs zs), e2]

theorem bitN_tb2 (m i : Nat) : bitN m i = m.testBit i := by rw [Nat.testBit_eq_decide_div_mod_eq]; rfl
theorem memTo_none {x : Nat} : ∀ {k : Nat}, (∀ i, i < k → x.testBit i = false) → memTo x k = []
  | 0, _ => rfl
  | k + 1, h => by rw [memTo, bitN_tb2, h k (by omega), memTo_none (fun i hi => h i (by omega))]; rfl
theorem memTo_head {x c : Nat} (h1 : ∀ i, i < c → x.testBit i = false) (h2 : x.testBit c = true) : ∀ {k : Nat}, c < k → ∃ tl, memTo x k = (c : Int) :: tl
  | 0, h => by omega
  | k + 1, h => by
    by_cases e : c < k
    · obtain ⟨tl, ht⟩ := memTo_head h1 h2 e
      rw [memTo, ht]
      split
      · exact ⟨tl ++ [(k : Int)], rfl⟩
      · exact ⟨tl, rfl⟩
    · obtain rfl : c = k := by omega
      rw [memTo, memTo_none h1, bitN_tb2, h2]
      exact ⟨[], rfl⟩
theorem ctz_head {x : Nat} (h0 : x ≠ 0) (h : x < 1073741824) : nth (memTo x 30) 0 = ((Lib.ctz 64 x : Nat) : Int) ∧ 0 < (memTo x 30).length := by
  obtain ⟨m, hm, hc⟩ := Lib.ctzFrom_spec 64 x (Nat.pos_of_ne_zero h0) (by omega)
  have e : Lib.ctz 64 x = Lib.ctzFrom 64 x := if_neg h0
  rw [e]
  generalize Lib.ctzFrom 64 x = c at hm hc
  have t1 : ∀ i, x.testBit i = (decide (c ≤ i) && (2 * m + 1).testBit (i - c)) := fun i => by rw [hm, Nat.mul_comm, Nat.testBit_mul_two_pow]
  have h1 : ∀ i, i < c → x.testBit i = false := fun i hi => by rw [t1, decide_eq_false (by omega)]; rfl
  have h2 : x.testBit c = true := by rw [t1, decide_eq_true (Nat.le_refl _), Nat.sub_self]; simp [Nat.testBit_zero]
  have hc30 : c < 30 := by
    by_cases q : c < 30
    · exact q
    · have := Nat.testBit_lt_two_pow (x := x) (i := c) (Nat.lt_of_lt_of_le h (show 1073741824 ≤ 2 ^ c by rw [show 1073741824 = 2 ^ 30 from rfl]; exact Nat.pow_le_pow_right (by decide) (by omega)))
      rw [h2] at this; cases this
  obtain ⟨tl, ht⟩ := memTo_head h1 h2 hc30
  rw [ht]
  exact ⟨rfl, by simp⟩

end Go.Proofs.YtnoaaklkbfbdbaaDoor

/- What the model answers for the first model that refutes a formula. Conditions: those in the theorems. -/
namespace Go.Proofs.YtnoaaklkbfbdbaaDoor
open Go.RowKit

theorem zF_iff {xs : List Int} {zs : List Nd} (h8 : xs.length ≤ 8) (hr : Rel xs.length (nth xs)) (k : Nat) : ((toFm zs).tr xs (vlL xs.length (vrL zs) k) == full xs.length) = (zF xs zs k == 0) :=
  full_iff (by omega) (tr_in (by omega) hr (fun i => vlL_in _ _ _ i) _)
theorem zF_mk {xs : List Int} {zs : List Nd} (h8 : xs.length ≤ 8) (hr : Rel xs.length (nth xs)) (k : Nat) : InMk xs.length (zF xs zs k) :=
  InMk.not (by omega) (InMk.full (by omega)) (tr_in (by omega) hr (fun i => vlL_in _ _ _ i) _)

set_option maxHeartbeats 4000000 in
set_option maxRecDepth 100000 in
theorem l06First_any (xs : List Int) (zs : List Nd) (a0 : Option Addr) (c0 b1 o1 c1 : Nat) (w : World) (h8 : xs.length ≤ 8) (h16 : xs.length * (vrL zs).length ≤ 16) (hr : Rel xs.length (nth xs)) (hb : isB zs zs.length = true) (hl1 : zs.length ≤ 1048576) (hx : At w a0 xs.length xs) (hz : AtN w (some ⟨b1, o1, none⟩) zs.length zs) (hf : AtF w b1 o1 zs.length c1 (toFm zs)) :
    Calls Tryd.prog 22 #[.agg #[.int .i64 xs.length, .slice a0 xs.length c0], .slice (some ⟨b1, o1, none⟩) zs.length c1] w fun e w' =>
      Below w.heap.size w w' ∧ ((∃ k v, k < fiN xs zs ∧ (∀ j, j < k → zF xs zs j = 0) ∧ ¬ zF xs zs k = 0 ∧ e = .returned (.tuple #[v, .int .i64 ((toFm zs).tr xs (vlL xs.length (vrL zs) k)), .bool true]) ∧ Own w' w.heap.size v (vlL xs.length (vrL zs) k))
        ∨ ((∀ j, j < fiN xs zs → zF xs zs j = 0) ∧ e = .returned (.tuple #[.slice none 0 0, .int .i64 0, .bool false]))) := by
  obtain ⟨W, hW, HB, X, HS⟩ : ∃ W : World, W = w.alloc (.cells #[.int .i64 xs.length, .slice a0 xs.length c0] 30) ∧ Hid (Below w.heap.size w W) ∧ Hid (Bx W w.heap.size xs.length a0 xs.length c0) ∧ Hid (W.heap.size = w.heap.size + 1) := ⟨_, rfl, Lib.hid (alloc_keep _ _).1, Lib.hid (Bx.new _ _ _ _ _ _), Lib.hid (by simp)⟩
  have H0 := Lib.hid (hx.keep HB.out (Nat.le_refl _))
  have H1 := Lib.hid (hz.keep HB.out (Nat.le_refl _))
  have HF := Lib.hid (hf.keep HB.out (Nat.le_refl _))
  have HW := Lib.hid hW
  have ISB := Lib.hid hb
  have VV := Lib.hid (vr_vs hb)
  have REL := Lib.hid hr
  have H16 := Lib.hid h16
  have H8 := Lib.hid h8
  obtain ⟨lt0, x0, x1⟩ := X.out
  clear hx hz hf hW hb hr h16 h8
  go_enter Tryd.func22, Tryd.ntmps22
  go_wp2_with fail
  rw [← HW.out]
  refine (l02Variables_any zs _ zs.length c1 W (is_tree ISB.out).2 (is_tree ISB.out).1 H1.out).mono ?_
  rintro e w3 ⟨v3, rfl, ho, hb⟩
  obtain ⟨av, cv, rfl, hav, -⟩ := ho.at
  have AV := Lib.hid hav
  have T3 := Lib.hid hb
  clear hb ho hav x0 x1 lt0
  rw [show memTo (mkTo zs zs.length) 30 = vrL zs from rfl] at AV ⊢
  obtain ⟨n, hn⟩ : ∃ n, n = xs.length := ⟨_, rfl⟩
  obtain ⟨c, hc⟩ : ∃ c, c = (vrL zs).length := ⟨_, rfl⟩
  have NN := Lib.hid hn
  have CC := Lib.hid hc
  obtain ⟨M, hM⟩ : ∃ M : Nat, M = n * c := ⟨_, rfl⟩
  have hM16 : M ≤ 16 := by have := H16.out; rw [← hn, ← hc] at this; rw [hM]; exact this
  have hM' : (n : Int) * (c : Int) = (M : Int) := by rw [hM]; simp
  have hwm : IntKind.i64.wrap ((n : Int) * (c : Int)) = (M : Int) := by rw [hM', IntKind.wrap_i64]; omega
  obtain ⟨N, hN⟩ : ∃ N : Nat, N = 2 ^ M := ⟨_, rfl⟩
  have hN16 : N ≤ 65536 := by rw [hN]; exact Nat.pow_le_pow_right (show 0 < 2 by omega) hM16
  have ONE := Lib.hid (fun w' => show Calls Tryd.prog 37 #[.int .i64 (M : Int)] w' fun e w'' => e = .returned (.int .i64 (N : Int)) ∧ w' = w'' by
    have q := l01One_any (M : Int) w' (by omega) (by omega)
    rw [one_16 hM16, ← hN] at q
    exact q)
  have FN := Lib.hid (show fiN xs zs = N by rw [fiN, hN, hM, hn, hc])
  have X' := Lib.hid (X.out.keep T3.out)
  have n8 : n ≤ 8 := by have := H8.out; omega
  have c6 : c ≤ 6 := by have := VV.out.l6; omega
  rw [← hn] at X' H0 ⊢
  rw [← hc]
  clear hn hc hM hM' hN X
  have n0 : 0 ≤ (n : Int) := by omega
  have n30 : (n : Int) ≤ 30 := by omega
  go_wp2
  go_loopg [8] (N + 1) (fun g i wr => ∃ k : Nat, k ≤ N ∧ i = .int .i64 k ∧ N < k + g ∧ Hid (Below w3.heap.size w3 wr) ∧ Hid (∀ j, j < k → zF xs zs j = 0))
  case atStart => exact ⟨0, Nat.zero_le _, rfl, by omega, Lib.hid (Below.refl _ _), Lib.hid fun j hj => absurd hj (Nat.not_lt_zero _)⟩
  case round =>
    obtain ⟨k, hk, rfl, hg, B, ZE⟩ := hrel
    by_cases hlt : k < N
    · obtain ⟨lt0, x0, x1⟩ := X'.out.keep B.out
      obtain ⟨ys, hy⟩ : ∃ ys, ys = vlL n (vrL zs) k := ⟨_, rfl⟩
      have LV := Lib.hid (show Calls Tryd.prog 38 #[.agg #[.int .i64 n, .slice a0 n c0], .slice av c cv, .int .i64 k] wr fun e w'' => ∃ v, e = .returned v ∧ Own w'' wr.heap.size v ys ∧ Below wr.heap.size wr w'' by
        have q := l06Values_any n k (vrL zs) a0 n c0 av cv wr n8 VV.out (by omega) (AV.out.keep B.out (Nat.le_refl _))
        rw [← CC.out, ← hy] at q
        exact q)
      have HY := Lib.hid hy
      have LN := Lib.hid (show ys.length = 6 by rw [hy]; exact vlL_len _ _ _)
      obtain ⟨y, hyy⟩ : ∃ y, y = (toFm zs).tr xs ys := ⟨_, rfl⟩
      have YY := Lib.hid hyy
      have ZI := Lib.hid (show (y == full n) = (zF xs zs k == 0) by rw [hyy, hy, NN.out]; exact zF_iff H8.out REL.out k)
      obtain ⟨m, hm⟩ : ∃ m, m = gk - 1 := ⟨_, rfl⟩
      have m1' : N < k + 1 + m := by omega
      have m2' : m < gk := by omega
      have EY := Lib.hid (show (toFm zs).tr xs (vlL n (vrL zs) k) = y by rw [← hy, hyy])
      clear hy hyy hm
      go_wp2_with (first | (go_at_call 37; refine (ONE.out _).mono ?_; rintro e w' ⟨rfl, rfl⟩) | fail)
      refine LV.out.mono ?_
      rintro e w4 ⟨v4, rfl, ho, hb⟩
      obtain ⟨a4, c4, e4, hat4, -⟩ := ho.at
      rw [LN.out] at e4 hat4
      subst e4
      have O4 := Lib.hid (ho.mono (show W.heap.size ≤ wr.heap.size from Nat.le_trans T3.out.size B.out.size))
      have T4 := Lib.hid (B.out.trans (hb.mono B.out.size))
      have MO := Lib.hid (show Mo w4 (n : Int) a0 a4 xs ys from by
        have hA := H0.out.keep (T3.out.trans (T4.out.mono T3.out.size)) (Nat.le_refl _)
        have h8' : xs.length ≤ 8 := H8.out
        rw [HY.out] at hat4 ⊢
        rw [NN.out] at hA hat4 ⊢
        exact ⟨rfl, h8', ⟨(mksTo_iff (by omega) _ _).2 fun i _ => REL.out i, vlL_mks _ (by omega) _ _⟩, vlL_len _ _ _, hA, by rw [vlL_len]; exact hat4⟩)
      have TT := Lib.hid (show Calls Tryd.prog 39 #[.agg #[.int .i64 n, .slice a0 n c0, .slice a4 6 c4], .slice (some ⟨b1, o1, none⟩) zs.length c1] w4 fun e w' => e = .returned (.int .i64 y) ∧ Below w4.heap.size w4 w' by
        have q := l06Truth_any (toFm zs) (toFm_of ISB.out).1 n xs ys a0 c0 a4 c4 b1 o1 zs.length c1 w4 hl1 MO.out (HF.out.keep (T3.out.trans (T4.out.mono T3.out.size)) (Nat.le_refl _))
        rw [← NN.out, LN.out, ← YY.out] at q
        exact q)
      clear ho hb hat4 x0 x1 lt0
      obtain ⟨lt0, x0, x1⟩ := X'.out.keep T4.out
      go_wp2_with fail
      refine TT.out.mono ?_
      rintro e w5 ⟨rfl, hb⟩
      have O5 := Lib.hid (O4.out.keep hb (Nat.le_refl _))
      have T5 := Lib.hid (T4.out.trans (hb.mono T4.out.size))
      clear hb x0 x1 lt0
      obtain ⟨lt0, x0, x1⟩ := X'.out.keep T5.out
      cases hq : (y == full n)
      · have hq2 : (y != full n) = true := by rw [bne, hq]; rfl
        have hz0 : ¬ zF xs zs k = 0 := by have := ZI.out; rw [hq] at this; simpa using this.symm
        have Z0 := Lib.hid hz0
        clear hz0
        go_wp2_with (first | (go_at_call 24; refine (l01Full_any _ _ n0 n30).mono ?_; rintro e w' ⟨rfl, rfl⟩) | fail)
        go_ret3
        refine ⟨HB.out.trans ((T3.out.trans (T5.out.mono T3.out.size)).mono HB.out.size), .inl ⟨k, .slice a4 6 c4, (by rw [FN.out]; exact hlt), ZE.out, Z0.out, ?_, (by have q := O5.out.mono HB.out.size; rw [HY.out, NN.out] at q; exact q)⟩⟩
        rw [← NN.out, EY.out]
        rfl
      · have hq2 : (y != full n) = false := by rw [bne, hq]; rfl
        have hz0 : zF xs zs k = 0 := by have := ZI.out; rw [hq] at this; simpa using this.symm
        have Z0 := Lib.hid hz0
        clear hz0
        go_wp2_with (first | (go_at_call 24; refine (l01Full_any _ _ n0 n30).mono ?_; rintro e w' ⟨rfl, rfl⟩) | fail)
        go_roundg m
        case measure => exact m2'
        case rel => exact ⟨k + 1, hlt, by go_num, m1', T5, Lib.hid fun j hj => by rcases Nat.lt_succ_iff_lt_or_eq.1 hj with e | e; exact ZE.out j e; subst e; exact Z0.out⟩
    · obtain rfl : k = N := by omega
      obtain ⟨lt0, x0, x1⟩ := X'.out.keep B.out
      go_wp2_with (go_at_call 37; refine (ONE.out _).mono ?_; rintro e w' ⟨rfl, rfl⟩)
      go_ret3
      exact ⟨HB.out.trans ((T3.out.trans (B.out.mono T3.out.size)).mono HB.out.size), .inr ⟨fun j hj => ZE.out j (by rw [FN.out] at hj; exact hj), rfl⟩⟩

end Go.Proofs.YtnoaaklkbfbdbaaDoor
