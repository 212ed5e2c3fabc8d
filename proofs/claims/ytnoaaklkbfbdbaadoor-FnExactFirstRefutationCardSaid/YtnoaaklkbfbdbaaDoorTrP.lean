/- What the program answers for the truth set of a formula in a model. Conditions: those in the theorems. -/
import Derived.Test.YtnoaaklkbfbdbaaDoorJn11
import Derived.Test.YtnoaaklkbfbdbaaDoorJn10
import Derived.Test.YtnoaaklkbfbdbaaDoorAreF
import Derived.Test.YtnoaaklkbfbdbaaDoorJn13
import Derived.Test.YtnoaaklkbfbdbaaDoorJn08
namespace Go.Proofs.YtnoaaklkbfbdbaaDoor
open Go.RowKit

/-- What truthAt does at a formula that stands at i in a list of nodes. -/
def TaC (f : Fm) : Prop := ∀ (n : Int) (xs ys : List Int) (a : Option Addr) (cap : Nat) (a' : Option Addr) (cap' : Nat) (zs : List Nd) (b off len cp i : Nat) (r : List Nd) (w : World), len ≤ 1048576 → Mo w n a a' xs ys → AtN w (some ⟨b, off, none⟩) len zs → zs.drop i = f.enc ++ r →
    Calls Tryd.prog 61 #[.agg #[.int .i64 n, .slice a xs.length cap, .slice a' ys.length cap'], .slice (some ⟨b, off, none⟩) len cp, .int .i64 i] w fun e w' => e = .returned (.tuple #[.int .i64 (f.tr xs ys), .int .i64 ((i + f.sz : Nat) : Int)]) ∧ Below w.heap.size w w'

set_option maxHeartbeats 1000000 in
theorem ta_va (s : Int) (hf : (Fm.va s).ok) : TaC (.va s) := by
  intro n xs ys a cap a' cap' zs b off len cp i r w hl hm h hd
  obtain ⟨W, hW, hb0, hx, hWs⟩ := boxM (w := w) n a xs.length cap a' ys.length cap' 59
  have HB := Lib.hid hb0
  have M := Lib.hid (hm.keep hb0)
  have H := Lib.hid (h.keep hb0 (Nat.le_refl _))
  have HW := Lib.hid hW
  obtain ⟨hi, hb, c1⟩ := H.out.kindAt hd
  obtain ⟨b1, off1, ha, -, hc⟩ := H.out.2.resolve_left (by omega)
  cases ha
  have c2 := (hc i hi).2
  rw [show sy zs i = s from sy_at (x := (0, s)) (r := r) hd] at c2
  have h1 : 0 ≤ s := hf.1
  have h2 := hf.2
  obtain ⟨hn, h8, -, h6, -, hy⟩ := M.out
  obtain ⟨s', rfl⟩ := Int.eq_ofNat_of_zero_le h1
  have hlt : s' < ys.length := by omega
  obtain ⟨b', off', rfl, hb', hc'⟩ := hy.2.resolve_left (by omega)
  have hcell := hc' s' hlt
  obtain ⟨lt, x0, x1, x2⟩ := hx
  replace c1 : W.cell? ⟨b, off + i * 2, none⟩ = some (.int .i64 0) := c1
  have E := Lib.hid (show nth ys s' = (Fm.va (s' : Int)).tr xs ys by rw [Fm.tr, Int.toNat_natCast])
  clear h hf hm hb0 hW hc' hc hn h8 h6 hd
  rw [HW.out] at c1
  go_enter Tryd.func61, Tryd.ntmps61
  go_wp2
  rw [← HW.out]
  go_region
  all_goals
    go_wp2
    go_ret2
    exact ⟨ret_pair E.out rfl, HB.out.drew⟩

theorem ta_fa : TaC .fa := by
  intro n xs ys a cap a' cap' zs b off len cp i r w hl hm h hd
  obtain ⟨W, hW, hb0, hx, hWs⟩ := boxM (w := w) n a xs.length cap a' ys.length cap' 59
  have HB := Lib.hid hb0
  have H := Lib.hid (h.keep hb0 (Nat.le_refl _))
  have HW := Lib.hid hW
  obtain ⟨hi, hb, c1⟩ := H.out.kindAt hd
  replace c1 : W.cell? ⟨b, off + i * 2, none⟩ = some (.int .i64 1) := c1
  clear h hm hb0 hW hd hx
  rw [HW.out] at c1
  go_enter Tryd.func61, Tryd.ntmps61
  go_wp2
  go_ret2
  exact ⟨rfl, by rw [← HW.out]; exact HB.out⟩

set_option maxHeartbeats 2000000 in
theorem ta_un (k : Int) (g : Fm) (hk : k = 5 ∨ k = 6) (ih : TaC g) : TaC (.un k g) := by
  intro n xs ys a cap a' cap' zs b off len cp i r w hl hm h hd
  obtain ⟨W, hW, hb0, hx, hWs⟩ := boxM (w := w) n a xs.length cap a' ys.length cap' 59
  have HB := Lib.hid hb0
  have X := Lib.hid hx
  have M := Lib.hid (hm.keep hb0)
  have H := Lib.hid (h.keep hb0 (Nat.le_refl _))
  have HW := Lib.hid hW
  have K := Lib.hid (show ∀ w1 : World, Below W.heap.size W w1 → i < len ∧ b < w1.heap.size ∧ w1.cell? ⟨b, off + i * 2, none⟩ = some (.int .i64 k) from fun w1 hw => (H.out.keep hw (Nat.le_refl _)).kindAt hd)
  have hd1 : zs.drop (i + 1) = g.enc ++ r := drop_next (x := (k, 0)) (by rw [hd]; simp [Fm.enc])
  obtain ⟨y, hy⟩ : ∃ y, y = g.tr xs ys := ⟨_, rfl⟩
  have hsz := congrArg List.length hd1
  simp [Fm.enc_len] at hsz
  have hll := H.out.1
  obtain ⟨hn, h8, hmk, -⟩ := hm
  have hn0 : 0 ≤ n := by omega
  have hn30 : n ≤ 30 := by omega
  have hgs : g.sz ≤ 1048576 := by omega
  have hi1 : i ≤ 1048576 := by have := g.sz_pos; omega
  have I := Lib.hid (show ∀ w1 : World, Below W.heap.size W w1 → Calls Tryd.prog 61 #[.agg #[.int .i64 n, .slice a xs.length cap, .slice a' ys.length cap'], .slice (some ⟨b, off, none⟩) len cp, .int .i64 ((i : Int) + 1)] w1 fun e w' => e = .returned (.tuple #[.int .i64 y, .int .i64 ((i + 1 + g.sz : Nat) : Int)]) ∧ Below w1.heap.size w1 w' from
    fun w1 hw => by rw [hy]; exact ih n xs ys a cap a' cap' zs b off len cp (i + 1) r w1 hl (M.out.keep hw) (H.out.keep hw (Nat.le_refl _)) hd1)
  have hrel : Rel xs.length (nth xs) := fun j => by
    by_cases hj : j < xs.length
    · exact (mksTo_iff (by omega) xs xs.length).1 hmk.1 j hj
    · rw [nth_high (by omega)]; exact InMk.zero _
  have hyin : InMk xs.length (g.tr xs ys) := tr_in (by omega) hrel (fun j => by
    by_cases hj : j < ys.length
    · exact (mksTo_iff (by omega) ys ys.length).1 hmk.2 j hj
    · rw [nth_high (by omega)]; exact InMk.zero _) g
  have BX := Lib.hid (show ∀ (w1 : World) (z : Int), Below W.heap.size W w1 → Calls Tryd.prog 71 #[.slice a xs.length cap, .int .i64 z] w1 fun e w' => e = .returned (.int .i64 (boxTo xs z xs.length)) ∧ w1 = w' from
    fun w1 z hw => box_any xs z a _ cap w1 (by omega) hmk.1 (M.out.keep hw).2.2.2.2.1)
  have E5 := Lib.hid (show k = 5 → boxTo xs y xs.length = (Fm.un k g).tr xs ys by intro e; rw [Fm.tr, if_pos e, hy])
  have PX := Lib.hid (show ∀ (w1 : World) (z : Int), Below W.heap.size W w1 → Calls Tryd.prog 72 #[.slice a xs.length cap, .int .i64 z] w1 fun e w' => e = .returned (.int .i64 (piTo xs z xs.length)) ∧ w1 = w' from
    fun w1 z hw => preimage_any xs z a _ cap w1 (by omega) (M.out.keep hw).2.2.2.2.1)
  have E6 := Lib.hid (show k = 6 → piTo xs y xs.length = (Fm.un k g).tr xs ys by intro e; rw [Fm.tr, if_neg (by omega), hy, pi_box (by omega) hrel hyin])
  have ES := Lib.hid (show ((i + 1 + g.sz : Nat) : Int) = ((i + (Fm.un k g).sz : Nat) : Int) by rw [show (Fm.un k g).sz = 1 + g.sz from rfl]; omega)
  obtain ⟨en, hen⟩ : ∃ en : Int, en = ((i + 1 + g.sz : Nat) : Int) := ⟨_, rfl⟩
  rw [← hen] at I ES
  have hen0 : 0 ≤ en := by omega
  have hen1 : en ≤ 4194304 := by omega
  obtain ⟨hil, hbl, c1⟩ := K.out W (Below.refl _ _)
  obtain ⟨lt, x0, x1, x2⟩ := X.out
  clear h hb0 hx hW hd hd1 hy hsz hll hn h8 hmk hen hgs ih hrel hyin
  rcases hk with rfl | rfl
  all_goals
    go_enter Tryd.func61, Tryd.ntmps61
    rw [HW.out] at c1
    go_wp2_with fail
    rw [← HW.out]
    refine (I.out W (Below.refl _ _)).mono ?_
    rintro e w2 ⟨rfl, hb⟩
    have T2 := Lib.hid (show Below W.heap.size W w2 from hb)
    clear hb c1 x0 x1 x2
    obtain ⟨-, -, c1⟩ := K.out w2 T2.out
    obtain ⟨-, x0, x1, x2⟩ := X.out.keep T2.out
    go_wp2_with fail
    refine (frRel_any _ _ _ _ _).mono ?_
    rintro e w3 ⟨rfl, hb⟩
    have T3 := Lib.hid (show Below W.heap.size W w3 from T2.out.trans (hb.mono T2.out.size))
    clear hb c1 x0 x1 x2
    go_wp2_with fail
    first | refine (BX.out w3 _ T3.out).mono ?_ | refine (PX.out w3 _ T3.out).mono ?_
    rintro e w' ⟨rfl, rfl⟩
    go_wp2
    go_ret2
    exact ⟨ret_pair (by first | exact E5.out (by trivial) | exact E6.out (by trivial)) ES.out, HB.out.trans (T3.out.mono HB.out.size)⟩

set_option maxHeartbeats 2000000 in
theorem ta_bi (k : Int) (g d : Fm) (hk : k = 2 ∨ k = 3 ∨ k = 4) (ihg : TaC g) (ihd : TaC d) : TaC (.bi k g d) := by
  intro n xs ys a cap a' cap' zs b off len cp i r w hl hm h hd
  obtain ⟨W, hW, hb0, hx, hWs⟩ := boxM (w := w) n a xs.length cap a' ys.length cap' 59
  have HB := Lib.hid hb0
  have X := Lib.hid hx
  have M := Lib.hid (hm.keep hb0)
  have H := Lib.hid (h.keep hb0 (Nat.le_refl _))
  have HW := Lib.hid hW
  have K := Lib.hid (show ∀ w1 : World, Below W.heap.size W w1 → i < len ∧ b < w1.heap.size ∧ w1.cell? ⟨b, off + i * 2, none⟩ = some (.int .i64 k) from fun w1 hw => (H.out.keep hw (Nat.le_refl _)).kindAt hd)
  have hd1 : zs.drop (i + 1) = g.enc ++ (d.enc ++ r) := drop_next (x := (k, 0)) (by rw [hd]; simp [Fm.enc])
  have hd2 : zs.drop (i + 1 + g.sz) = d.enc ++ r := by rw [← Fm.enc_len g]; exact drop_add hd1
  obtain ⟨x, hx2⟩ : ∃ x, x = g.tr xs ys := ⟨_, rfl⟩
  obtain ⟨y, hy⟩ : ∃ y, y = d.tr xs ys := ⟨_, rfl⟩
  have hsz := congrArg List.length hd2
  simp [Fm.enc_len] at hsz
  have hdp := d.sz_pos
  have hll := H.out.1
  obtain ⟨hn, h8, hmk, -⟩ := hm
  have hn0 : 0 ≤ n := by omega
  have hn30 : n ≤ 30 := by omega
  have hgs : g.sz ≤ 1048576 := by omega
  have hds : d.sz ≤ 1048576 := by omega
  have hi1 : i ≤ 1048576 := by omega
  obtain ⟨en, hen⟩ : ∃ en : Int, en = ((i + 1 + g.sz : Nat) : Int) := ⟨_, rfl⟩
  obtain ⟨eo, heo⟩ : ∃ eo : Int, eo = ((i + 1 + g.sz + d.sz : Nat) : Int) := ⟨_, rfl⟩
  have I := Lib.hid (show ∀ w1 : World, Below W.heap.size W w1 → Calls Tryd.prog 61 #[.agg #[.int .i64 n, .slice a xs.length cap, .slice a' ys.length cap'], .slice (some ⟨b, off, none⟩) len cp, .int .i64 ((i : Int) + 1)] w1 fun e w' => e = .returned (.tuple #[.int .i64 x, .int .i64 en]) ∧ Below w1.heap.size w1 w' from
    fun w1 hw => by rw [hx2, hen]; exact ihg n xs ys a cap a' cap' zs b off len cp (i + 1) (d.enc ++ r) w1 hl (M.out.keep hw) (H.out.keep hw (Nat.le_refl _)) hd1)
  have J := Lib.hid (show ∀ w1 : World, Below W.heap.size W w1 → Calls Tryd.prog 61 #[.agg #[.int .i64 n, .slice a xs.length cap, .slice a' ys.length cap'], .slice (some ⟨b, off, none⟩) len cp, .int .i64 en] w1 fun e w' => e = .returned (.tuple #[.int .i64 y, .int .i64 eo]) ∧ Below w1.heap.size w1 w' from
    fun w1 hw => by rw [hy, hen, heo]; exact ihd n xs ys a cap a' cap' zs b off len cp (i + 1 + g.sz) r w1 hl (M.out.keep hw) (H.out.keep hw (Nat.le_refl _)) hd2)
  have E2 := Lib.hid (show k = 2 → bits .and .i64 x y = (Fm.bi k g d).tr xs ys by rintro rfl; rw [Fm.tr, if_pos rfl, hx2, hy])
  have E3 := Lib.hid (show k = 3 → bits .or .i64 x y = (Fm.bi k g d).tr xs ys by rintro rfl; rw [Fm.tr, if_neg (by decide), if_pos rfl, hx2, hy])
  have E4 := Lib.hid (show k = 4 → bits .or .i64 (bits .andNot .i64 (full n) x) y = (Fm.bi k g d).tr xs ys by rintro rfl; rw [Fm.tr, if_neg (by decide), if_neg (by decide), hx2, hy, hn])
  have ES := Lib.hid (show eo = ((i + (Fm.bi k g d).sz : Nat) : Int) by rw [heo, show (Fm.bi k g d).sz = 1 + g.sz + d.sz from rfl]; omega)
  have hen0 : 0 ≤ en := by omega
  have hen1 : en ≤ 4194304 := by omega
  obtain ⟨hil, hbl, c1⟩ := K.out W (Below.refl _ _)
  obtain ⟨lt, x0, x1, x2⟩ := X.out
  clear h hb0 hx hW hd hd1 hd2 hx2 hy hsz hll hn h8 hmk hen heo hgs hds hdp ihg ihd
  rcases hk with rfl | rfl | rfl
  all_goals
    go_enter Tryd.func61, Tryd.ntmps61
    rw [HW.out] at c1
    go_wp2_with fail
    rw [← HW.out]
    refine (I.out W (Below.refl _ _)).mono ?_
    rintro e w2 ⟨rfl, hb⟩
    have T2 := Lib.hid (show Below W.heap.size W w2 from hb)
    clear hb c1 x0 x1 x2
    obtain ⟨-, -, c1⟩ := K.out w2 T2.out
    obtain ⟨-, x0, x1, x2⟩ := X.out.keep T2.out
    go_wp2_with fail
    refine (J.out w2 T2.out).mono ?_
    rintro e w3 ⟨rfl, hb⟩
    have T3 := Lib.hid (show Below W.heap.size W w3 from T2.out.trans (hb.mono T2.out.size))
    clear hb c1 x0 x1 x2
    obtain ⟨-, -, c1⟩ := K.out w3 T3.out
    obtain ⟨-, x0, x1, x2⟩ := X.out.keep T3.out
    first
    | (go_wp2
       go_ret2
       exact ⟨ret_pair (by first | exact E2.out (by trivial) | exact E3.out (by trivial)) ES.out, HB.out.trans (T3.out.mono HB.out.size)⟩)
    | (go_wp2_with fail
       refine (allWorlds_any n _ _ _ _ hn0 hn30).mono ?_
       rintro e w4 ⟨rfl, hb⟩
       have T4 := Lib.hid (show Below W.heap.size W w4 from T3.out.trans (hb.mono T3.out.size))
       clear hb c1 x0 x1 x2
       go_wp2
       go_ret2
       exact ⟨ret_pair (E4.out (by trivial)) ES.out, HB.out.trans (T4.out.mono HB.out.size)⟩)

theorem truthAt_any (f : Fm) (hf : f.ok) : TaC f := by
  induction f with
  | va s => exact ta_va s hf
  | fa => exact ta_fa
  | bi k a b iha ihb => exact ta_bi k a b hf.1 (iha hf.2.1) (ihb hf.2.2)
  | un k a ih => exact ta_un k a hf.1 (ih hf.2)

end Go.Proofs.YtnoaaklkbfbdbaaDoor
