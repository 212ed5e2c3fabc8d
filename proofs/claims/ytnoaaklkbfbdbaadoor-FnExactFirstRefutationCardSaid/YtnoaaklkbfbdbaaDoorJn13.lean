/- 5 texts in one: PreM, Tr2, Tr3, Tr4, TrA. -/
import Derived.Test.YtnoaaklkbfbdbaaDoorJn02
import Derived.Test.YtnoaaklkbfbdbaaDoorJn11
/- Facts of the preimage: its members; a box of what is not, not. Plain mathematics. -/
namespace Go.Proofs.YtnoaaklkbfbdbaaDoor
open Go.RowKit

theorem and_zero {n : Nat} (hn : n ≤ 30) {x y : Int} (hx : InMk n x) (hy : InMk n y) : (bits .and .i64 x y == 0) = true ↔ ∀ i, T x i = true → T y i = false := by
  rw [beq_iff_eq]
  constructor
  · intro h i hi
    have := T_an hn hx hy i
    rw [h, T_zero, hi, Bool.true_and] at this
    exact this.symm
  · intro h
    refine T_ext (hx.an hn hy) (InMk.zero n) fun i => ?_
    rw [T_an hn hx hy, T_zero]
    cases hi : T x i
    · rfl
    · rw [h i hi]; rfl

theorem piTo_T {n : Nat} (hn : n ≤ 30) {xs : List Int} (hr : Rel n (nth xs)) {m : Int} (hm : InMk n m) {p : Nat} (hp : p ≤ 30) (k : Nat) (hk : k ≤ p) :
    InMk p (piTo xs m k) ∧ ∀ i, T (piTo xs m k) i = true ↔ i < k ∧ ∃ j, T (nth xs i) j = true ∧ T m j = true := by
  induction k with
  | zero => exact ⟨InMk.zero p, fun i => by simp [piTo, T_zero]⟩
  | succ k ih =>
    obtain ⟨h1, h2⟩ := ih (by omega)
    have hz := and_zero hn (hr k) hm
    rw [piTo]
    cases hb : (bits .and .i64 (nth xs k) m == 0)
    · rw [if_neg (by simp)]
      have hex : ∃ j, T (nth xs k) j = true ∧ T m j = true := by
        refine Classical.byContradiction fun hh => ?_
        rw [hz.2 (fun i hi => by
          cases hmi : T m i
          · rfl
          · exact absurd ⟨i, hi, hmi⟩ hh)] at hb
        cases hb
      have ho := InMk.one hp (show k < p by omega)
      refine ⟨h1.or hp ho, fun i => ?_⟩
      rw [T_or hp h1 ho, Bool.or_eq_true, h2 i, T_one (by omega), decide_eq_true_eq]
      constructor
      · rintro (⟨a, b⟩ | h)
        · exact ⟨by omega, b⟩
        · subst h; exact ⟨by omega, hex⟩
      · rintro ⟨a, b⟩
        rcases Nat.lt_succ_iff_lt_or_eq.1 a with h | h
        · exact .inl ⟨h, b⟩
        · exact .inr h.symm
    · rw [if_pos rfl]
      refine ⟨h1, fun i => (h2 i).trans ⟨fun ⟨a, b⟩ => ⟨by omega, b⟩, fun ⟨a, b⟩ => ⟨?_, b⟩⟩⟩
      rcases Nat.lt_succ_iff_lt_or_eq.1 a with h | h
      · exact h
      · subst h
        obtain ⟨j, h3, h4⟩ := b
        rw [hz.1 hb j h3] at h4
        cases h4

/-- The diamond by the box. -/
theorem pi_box {xs : List Int} (hn : xs.length ≤ 30) (hr : Rel xs.length (nth xs)) {m : Int} (hm : InMk xs.length m) : piTo xs m xs.length = bits .andNot .i64 (full xs.length) (boxTo xs (bits .andNot .i64 (full xs.length) m) xs.length) := by
  have hF := InMk.full hn
  have hN := hF.not hn hm
  obtain ⟨p1, p2⟩ := piTo_T hn hr hm hn xs.length (Nat.le_refl _)
  obtain ⟨b1, b2⟩ := boxTo_T hn hr (hN.bd hn) xs.length (Nat.le_refl _)
  refine T_ext p1 (hF.not hn b1) fun i => ?_
  rw [T_not hn hF b1, T_full hn, Bool.eq_iff_iff, p2 i, Bool.and_eq_true, decide_eq_true_eq, Bool.not_eq_true', Bool.eq_false_iff, ne_eq, b2 i]
  constructor
  · rintro ⟨h, j, h1, h2⟩
    refine ⟨h, fun hh => ?_⟩
    have := hh.2 j h1
    rw [T_not hn hF hm, h2] at this
    simp at this
  · rintro ⟨h, hh⟩
    refine ⟨h, Classical.byContradiction fun hx => hh ⟨h, fun j hj => ?_⟩⟩
    rw [T_not hn hF hm, T_full hn]
    have : T m j = false := by
      cases hmj : T m j
      · rfl
      · exact absurd ⟨j, hj, hmj⟩ hx
    rw [this]
    simp
    exact T_lt (hr i) hj

end Go.Proofs.YtnoaaklkbfbdbaaDoor

/- The truth set of a formula of two parts (kind 2), by the model. Conditions: those in the theorem. -/
namespace Go.Proofs.YtnoaaklkbfbdbaaDoor
open Go.RowKit

set_option maxHeartbeats 4000000 in
set_option maxRecDepth 100000 in
theorem tr_bi2 (g d : Fm) (hg : g.ok) (ihg : TrC g) (ihd : TrC d) : TrC (.bi 2 g d) := by
  intro n xs ys a cap a' cap' b off len cp w hl hm h
  obtain ⟨W, hW, hb0, hx, hWs⟩ := boxM (w := w) n a xs.length cap a' ys.length cap' 59
  have HB := Lib.hid hb0
  have X := Lib.hid hx
  have M := Lib.hid (hm.keep hb0)
  have HF := Lib.hid (h.keep hb0 (Nat.le_refl _))
  have HW := Lib.hid hW
  obtain ⟨hb, c1, -⟩ := HF.out.head
  have hsz : (Fm.bi 2 g d).sz = 1 + g.sz + d.sz := rfl
  have hgp := g.sz_pos
  have hdp := d.sz_pos
  have hlen := h.len
  have h0 : 0 < len := by omega
  obtain ⟨hn, h8, -⟩ := hm
  have hn0 : 0 ≤ n := by omega
  have hn30 : n ≤ 30 := by omega
  obtain ⟨lt, x0, x1, x2⟩ := X.out
  replace c1 : W.cell? ⟨b, off, none⟩ = some (.int .i64 2) := c1
  obtain ⟨x, hxx⟩ : ∃ x, x = g.tr xs ys := ⟨_, rfl⟩
  obtain ⟨y, hyy⟩ : ∃ y, y = d.tr xs ys := ⟨_, rfl⟩
  obtain ⟨cl, hcl⟩ : ∃ c, c = cp - 1 := ⟨_, rfl⟩
  obtain ⟨cr, hcr⟩ : ∃ c, c = cp - (1 + g.sz) := ⟨_, rfl⟩
  obtain ⟨ol, hol⟩ : ∃ c, c = off + 2 := ⟨_, rfl⟩
  obtain ⟨or, hor⟩ : ∃ c, c = off + (1 + g.sz) * 2 := ⟨_, rfl⟩
  obtain ⟨sl, hsl⟩ : ∃ c, c = g.sz := ⟨_, rfl⟩
  obtain ⟨sr, hsr⟩ : ∃ c, c = d.sz := ⟨_, rfl⟩
  have L := Lib.hid (show ∀ w1 : World, Below W.heap.size W w1 → Calls Tryd.prog 53 #[.slice (some ⟨b, off, none⟩) len cp] w1 fun e w' => e = .returned (.slice (some ⟨b, ol, none⟩) sl cl) ∧ w1 = w' from
    fun w1 hw => by rw [hol, hcl, hsl]; exact l02Left_any 2 g d hg b off len cp w1 hl (HF.out.keep hw (Nat.le_refl _)))
  have R := Lib.hid (show ∀ w1 : World, Below W.heap.size W w1 → Calls Tryd.prog 54 #[.slice (some ⟨b, off, none⟩) len cp] w1 fun e w' => e = .returned (.slice (some ⟨b, or, none⟩) sr cr) ∧ w1 = w' from
    fun w1 hw => by rw [hor, hcr, hsr]; exact l02Right_any 2 g d hg b off len cp w1 hl (HF.out.keep hw (Nat.le_refl _)))
  have IL := Lib.hid (show ∀ w1 : World, Below W.heap.size W w1 → Calls Tryd.prog 39 #[.agg #[.int .i64 n, .slice a xs.length cap, .slice a' ys.length cap'], .slice (some ⟨b, ol, none⟩) sl cl] w1 fun e w' => e = .returned (.int .i64 x) ∧ Below w1.heap.size w1 w' from
    fun w1 hw => by rw [hxx, hol, hcl, hsl]; exact ihg n xs ys a cap a' cap' b (off + 2) g.sz (cp - 1) w1 (by omega) (M.out.keep hw) (HF.out.left.keep hw (Nat.le_refl _)))
  have IR := Lib.hid (show ∀ w1 : World, Below W.heap.size W w1 → Calls Tryd.prog 39 #[.agg #[.int .i64 n, .slice a xs.length cap, .slice a' ys.length cap'], .slice (some ⟨b, or, none⟩) sr cr] w1 fun e w' => e = .returned (.int .i64 y) ∧ Below w1.heap.size w1 w' from
    fun w1 hw => by rw [hyy, hor, hcr, hsr]; exact ihd n xs ys a cap a' cap' b (off + (1 + g.sz) * 2) d.sz (cp - (1 + g.sz)) w1 (by omega) (M.out.keep hw) (HF.out.right.keep hw (Nat.le_refl _)))
  have E := Lib.hid (show bits .and .i64 x y = (Fm.bi 2 g d).tr xs ys by rw [Fm.tr, if_pos rfl, hxx, hyy])
  clear h hb0 hx hW hn h8 hsz hgp hdp hlen hxx hyy ihg ihd hcl hcr hol hor hsl hsr hg
  go_enter Tryd.func39, Tryd.ntmps39
  go_wp2_with fail
  rw [← HW.out]
  refine (l01Full_any _ _ hn0 hn30).mono ?_
  rintro e w' ⟨rfl, rfl⟩
  go_wp2
  go_region_held3 (fun w' => w'.cell? ⟨w.heap.size, 0, none⟩ = some (.int .i64 n) ∧ w'.cell? ⟨w.heap.size, 1, none⟩ = some (.slice a xs.length cap) ∧ w'.cell? ⟨w.heap.size, 2, none⟩ = some (.slice a' ys.length cap')) (first | exact ⟨z0, z1, z2⟩ | exact ⟨y0, y1, y2⟩ | exact ⟨x0, x1, x2⟩ | go_keep) (first | (go_at_call 53; refine (L.out _ (Below.refl _ _).drew).mono ?_; rintro e w' ⟨rfl, rfl⟩) | (go_at_call_of 39 cl; refine (IL.out _ (Below.refl _ _).drew).mono ?_; rintro e w1 ⟨rfl, hb⟩; have T1 := Lib.hid (show Below W.heap.size W w1 from below_of_drew hb); clear hb; obtain ⟨ly, y0, y1, y2⟩ := X.out.keep T1.out) | (go_at_call 54; refine (R.out _ T1.out).mono ?_; rintro e w' ⟨rfl, rfl⟩) | (go_at_call_of 39 cr; refine (IR.out _ T1.out).mono ?_; rintro e w2 ⟨rfl, hb⟩; have T2 := Lib.hid (show Below W.heap.size W w2 from T1.out.trans (hb.mono T1.out.size)); clear hb; obtain ⟨lz, z0, z1, z2⟩ := X.out.keep T2.out))
  all_goals
    go_wp2
    go_ret
    exact ⟨ret_int E.out, HB.out.trans (T2.out.mono HB.out.size)⟩

end Go.Proofs.YtnoaaklkbfbdbaaDoor

/- The truth set of a formula of two parts (kind 3), by the model. Conditions: those in the theorem. -/
namespace Go.Proofs.YtnoaaklkbfbdbaaDoor
open Go.RowKit

set_option maxHeartbeats 4000000 in
set_option maxRecDepth 100000 in
theorem tr_bi3 (g d : Fm) (hg : g.ok) (ihg : TrC g) (ihd : TrC d) : TrC (.bi 3 g d) := by
  intro n xs ys a cap a' cap' b off len cp w hl hm h
  obtain ⟨W, hW, hb0, hx, hWs⟩ := boxM (w := w) n a xs.length cap a' ys.length cap' 59
  have HB := Lib.hid hb0
  have X := Lib.hid hx
  have M := Lib.hid (hm.keep hb0)
  have HF := Lib.hid (h.keep hb0 (Nat.le_refl _))
  have HW := Lib.hid hW
  obtain ⟨hb, c1, -⟩ := HF.out.head
  have hsz : (Fm.bi 3 g d).sz = 1 + g.sz + d.sz := rfl
  have hgp := g.sz_pos
  have hdp := d.sz_pos
  have hlen := h.len
  have h0 : 0 < len := by omega
  obtain ⟨hn, h8, -⟩ := hm
  have hn0 : 0 ≤ n := by omega
  have hn30 : n ≤ 30 := by omega
  obtain ⟨lt, x0, x1, x2⟩ := X.out
  replace c1 : W.cell? ⟨b, off, none⟩ = some (.int .i64 3) := c1
  obtain ⟨x, hxx⟩ : ∃ x, x = g.tr xs ys := ⟨_, rfl⟩
  obtain ⟨y, hyy⟩ : ∃ y, y = d.tr xs ys := ⟨_, rfl⟩
  obtain ⟨cl, hcl⟩ : ∃ c, c = cp - 1 := ⟨_, rfl⟩
  obtain ⟨cr, hcr⟩ : ∃ c, c = cp - (1 + g.sz) := ⟨_, rfl⟩
  obtain ⟨ol, hol⟩ : ∃ c, c = off + 2 := ⟨_, rfl⟩
  obtain ⟨or, hor⟩ : ∃ c, c = off + (1 + g.sz) * 2 := ⟨_, rfl⟩
  obtain ⟨sl, hsl⟩ : ∃ c, c = g.sz := ⟨_, rfl⟩
  obtain ⟨sr, hsr⟩ : ∃ c, c = d.sz := ⟨_, rfl⟩
  have L := Lib.hid (show ∀ w1 : World, Below W.heap.size W w1 → Calls Tryd.prog 53 #[.slice (some ⟨b, off, none⟩) len cp] w1 fun e w' => e = .returned (.slice (some ⟨b, ol, none⟩) sl cl) ∧ w1 = w' from
    fun w1 hw => by rw [hol, hcl, hsl]; exact l02Left_any 3 g d hg b off len cp w1 hl (HF.out.keep hw (Nat.le_refl _)))
  have R := Lib.hid (show ∀ w1 : World, Below W.heap.size W w1 → Calls Tryd.prog 54 #[.slice (some ⟨b, off, none⟩) len cp] w1 fun e w' => e = .returned (.slice (some ⟨b, or, none⟩) sr cr) ∧ w1 = w' from
    fun w1 hw => by rw [hor, hcr, hsr]; exact l02Right_any 3 g d hg b off len cp w1 hl (HF.out.keep hw (Nat.le_refl _)))
  have IL := Lib.hid (show ∀ w1 : World, Below W.heap.size W w1 → Calls Tryd.prog 39 #[.agg #[.int .i64 n, .slice a xs.length cap, .slice a' ys.length cap'], .slice (some ⟨b, ol, none⟩) sl cl] w1 fun e w' => e = .returned (.int .i64 x) ∧ Below w1.heap.size w1 w' from
    fun w1 hw => by rw [hxx, hol, hcl, hsl]; exact ihg n xs ys a cap a' cap' b (off + 2) g.sz (cp - 1) w1 (by omega) (M.out.keep hw) (HF.out.left.keep hw (Nat.le_refl _)))
  have IR := Lib.hid (show ∀ w1 : World, Below W.heap.size W w1 → Calls Tryd.prog 39 #[.agg #[.int .i64 n, .slice a xs.length cap, .slice a' ys.length cap'], .slice (some ⟨b, or, none⟩) sr cr] w1 fun e w' => e = .returned (.int .i64 y) ∧ Below w1.heap.size w1 w' from
    fun w1 hw => by rw [hyy, hor, hcr, hsr]; exact ihd n xs ys a cap a' cap' b (off + (1 + g.sz) * 2) d.sz (cp - (1 + g.sz)) w1 (by omega) (M.out.keep hw) (HF.out.right.keep hw (Nat.le_refl _)))
  have E := Lib.hid (show bits .or .i64 x y = (Fm.bi 3 g d).tr xs ys by rw [Fm.tr, if_neg (by decide), if_pos rfl, hxx, hyy])
  clear h hb0 hx hW hn h8 hsz hgp hdp hlen hxx hyy ihg ihd hcl hcr hol hor hsl hsr hg
  go_enter Tryd.func39, Tryd.ntmps39
  go_wp2_with fail
  rw [← HW.out]
  refine (l01Full_any _ _ hn0 hn30).mono ?_
  rintro e w' ⟨rfl, rfl⟩
  go_wp2
  go_region_held3 (fun w' => w'.cell? ⟨w.heap.size, 0, none⟩ = some (.int .i64 n) ∧ w'.cell? ⟨w.heap.size, 1, none⟩ = some (.slice a xs.length cap) ∧ w'.cell? ⟨w.heap.size, 2, none⟩ = some (.slice a' ys.length cap')) (first | exact ⟨z0, z1, z2⟩ | exact ⟨y0, y1, y2⟩ | exact ⟨x0, x1, x2⟩ | go_keep) (first | (go_at_call 53; refine (L.out _ (Below.refl _ _).drew).mono ?_; rintro e w' ⟨rfl, rfl⟩) | (go_at_call_of 39 cl; refine (IL.out _ (Below.refl _ _).drew).mono ?_; rintro e w1 ⟨rfl, hb⟩; have T1 := Lib.hid (show Below W.heap.size W w1 from below_of_drew hb); clear hb; obtain ⟨ly, y0, y1, y2⟩ := X.out.keep T1.out) | (go_at_call 54; refine (R.out _ T1.out).mono ?_; rintro e w' ⟨rfl, rfl⟩) | (go_at_call_of 39 cr; refine (IR.out _ T1.out).mono ?_; rintro e w2 ⟨rfl, hb⟩; have T2 := Lib.hid (show Below W.heap.size W w2 from T1.out.trans (hb.mono T1.out.size)); clear hb; obtain ⟨lz, z0, z1, z2⟩ := X.out.keep T2.out))
  all_goals
    go_wp2
    go_ret
    exact ⟨ret_int E.out, HB.out.trans (T2.out.mono HB.out.size)⟩

end Go.Proofs.YtnoaaklkbfbdbaaDoor

/- The truth set of a formula of two parts (kind 4), by the model. Conditions: those in the theorem. -/
namespace Go.Proofs.YtnoaaklkbfbdbaaDoor
open Go.RowKit

set_option maxHeartbeats 4000000 in
set_option maxRecDepth 100000 in
theorem tr_bi4 (g d : Fm) (hg : g.ok) (ihg : TrC g) (ihd : TrC d) : TrC (.bi 4 g d) := by
  intro n xs ys a cap a' cap' b off len cp w hl hm h
  obtain ⟨W, hW, hb0, hx, hWs⟩ := boxM (w := w) n a xs.length cap a' ys.length cap' 59
  have HB := Lib.hid hb0
  have X := Lib.hid hx
  have M := Lib.hid (hm.keep hb0)
  have HF := Lib.hid (h.keep hb0 (Nat.le_refl _))
  have HW := Lib.hid hW
  obtain ⟨hb, c1, -⟩ := HF.out.head
  have hsz : (Fm.bi 4 g d).sz = 1 + g.sz + d.sz := rfl
  have hgp := g.sz_pos
  have hdp := d.sz_pos
  have hlen := h.len
  have h0 : 0 < len := by omega
  obtain ⟨hn, h8, -⟩ := hm
  have hn0 : 0 ≤ n := by omega
  have hn30 : n ≤ 30 := by omega
  obtain ⟨lt, x0, x1, x2⟩ := X.out
  replace c1 : W.cell? ⟨b, off, none⟩ = some (.int .i64 4) := c1
  obtain ⟨x, hxx⟩ : ∃ x, x = g.tr xs ys := ⟨_, rfl⟩
  obtain ⟨y, hyy⟩ : ∃ y, y = d.tr xs ys := ⟨_, rfl⟩
  obtain ⟨cl, hcl⟩ : ∃ c, c = cp - 1 := ⟨_, rfl⟩
  obtain ⟨cr, hcr⟩ : ∃ c, c = cp - (1 + g.sz) := ⟨_, rfl⟩
  obtain ⟨ol, hol⟩ : ∃ c, c = off + 2 := ⟨_, rfl⟩
  obtain ⟨or, hor⟩ : ∃ c, c = off + (1 + g.sz) * 2 := ⟨_, rfl⟩
  obtain ⟨sl, hsl⟩ : ∃ c, c = g.sz := ⟨_, rfl⟩
  obtain ⟨sr, hsr⟩ : ∃ c, c = d.sz := ⟨_, rfl⟩
  have L := Lib.hid (show ∀ w1 : World, Below W.heap.size W w1 → Calls Tryd.prog 53 #[.slice (some ⟨b, off, none⟩) len cp] w1 fun e w' => e = .returned (.slice (some ⟨b, ol, none⟩) sl cl) ∧ w1 = w' from
    fun w1 hw => by rw [hol, hcl, hsl]; exact l02Left_any 4 g d hg b off len cp w1 hl (HF.out.keep hw (Nat.le_refl _)))
  have R := Lib.hid (show ∀ w1 : World, Below W.heap.size W w1 → Calls Tryd.prog 54 #[.slice (some ⟨b, off, none⟩) len cp] w1 fun e w' => e = .returned (.slice (some ⟨b, or, none⟩) sr cr) ∧ w1 = w' from
    fun w1 hw => by rw [hor, hcr, hsr]; exact l02Right_any 4 g d hg b off len cp w1 hl (HF.out.keep hw (Nat.le_refl _)))
  have IL := Lib.hid (show ∀ w1 : World, Below W.heap.size W w1 → Calls Tryd.prog 39 #[.agg #[.int .i64 n, .slice a xs.length cap, .slice a' ys.length cap'], .slice (some ⟨b, ol, none⟩) sl cl] w1 fun e w' => e = .returned (.int .i64 x) ∧ Below w1.heap.size w1 w' from
    fun w1 hw => by rw [hxx, hol, hcl, hsl]; exact ihg n xs ys a cap a' cap' b (off + 2) g.sz (cp - 1) w1 (by omega) (M.out.keep hw) (HF.out.left.keep hw (Nat.le_refl _)))
  have IR := Lib.hid (show ∀ w1 : World, Below W.heap.size W w1 → Calls Tryd.prog 39 #[.agg #[.int .i64 n, .slice a xs.length cap, .slice a' ys.length cap'], .slice (some ⟨b, or, none⟩) sr cr] w1 fun e w' => e = .returned (.int .i64 y) ∧ Below w1.heap.size w1 w' from
    fun w1 hw => by rw [hyy, hor, hcr, hsr]; exact ihd n xs ys a cap a' cap' b (off + (1 + g.sz) * 2) d.sz (cp - (1 + g.sz)) w1 (by omega) (M.out.keep hw) (HF.out.right.keep hw (Nat.le_refl _)))
  have E := Lib.hid (show bits .or .i64 (bits .andNot .i64 (full n) x) y = (Fm.bi 4 g d).tr xs ys by rw [Fm.tr, if_neg (by decide), if_neg (by decide), hxx, hyy, hn])
  clear h hb0 hx hW hn h8 hsz hgp hdp hlen hxx hyy ihg ihd hcl hcr hol hor hsl hsr hg
  go_enter Tryd.func39, Tryd.ntmps39
  go_wp2_with fail
  rw [← HW.out]
  refine (l01Full_any _ _ hn0 hn30).mono ?_
  rintro e w' ⟨rfl, rfl⟩
  go_wp2
  go_region_held3 (fun w' => w'.cell? ⟨w.heap.size, 0, none⟩ = some (.int .i64 n) ∧ w'.cell? ⟨w.heap.size, 1, none⟩ = some (.slice a xs.length cap) ∧ w'.cell? ⟨w.heap.size, 2, none⟩ = some (.slice a' ys.length cap')) (first | exact ⟨z0, z1, z2⟩ | exact ⟨y0, y1, y2⟩ | exact ⟨x0, x1, x2⟩ | go_keep) (first | (go_at_call 53; refine (L.out _ (Below.refl _ _).drew).mono ?_; rintro e w' ⟨rfl, rfl⟩) | (go_at_call_of 39 cl; refine (IL.out _ (Below.refl _ _).drew).mono ?_; rintro e w1 ⟨rfl, hb⟩; have T1 := Lib.hid (show Below W.heap.size W w1 from below_of_drew hb); clear hb; obtain ⟨ly, y0, y1, y2⟩ := X.out.keep T1.out) | (go_at_call 54; refine (R.out _ T1.out).mono ?_; rintro e w' ⟨rfl, rfl⟩) | (go_at_call_of 39 cr; refine (IR.out _ T1.out).mono ?_; rintro e w2 ⟨rfl, hb⟩; have T2 := Lib.hid (show Below W.heap.size W w2 from T1.out.trans (hb.mono T1.out.size)); clear hb; obtain ⟨lz, z0, z1, z2⟩ := X.out.keep T2.out))
  all_goals
    go_wp2
    go_ret
    exact ⟨ret_int E.out, HB.out.trans (T2.out.mono HB.out.size)⟩

end Go.Proofs.YtnoaaklkbfbdbaaDoor

/- The truth set of a formula, by the model. Conditions: those in the theorems. -/
namespace Go.Proofs.YtnoaaklkbfbdbaaDoor
open Go.RowKit

theorem tr_bi (k : Int) (g d : Fm) (hk : k = 2 ∨ k = 3 ∨ k = 4) (hg : g.ok) (ihg : TrC g) (ihd : TrC d) : TrC (.bi k g d) := by
  rcases hk with rfl | rfl | rfl
  · exact tr_bi2 g d hg ihg ihd
  · exact tr_bi3 g d hg ihg ihd
  · exact tr_bi4 g d hg ihg ihd
theorem l06Truth_any (f : Fm) (hf : f.ok) : TrC f := by
  induction f with
  | va s => exact tr_va s hf
  | fa => exact tr_fa
  | bi k a b iha ihb => exact tr_bi k a b hf.1 hf.2.1 (iha hf.2.1) (ihb hf.2.2)
  | un k a ih => exact tr_un k a hf.1 (ih hf.2)

end Go.Proofs.YtnoaaklkbfbdbaaDoor
