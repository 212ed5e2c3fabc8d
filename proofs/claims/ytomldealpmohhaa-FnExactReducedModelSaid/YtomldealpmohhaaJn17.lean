/- 5 texts in one: SiS, Tr2, Tr3, Tr4, TrA. -/
import Derived.Test.YtomldealpmohhaaJn16
/- Contracts of the model's small functions of chapter 7 over links and masks. Conditions: those in the theorems. -/
namespace Go.Proofs.Ytomldealpmohhaa
open Go.RowKit

theorem foB_false {ls : List Int} {s o : Int} {k l : Nat} (hk : k ≤ l) (h : foB ls s o k = false) : foB ls s o l = false := by
  induction l with
  | zero => simp at hk; subst hk; exact h
  | succ l ih =>
    by_cases e : k = l + 1
    · subst e; exact h
    · rw [foB, ih (by omega)]; rfl
theorem insB_false {us vs : List Int} {k l : Nat} (hk : k ≤ l) (h : insB us vs k = false) : insB us vs l = false := by
  induction l with
  | zero => simp at hk; subst hk; exact h
  | succ l ih =>
    by_cases e : k = l + 1
    · subst e; exact h
    · rw [insB, ih (by omega)]; rfl

set_option maxHeartbeats 400000 in
theorem l07Forth_any (ls : List Int) (s o : Int) (a : Option Addr) (len cap : Nat) (w : World) (hl : len ≤ 30) (h : At w a len ls) :
    Calls Try.prog 139 #[.slice a len cap, .int .i64 s, .int .i64 o] w fun e w' => e = .returned (.bool (foB ls s o len)) ∧ w = w' := by
  have H := Lib.hid h
  clear h
  go_enter Try.func139, Try.ntmps139
  go_wp2
  go_loop [7] (fun i => ∃ k : Nat, k ≤ len ∧ i = .int .i64 k ∧ foB ls s o k = true) (fun i => len - (intOf i).toNat)
  case atStart => exact ⟨0, Nat.zero_le _, rfl, rfl⟩
  case round =>
    obtain ⟨k, hk, rfl, hm⟩ := hrel
    have HM := Lib.hid hm
    clear hm
    by_cases hlt : k < len
    · obtain ⟨b, off, rfl, hb, hc⟩ := H.out.2.resolve_left (by omega)
      have hcell := hc k hlt
      clear hc
      cases hbit : bitB s k
      · have HB := Lib.hid hbit
        go_wp2_with (go_at_call 52; refine (l01Bit_any _ _ _ (by omega) (by omega)).mono ?_; rintro e w' ⟨rfl, rfl⟩)
        go_round
        case rel => exact ⟨k + 1, hlt, by go_num, by rw [foB, HM.out, HB.out]; rfl⟩
        case measure => simp [intOf]; omega
      · have HB := Lib.hid hbit
        cases hz : (bits .and .i64 (nth ls k) o == 0)
        · have HZ := Lib.hid hz
          go_wp2_with (go_at_call 52; refine (l01Bit_any _ _ _ (by omega) (by omega)).mono ?_; rintro e w' ⟨rfl, rfl⟩)
          go_round
          case rel => exact ⟨k + 1, hlt, by go_num, by rw [foB, HM.out, HB.out, HZ.out]; rfl⟩
          case measure => simp [intOf]; omega
        · have HZ := Lib.hid hz
          go_wp2_with (go_at_call 52; refine (l01Bit_any _ _ _ (by omega) (by omega)).mono ?_; rintro e w' ⟨rfl, rfl⟩)
          go_ret
          exact ⟨ret_bool (foB_false (k := k + 1) hlt (by rw [foB, HM.out, HB.out, HZ.out]; rfl)).symm, rfl⟩
    · obtain rfl : k = len := by omega
      go_wp2
      go_ret
      exact ⟨ret_bool HM.out.symm, rfl⟩

end Go.Proofs.Ytomldealpmohhaa

/- The truth set of a formula of two parts (kind 2), by the model. Conditions: those in the theorem. -/
namespace Go.Proofs.Ytomldealpmohhaa
open Go.RowKit

set_option maxHeartbeats 4000000 in
set_option maxRecDepth 100000 in
theorem tr_bi2 (g d : Fm) (hg : g.ok) (ihg : TrC g) (ihd : TrC d) : TrC (.bi 2 g d) := by
  intro n xs ys a cap a' cap' b off len cp w hl hm h
  obtain ⟨W, hW, hb0, hx, hWs⟩ := boxM (w := w) n a xs.length cap a' ys.length cap' 34
  have HB := Lib.hid hb0
  have X := Lib.hid hx
  have M := Lib.hid (hm.keep hb0)
  have HF := Lib.hid (h.keep hb0 (Nat.le_refl _))
  have HW := Lib.hid hW
  obtain ⟨hb, c1, -⟩ := HF.out.head
  have hsz : (Fm.bi 2 g d).sz = 1 + g.sz + d.sz := rfl
  have hgp := g.sz_pos
  have hdp := d.sz_pos
  have hlen := h.len
  have h0 : 0 < len := by omega
  obtain ⟨hn, h8, -⟩ := hm
  have hn0 : 0 ≤ n := by omega
  have hn30 : n ≤ 30 := by omega
  obtain ⟨lt, x0, x1, x2⟩ := X.out
  replace c1 : W.cell? ⟨b, off, none⟩ = some (.int .i64 2) := c1
  obtain ⟨x, hxx⟩ : ∃ x, x = g.tr xs ys := ⟨_, rfl⟩
  obtain ⟨y, hyy⟩ : ∃ y, y = d.tr xs ys := ⟨_, rfl⟩
  obtain ⟨cl, hcl⟩ : ∃ c, c = cp - 1 := ⟨_, rfl⟩
  obtain ⟨cr, hcr⟩ : ∃ c, c = cp - (1 + g.sz) := ⟨_, rfl⟩
  obtain ⟨ol, hol⟩ : ∃ c, c = off + 2 := ⟨_, rfl⟩
  obtain ⟨or, hor⟩ : ∃ c, c = off + (1 + g.sz) * 2 := ⟨_, rfl⟩
  obtain ⟨sl, hsl⟩ : ∃ c, c = g.sz := ⟨_, rfl⟩
  obtain ⟨sr, hsr⟩ : ∃ c, c = d.sz := ⟨_, rfl⟩
  have L := Lib.hid (show ∀ w1 : World, Below W.heap.size W w1 → Calls Try.prog 92 #[.slice (some ⟨b, off, none⟩) len cp] w1 fun e w' => e = .returned (.slice (some ⟨b, ol, none⟩) sl cl) ∧ w1 = w' from
    fun w1 hw => by rw [hol, hcl, hsl]; exact l02Left_any 2 g d hg b off len cp w1 hl (HF.out.keep hw (Nat.le_refl _)))
  have R := Lib.hid (show ∀ w1 : World, Below W.heap.size W w1 → Calls Try.prog 93 #[.slice (some ⟨b, off, none⟩) len cp] w1 fun e w' => e = .returned (.slice (some ⟨b, or, none⟩) sr cr) ∧ w1 = w' from
    fun w1 hw => by rw [hor, hcr, hsr]; exact l02Right_any 2 g d hg b off len cp w1 hl (HF.out.keep hw (Nat.le_refl _)))
  have IL := Lib.hid (show ∀ w1 : World, Below W.heap.size W w1 → Calls Try.prog 46 #[.agg #[.int .i64 n, .slice a xs.length cap, .slice a' ys.length cap'], .slice (some ⟨b, ol, none⟩) sl cl] w1 fun e w' => e = .returned (.int .i64 x) ∧ Below w1.heap.size w1 w' from
    fun w1 hw => by rw [hxx, hol, hcl, hsl]; exact ihg n xs ys a cap a' cap' b (off + 2) g.sz (cp - 1) w1 (by omega) (M.out.keep hw) (HF.out.left.keep hw (Nat.le_refl _)))
  have IR := Lib.hid (show ∀ w1 : World, Below W.heap.size W w1 → Calls Try.prog 46 #[.agg #[.int .i64 n, .slice a xs.length cap, .slice a' ys.length cap'], .slice (some ⟨b, or, none⟩) sr cr] w1 fun e w' => e = .returned (.int .i64 y) ∧ Below w1.heap.size w1 w' from
    fun w1 hw => by rw [hyy, hor, hcr, hsr]; exact ihd n xs ys a cap a' cap' b (off + (1 + g.sz) * 2) d.sz (cp - (1 + g.sz)) w1 (by omega) (M.out.keep hw) (HF.out.right.keep hw (Nat.le_refl _)))
  have E := Lib.hid (show bits .and .i64 x y = (Fm.bi 2 g d).tr xs ys by rw [Fm.tr, if_pos rfl, hxx, hyy])
  clear h hb0 hx hW hn h8 hsz hgp hdp hlen hxx hyy ihg ihd hcl hcr hol hor hsl hsr hg
  go_enter Try.func46, Try.ntmps46
  go_wp2_with fail
  rw [← HW.out]
  refine (l01Full_any _ _ hn0 hn30).mono ?_
  rintro e w' ⟨rfl, rfl⟩
  go_wp2
  go_region_held3 (fun w' => w'.cell? ⟨w.heap.size, 0, none⟩ = some (.int .i64 n) ∧ w'.cell? ⟨w.heap.size, 1, none⟩ = some (.slice a xs.length cap) ∧ w'.cell? ⟨w.heap.size, 2, none⟩ = some (.slice a' ys.length cap')) (first | exact ⟨z0, z1, z2⟩ | exact ⟨y0, y1, y2⟩ | exact ⟨x0, x1, x2⟩ | go_keep) (first | (go_at_call 92; refine (L.out _ (Below.refl _ _).drew).mono ?_; rintro e w' ⟨rfl, rfl⟩) | (go_at_call_of 46 cl; refine (IL.out _ (Below.refl _ _).drew).mono ?_; rintro e w1 ⟨rfl, hb⟩; have T1 := Lib.hid (show Below W.heap.size W w1 from below_of_drew hb); clear hb; obtain ⟨ly, y0, y1, y2⟩ := X.out.keep T1.out) | (go_at_call 93; refine (R.out _ T1.out).mono ?_; rintro e w' ⟨rfl, rfl⟩) | (go_at_call_of 46 cr; refine (IR.out _ T1.out).mono ?_; rintro e w2 ⟨rfl, hb⟩; have T2 := Lib.hid (show Below W.heap.size W w2 from T1.out.trans (hb.mono T1.out.size)); clear hb; obtain ⟨lz, z0, z1, z2⟩ := X.out.keep T2.out))
  all_goals
    go_wp2
    go_ret
    exact ⟨ret_int E.out, HB.out.trans (T2.out.mono HB.out.size)⟩

end Go.Proofs.Ytomldealpmohhaa

/- The truth set of a formula of two parts (kind 3), by the model. Conditions: those in the theorem. -/
namespace Go.Proofs.Ytomldealpmohhaa
open Go.RowKit

set_option maxHeartbeats 4000000 in
set_option maxRecDepth 100000 in
theorem tr_bi3 (g d : Fm) (hg : g.ok) (ihg : TrC g) (ihd : TrC d) : TrC (.bi 3 g d) := by
  intro n xs ys a cap a' cap' b off len cp w hl hm h
  obtain ⟨W, hW, hb0, hx, hWs⟩ := boxM (w := w) n a xs.length cap a' ys.length cap' 34
  have HB := Lib.hid hb0
  have X := Lib.hid hx
  have M := Lib.hid (hm.keep hb0)
  have HF := Lib.hid (h.keep hb0 (Nat.le_refl _))
  have HW := Lib.hid hW
  obtain ⟨hb, c1, -⟩ := HF.out.head
  have hsz : (Fm.bi 3 g d).sz = 1 + g.sz + d.sz := rfl
  have hgp := g.sz_pos
  have hdp := d.sz_pos
  have hlen := h.len
  have h0 : 0 < len := by omega
  obtain ⟨hn, h8, -⟩ := hm
  have hn0 : 0 ≤ n := by omega
  have hn30 : n ≤ 30 := by omega
  obtain ⟨lt, x0, x1, x2⟩ := X.out
  replace c1 : W.cell? ⟨b, off, none⟩ = some (.int .i64 3) := c1
  obtain ⟨x, hxx⟩ : ∃ x, x = g.tr xs ys := ⟨_, rfl⟩
  obtain ⟨y, hyy⟩ : ∃ y, y = d.tr xs ys := ⟨_, rfl⟩
  obtain ⟨cl, hcl⟩ : ∃ c, c = cp - 1 := ⟨_, rfl⟩
  obtain ⟨cr, hcr⟩ : ∃ c, c = cp - (1 + g.sz) := ⟨_, rfl⟩
  obtain ⟨ol, hol⟩ : ∃ c, c = off + 2 := ⟨_, rfl⟩
  obtain ⟨or, hor⟩ : ∃ c, c = off + (1 + g.sz) * 2 := ⟨_, rfl⟩
  obtain ⟨sl, hsl⟩ : ∃ c, c = g.sz := ⟨_, rfl⟩
  obtain ⟨sr, hsr⟩ : ∃ c, c = d.sz := ⟨_, rfl⟩
  have L := Lib.hid (show ∀ w1 : World, Below W.heap.size W w1 → Calls Try.prog 92 #[.slice (some ⟨b, off, none⟩) len cp] w1 fun e w' => e = .returned (.slice (some ⟨b, ol, none⟩) sl cl) ∧ w1 = w' from
    fun w1 hw => by rw [hol, hcl, hsl]; exact l02Left_any 3 g d hg b off len cp w1 hl (HF.out.keep hw (Nat.le_refl _)))
  have R := Lib.hid (show ∀ w1 : World, Below W.heap.size W w1 → Calls Try.prog 93 #[.slice (some ⟨b, off, none⟩) len cp] w1 fun e w' => e = .returned (.slice (some ⟨b, or, none⟩) sr cr) ∧ w1 = w' from
    fun w1 hw => by rw [hor, hcr, hsr]; exact l02Right_any 3 g d hg b off len cp w1 hl (HF.out.keep hw (Nat.le_refl _)))
  have IL := Lib.hid (show ∀ w1 : World, Below W.heap.size W w1 → Calls Try.prog 46 #[.agg #[.int .i64 n, .slice a xs.length cap, .slice a' ys.length cap'], .slice (some ⟨b, ol, none⟩) sl cl] w1 fun e w' => e = .returned (.int .i64 x) ∧ Below w1.heap.size w1 w' from
    fun w1 hw => by rw [hxx, hol, hcl, hsl]; exact ihg n xs ys a cap a' cap' b (off + 2) g.sz (cp - 1) w1 (by omega) (M.out.keep hw) (HF.out.left.keep hw (Nat.le_refl _)))
  have IR := Lib.hid (show ∀ w1 : World, Below W.heap.size W w1 → Calls Try.prog 46 #[.agg #[.int .i64 n, .slice a xs.length cap, .slice a' ys.length cap'], .slice (some ⟨b, or, none⟩) sr cr] w1 fun e w' => e = .returned (.int .i64 y) ∧ Below w1.heap.size w1 w' from
    fun w1 hw => by rw [hyy, hor, hcr, hsr]; exact ihd n xs ys a cap a' cap' b (off + (1 + g.sz) * 2) d.sz (cp - (1 + g.sz)) w1 (by omega) (M.out.keep hw) (HF.out.right.keep hw (Nat.le_refl _)))
  have E := Lib.hid (show bits .or .i64 x y = (Fm.bi 3 g d).tr xs ys by rw [Fm.tr, if_neg (by decide), if_pos rfl, hxx, hyy])
  clear h hb0 hx hW hn h8 hsz hgp hdp hlen hxx hyy ihg ihd hcl hcr hol hor hsl hsr hg
  go_enter Try.func46, Try.ntmps46
  go_wp2_with fail
  rw [← HW.out]
  refine (l01Full_any _ _ hn0 hn30).mono ?_
  rintro e w' ⟨rfl, rfl⟩
  go_wp2
  go_region_held3 (fun w' => w'.cell? ⟨w.heap.size, 0, none⟩ = some (.int .i64 n) ∧ w'.cell? ⟨w.heap.size, 1, none⟩ = some (.slice a xs.length cap) ∧ w'.cell? ⟨w.heap.size, 2, none⟩ = some (.slice a' ys.length cap')) (first | exact ⟨z0, z1, z2⟩ | exact ⟨y0, y1, y2⟩ | exact ⟨x0, x1, x2⟩ | go_keep) (first | (go_at_call 92; refine (L.out _ (Below.refl _ _).drew).mono ?_; rintro e w' ⟨rfl, rfl⟩) | (go_at_call_of 46 cl; refine (IL.out _ (Below.refl _ _).drew).mono ?_; rintro e w1 ⟨rfl, hb⟩; have T1 := Lib.hid (show Below W.heap.size W w1 from below_of_drew hb); clear hb; obtain ⟨ly, y0, y1, y2⟩ := X.out.keep T1.out) | (go_at_call 93; refine (R.out _ T1.out).mono ?_; rintro e w' ⟨rfl, rfl⟩) | (go_at_call_of 46 cr; refine (IR.out _ T1.out).mono ?_; rintro e w2 ⟨rfl, hb⟩; have T2 := Lib.hid (show Below W.heap.size W w2 from T1.out.trans (hb.mono T1.out.size)); clear hb; obtain ⟨lz, z0, z1, z2⟩ := X.out.keep T2.out))
  all_goals
    go_wp2
    go_ret
    exact ⟨ret_int E.out, HB.out.trans (T2.out.mono HB.out.size)⟩

end Go.Proofs.Ytomldealpmohhaa

/- The truth set of a formula of two parts (kind 4), by the model. Conditions: those in the theorem. -/
namespace Go.Proofs.Ytomldealpmohhaa
open Go.RowKit

set_option maxHeartbeats 4000000 in
set_option maxRecDepth 100000 in
theorem tr_bi4 (g d : Fm) (hg : g.ok) (ihg : TrC g) (ihd : TrC d) : TrC (.bi 4 g d) := by
  intro n xs ys a cap a' cap' b off len cp w hl hm h
  obtain ⟨W, hW, hb0, hx, hWs⟩ := boxM (w := w) n a xs.length cap a' ys.length cap' 34
  have HB := Lib.hid hb0
  have X := Lib.hid hx
  have M := Lib.hid (hm.keep hb0)
  have HF := Lib.hid (h.keep hb0 (Nat.le_refl _))
  have HW := Lib.hid hW
  obtain ⟨hb, c1, -⟩ := HF.out.head
  have hsz : (Fm.bi 4 g d).sz = 1 + g.sz + d.sz := rfl
  have hgp := g.sz_pos
  have hdp := d.sz_pos
  have hlen := h.len
  have h0 : 0 < len := by omega
  obtain ⟨hn, h8, -⟩ := hm
  have hn0 : 0 ≤ n := by omega
  have hn30 : n ≤ 30 := by omega
  obtain ⟨lt, x0, x1, x2⟩ := X.out
  replace c1 : W.cell? ⟨b, off, none⟩ = some (.int .i64 4) := c1
  obtain ⟨x, hxx⟩ : ∃ x, x = g.tr xs ys := ⟨_, rfl⟩
  obtain ⟨y, hyy⟩ : ∃ y, y = d.tr xs ys := ⟨_, rfl⟩
  obtain ⟨cl, hcl⟩ : ∃ c, c = cp - 1 := ⟨_, rfl⟩
  obtain ⟨cr, hcr⟩ : ∃ c, c = cp - (1 + g.sz) := ⟨_, rfl⟩
  obtain ⟨ol, hol⟩ : ∃ c, c = off + 2 := ⟨_, rfl⟩
  obtain ⟨or, hor⟩ : ∃ c, c = off + (1 + g.sz) * 2 := ⟨_, rfl⟩
  obtain ⟨sl, hsl⟩ : ∃ c, c = g.sz := ⟨_, rfl⟩
  obtain ⟨sr, hsr⟩ : ∃ c, c = d.sz := ⟨_, rfl⟩
  have L := Lib.hid (show ∀ w1 : World, Below W.heap.size W w1 → Calls Try.prog 92 #[.slice (some ⟨b, off, none⟩) len cp] w1 fun e w' => e = .returned (.slice (some ⟨b, ol, none⟩) sl cl) ∧ w1 = w' from
    fun w1 hw => by rw [hol, hcl, hsl]; exact l02Left_any 4 g d hg b off len cp w1 hl (HF.out.keep hw (Nat.le_refl _)))
  have R := Lib.hid (show ∀ w1 : World, Below W.heap.size W w1 → Calls Try.prog 93 #[.slice (some ⟨b, off, none⟩) len cp] w1 fun e w' => e = .returned (.slice (some ⟨b, or, none⟩) sr cr) ∧ w1 = w' from
    fun w1 hw => by rw [hor, hcr, hsr]; exact l02Right_any 4 g d hg b off len cp w1 hl (HF.out.keep hw (Nat.le_refl _)))
  have IL := Lib.hid (show ∀ w1 : World, Below W.heap.size W w1 → Calls Try.prog 46 #[.agg #[.int .i64 n, .slice a xs.length cap, .slice a' ys.length cap'], .slice (some ⟨b, ol, none⟩) sl cl] w1 fun e w' => e = .returned (.int .i64 x) ∧ Below w1.heap.size w1 w' from
    fun w1 hw => by rw [hxx, hol, hcl, hsl]; exact ihg n xs ys a cap a' cap' b (off + 2) g.sz (cp - 1) w1 (by omega) (M.out.keep hw) (HF.out.left.keep hw (Nat.le_refl _)))
  have IR := Lib.hid (show ∀ w1 : World, Below W.heap.size W w1 → Calls Try.prog 46 #[.agg #[.int .i64 n, .slice a xs.length cap, .slice a' ys.length cap'], .slice (some ⟨b, or, none⟩) sr cr] w1 fun e w' => e = .returned (.int .i64 y) ∧ Below w1.heap.size w1 w' from
    fun w1 hw => by rw [hyy, hor, hcr, hsr]; exact ihd n xs ys a cap a' cap' b (off + (1 + g.sz) * 2) d.sz (cp - (1 + g.sz)) w1 (by omega) (M.out.keep hw) (HF.out.right.keep hw (Nat.le_refl _)))
  have E := Lib.hid (show bits .or .i64 (bits .andNot .i64 (full n) x) y = (Fm.bi 4 g d).tr xs ys by rw [Fm.tr, if_neg (by decide), if_neg (by decide), hxx, hyy, hn])
  clear h hb0 hx hW hn h8 hsz hgp hdp hlen hxx hyy ihg ihd hcl hcr hol hor hsl hsr hg
  go_enter Try.func46, Try.ntmps46
  go_wp2_with fail
  rw [← HW.out]
  refine (l01Full_any _ _ hn0 hn30).mono ?_
  rintro e w' ⟨rfl, rfl⟩
  go_wp2
  go_region_held3 (fun w' => w'.cell? ⟨w.heap.size, 0, none⟩ = some (.int .i64 n) ∧ w'.cell? ⟨w.heap.size, 1, none⟩ = some (.slice a xs.length cap) ∧ w'.cell? ⟨w.heap.size, 2, none⟩ = some (.slice a' ys.length cap')) (first | exact ⟨z0, z1, z2⟩ | exact ⟨y0, y1, y2⟩ | exact ⟨x0, x1, x2⟩ | go_keep) (first | (go_at_call 92; refine (L.out _ (Below.refl _ _).drew).mono ?_; rintro e w' ⟨rfl, rfl⟩) | (go_at_call_of 46 cl; refine (IL.out _ (Below.refl _ _).drew).mono ?_; rintro e w1 ⟨rfl, hb⟩; have T1 := Lib.hid (show Below W.heap.size W w1 from below_of_drew hb); clear hb; obtain ⟨ly, y0, y1, y2⟩ := X.out.keep T1.out) | (go_at_call 93; refine (R.out _ T1.out).mono ?_; rintro e w' ⟨rfl, rfl⟩) | (go_at_call_of 46 cr; refine (IR.out _ T1.out).mono ?_; rintro e w2 ⟨rfl, hb⟩; have T2 := Lib.hid (show Below W.heap.size W w2 from T1.out.trans (hb.mono T1.out.size)); clear hb; obtain ⟨lz, z0, z1, z2⟩ := X.out.keep T2.out))
  all_goals
    go_wp2
    go_ret
    exact ⟨ret_int E.out, HB.out.trans (T2.out.mono HB.out.size)⟩

end Go.Proofs.Ytomldealpmohhaa

/- The truth set of a formula, by the model. Conditions: those in the theorems. -/
namespace Go.Proofs.Ytomldealpmohhaa
open Go.RowKit

theorem tr_bi (k : Int) (g d : Fm) (hk : k = 2 ∨ k = 3 ∨ k = 4) (hg : g.ok) (ihg : TrC g) (ihd : TrC d) : TrC (.bi k g d) := by
  rcases hk with rfl | rfl | rfl
  · exact tr_bi2 g d hg ihg ihd
  · exact tr_bi3 g d hg ihg ihd
  · exact tr_bi4 g d hg ihg ihd
theorem l06Truth_any (f : Fm) (hf : f.ok) : TrC f := by
  induction f with
  | va s => exact tr_va s hf
  | fa => exact tr_fa
  | bi k a b iha ihb => exact tr_bi k a b hf.1 hf.2.1 (iha hf.2.1) (ihb hf.2.2)
  | un k a ih => exact tr_un k a hf.1 (ih hf.2)

end Go.Proofs.Ytomldealpmohhaa
