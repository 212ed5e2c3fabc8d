/- The truth set of a formula in a model, and what the model answers for it. Conditions: those in the theorems. -/
import Derived.Test.YtomldealpmohhaaJn04
import Derived.Test.YtomldealpmohhaaBox
import Derived.Test.YtomldealpmohhaaDeep
namespace Go.Proofs.Ytomldealpmohhaa
open Go.RowKit

def Fm.tr (xs ys : List Int) : Fm → Int
  | .va s => nth ys s.toNat
  | .fa => 0
  | .un k a => if k = 5 then boxTo xs (a.tr xs ys) xs.length else bits .andNot .i64 (full xs.length) (boxTo xs (bits .andNot .i64 (full xs.length) (a.tr xs ys)) xs.length)
  | .bi k a b => if k = 2 then bits .and .i64 (a.tr xs ys) (b.tr xs ys) else if k = 3 then bits .or .i64 (a.tr xs ys) (b.tr xs ys) else bits .or .i64 (bits .andNot .i64 (full xs.length) (a.tr xs ys)) (b.tr xs ys)

theorem AtF.drw {w : World} {b off len cap : Nat} {f : Fm} (h : AtF w b off len cap f) : AtF w.drew b off len cap f := h

/-- What l06Truth does at a formula. -/
def TrC (f : Fm) : Prop := ∀ (n : Int) (xs ys : List Int) (a : Option Addr) (cap : Nat) (a' : Option Addr) (cap' : Nat) (b off len cp : Nat) (w : World), len ≤ 1048576 → Mo w n a a' xs ys → AtF w b off len cp f →
    Calls Try.prog 46 #[.agg #[.int .i64 n, .slice a xs.length cap, .slice a' ys.length cap'], .slice (some ⟨b, off, none⟩) len cp] w fun e w' => e = .returned (.int .i64 (f.tr xs ys)) ∧ Below w.heap.size w w'

set_option maxHeartbeats 1000000 in
theorem tr_va (s : Int) (hf : (Fm.va s).ok) : TrC (.va s) := by
  intro n xs ys a cap a' cap' b off len cp w hl hm h
  obtain ⟨W, hW, hb0, hx, hWs⟩ := boxM (w := w) n a xs.length cap a' ys.length cap' 34
  have HB := Lib.hid hb0
  have X := Lib.hid hx
  have M := Lib.hid (hm.keep hb0)
  have HF := Lib.hid (h.keep hb0 (Nat.le_refl _))
  have HW := Lib.hid hW
  obtain ⟨hb, c1, c2⟩ := HF.out.head
  have h0 : 0 < len := by rw [h.len]; exact Fm.sz_pos _
  have h1 : 0 ≤ s := hf.1
  have h2 := hf.2
  obtain ⟨hn, h8, -, h6, -, hy⟩ := M.out
  have hn0 : 0 ≤ n := by omega
  have hn30 : n ≤ 30 := by omega
  obtain ⟨s', rfl⟩ := Int.eq_ofNat_of_zero_le h1
  have hlt : s' < ys.length := by omega
  obtain ⟨b', off', rfl, hb', hc'⟩ := hy.2.resolve_left (by omega)
  have hcell := hc' s' hlt
  obtain ⟨lt, x0, x1, x2⟩ := X.out
  replace c1 : W.cell? ⟨b, off, none⟩ = some (.int .i64 0) := c1
  replace c2 : W.cell? ⟨b, off + 1, none⟩ = some (.int .i64 (s' : Int)) := c2
  have E := Lib.hid (show nth ys s' = (Fm.va (s' : Int)).tr xs ys by rw [Fm.tr, Int.toNat_natCast])
  clear h hf hm hb0 hx hW hc' hn h8 h6
  go_enter Try.func46, Try.ntmps46
  go_wp2_with fail
  rw [← HW.out]
  refine (l01Full_any _ _ hn0 hn30).mono ?_
  rintro e w' ⟨rfl, rfl⟩
  go_wp2
  go_region
  all_goals
    go_wp2
    go_ret
    exact ⟨ret_int E.out, HB.out.drew⟩

theorem tr_fa : TrC .fa := by
  intro n xs ys a cap a' cap' b off len cp w hl hm h
  obtain ⟨W, hW, hb0, hx, hWs⟩ := boxM (w := w) n a xs.length cap a' ys.length cap' 34
  have HB := Lib.hid hb0
  have HF := Lib.hid (h.keep hb0 (Nat.le_refl _))
  have HW := Lib.hid hW
  obtain ⟨hb, c1, -⟩ := HF.out.head
  have h0 : 0 < len := by rw [h.len]; exact Fm.sz_pos _
  obtain ⟨hn, h8, -⟩ := hm
  have hn0 : 0 ≤ n := by omega
  have hn30 : n ≤ 30 := by omega
  obtain ⟨lt, x0, x1, x2⟩ := hx
  replace c1 : W.cell? ⟨b, off, none⟩ = some (.int .i64 1) := c1
  clear h hb0 hW hn h8
  go_enter Try.func46, Try.ntmps46
  go_wp2_with fail
  rw [← HW.out]
  refine (l01Full_any _ _ hn0 hn30).mono ?_
  rintro e w' ⟨rfl, rfl⟩
  go_wp2
  go_ret
  exact ⟨rfl, HB.out⟩

set_option maxHeartbeats 4000000 in
set_option maxRecDepth 100000 in
theorem tr_un (k : Int) (g : Fm) (hk : k = 5 ∨ k = 6) (ih : TrC g) : TrC (.un k g) := by
  intro n xs ys a cap a' cap' b off len cp w hl hm h
  obtain ⟨W, hW, hb0, hx, hWs⟩ := boxM (w := w) n a xs.length cap a' ys.length cap' 34
  have HB := Lib.hid hb0
  have X := Lib.hid hx
  have M := Lib.hid (hm.keep hb0)
  have HF := Lib.hid (h.keep hb0 (Nat.le_refl _))
  have HW := Lib.hid hW
  obtain ⟨hb, c1, -⟩ := HF.out.head
  have hsz : (Fm.un k g).sz = 1 + g.sz := rfl
  have hgp := g.sz_pos
  have hlen := h.len
  have h0 : 1 < len := by omega
  have h1 := h.2.1
  have h2 := h.2.2
  unfold maxLen at h2
  obtain ⟨hn, h8, -⟩ := hm
  have hn0 : 0 ≤ n := by omega
  have hn30 : n ≤ 30 := by omega
  have HN := Lib.hid hn
  obtain ⟨lt, x0, x1, x2⟩ := X.out
  replace c1 : W.cell? ⟨b, off, none⟩ = some (.int .i64 k) := c1
  have G := Lib.hid (HF.out.under)
  obtain ⟨y, hy⟩ : ∃ y, y = g.tr xs ys := ⟨_, rfl⟩
  have I := Lib.hid (show ∀ w1 : World, Below W.heap.size W w1 → Calls Try.prog 46 #[.agg #[.int .i64 n, .slice a xs.length cap, .slice a' ys.length cap'], .slice (some ⟨b, off + 2, none⟩) (len - 1) (cp - 1)] w1 fun e w' => e = .returned (.int .i64 y) ∧ Below w1.heap.size w1 w' from
    fun w1 hw => by rw [hy]; exact ih n xs ys a cap a' cap' b (off + 2) (len - 1) (cp - 1) w1 (by omega) (M.out.keep hw) (G.out.keep hw (Nat.le_refl _)))
  have BX := Lib.hid (show ∀ (w1 : World) (z : Int), Below W.heap.size W w1 → Calls Try.prog 91 #[.slice a xs.length cap, .int .i64 z] w1 (SomeDrew w1 fun e => e = .returned (.int .i64 (boxTo xs z xs.length))) from
    fun w1 z hw => l01Box_any xs z a _ cap w1 (by omega) (M.out.keep hw).2.2.2.2.1)
  have E5 := Lib.hid (show k = 5 → boxTo xs y xs.length = (Fm.un k g).tr xs ys by intro e; rw [Fm.tr, if_pos e, hy])
  have E6 := Lib.hid (show k = 6 → bits .andNot .i64 (full n) (boxTo xs (bits .andNot .i64 (full n) y) xs.length) = (Fm.un k g).tr xs ys by intro e; rw [Fm.tr, if_neg (by omega), hy, hn])
  clear h hb0 hx hW hn h8 hsz hgp hlen hy ih
  have hlz : ((1 : Int) ≤ (len : Int)) := by omega
  have hcp : ¬ cp = 1 := by omega
  rcases hk with rfl | rfl
  · go_enter Try.func46, Try.ntmps46
    go_wp2_with fail
    rw [← HW.out]
    refine (l01Full_any _ _ hn0 hn30).mono ?_
    rintro e w' ⟨rfl, rfl⟩
    go_wp2
    go_region_held3 (fun w' => w'.cell? ⟨w.heap.size, 0, none⟩ = some (.int .i64 n) ∧ w'.cell? ⟨w.heap.size, 1, none⟩ = some (.slice a xs.length cap) ∧ w'.cell? ⟨w.heap.size, 2, none⟩ = some (.slice a' ys.length cap')) (first | exact ⟨z0, z1, z2⟩ | exact ⟨y0, y1, y2⟩ | exact ⟨x0, x1, x2⟩ | go_keep) (first | (go_at_call 46; refine (I.out _ (Below.refl _ _).drew).mono ?_; rintro e w1 ⟨rfl, hb⟩; have T1 := Lib.hid (show Below W.heap.size W w1 from below_of_drew hb); clear hb; obtain ⟨ly, y0, y1, y2⟩ := X.out.keep T1.out) | (go_at_call 91; refine (BX.out _ _ T1.out).mono ?_; rintro e w2 ⟨rfl, q, rfl⟩; have T2 := Lib.hid (show Below W.heap.size W (w1.drewN q) from below_drewN T1.out q); obtain ⟨lz, z0, z1, z2⟩ := X.out.keep T2.out))
    all_goals
      go_wp2
      go_ret
      exact ⟨ret_int (E5.out (by first | rfl | trivial)), HB.out.trans (T2.out.mono HB.out.size)⟩
  · go_enter Try.func46, Try.ntmps46
    go_wp2_with fail
    rw [← HW.out]
    refine (l01Full_any _ _ hn0 hn30).mono ?_
    rintro e w' ⟨rfl, rfl⟩
    go_wp2
    go_region_held3 (fun w' => w'.cell? ⟨w.heap.size, 0, none⟩ = some (.int .i64 n) ∧ w'.cell? ⟨w.heap.size, 1, none⟩ = some (.slice a xs.length cap) ∧ w'.cell? ⟨w.heap.size, 2, none⟩ = some (.slice a' ys.length cap')) (first | exact ⟨z0, z1, z2⟩ | exact ⟨y0, y1, y2⟩ | exact ⟨x0, x1, x2⟩ | go_keep) (first | (go_at_call 46; refine (I.out _ (Below.refl _ _).drew).mono ?_; rintro e w1 ⟨rfl, hb⟩; have T1 := Lib.hid (show Below W.heap.size W w1 from below_of_drew hb); clear hb; obtain ⟨ly, y0, y1, y2⟩ := X.out.keep T1.out) | (go_at_call 91; refine (BX.out _ _ T1.out).mono ?_; rintro e w2 ⟨rfl, q, rfl⟩; have T2 := Lib.hid (show Below W.heap.size W (w1.drewN q) from below_drewN T1.out q); obtain ⟨lz, z0, z1, z2⟩ := X.out.keep T2.out))
    all_goals
      go_wp2
      go_ret
      exact ⟨ret_int (E6.out (by first | rfl | trivial)), HB.out.trans (T2.out.mono HB.out.size)⟩

def trB (n k : Int) (x y : Int) : Int := if k = 2 then bits .and .i64 x y else if k = 3 then bits .or .i64 x y else bits .or .i64 (bits .andNot .i64 (full n) x) y

end Go.Proofs.Ytomldealpmohhaa
