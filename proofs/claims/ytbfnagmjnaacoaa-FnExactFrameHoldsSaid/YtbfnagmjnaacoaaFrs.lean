/- The model's mask of the free points of a point formula. Conditions: those in the theorems. -/
import Derived.Test.YtbfnagmjnaacoaaPtA
import Derived.Test.YtbfnagmjnaacoaaFre
namespace Go.Proofs.Ytbfnagmjnaacoaa
open Go.RowKit

def FrsC (f : Pt) (p : Int) : Prop := ∀ (b off len cap : Nat) (w : World), len ≤ 1048576 → AtT w b off len cap f →
    Calls Try.prog 56 #[.slice (some ⟨b, off, none⟩) len cap] w fun e w' => e = .returned (.int .i64 p) ∧ Below w.heap.size w w'

set_option maxHeartbeats 2000000 in
theorem frs_se (k f s : Int) (hk : k = 0 ∨ k = 1) (h1 : 0 ≤ f) (h2 : f ≤ 9) (h3 : 0 ≤ s) (h4 : s ≤ 9) : FrsC (.le k f s) (bits .or .i64 (one f) (one s)) := by
  intro b off len cap w hl h
  obtain ⟨hb, c1, c2, c3⟩ := h.head
  have hlen := h.len
  have h0 : 0 < len := by rw [hlen]; exact Pt.sz_pos _
  replace c1 : w.cell? ⟨b, off, none⟩ = some (.int .i64 k) := c1
  replace c2 : w.cell? ⟨b, off + 1, none⟩ = some (.int .i64 f) := c2
  replace c3 : w.cell? ⟨b, off + 2, none⟩ = some (.int .i64 s) := c3
  have KA := Lib.hid (fun W => (l01One_any f W h1 (by omega)))
  have KB := Lib.hid (fun W => (l01One_any s W h3 (by omega)))
  obtain ⟨p, hp⟩ : ∃ p, p = one f := ⟨_, rfl⟩
  obtain ⟨q, hq⟩ : ∃ q, q = one s := ⟨_, rfl⟩
  rw [← hp] at KA ⊢
  rw [← hq] at KB ⊢
  clear h hlen hp hq
  rcases hk with rfl | rfl
  all_goals
    go_enter Try.func56, Try.ntmps56
    go_wp2
    go_quiet ((first | (go_at_call_of 113 f; exact q_same (KA.out _) rfl) | (go_at_call_of 113 s; exact q_same (KB.out _) rfl)))
    go_wp2
    go_ret
    exact ⟨rfl, below_drewN' ((Below.refl _ _).alloc (Nat.le_refl _) _) _⟩

set_option maxHeartbeats 2000000 in
theorem frs_v (f s : Int) (h3 : 0 ≤ s) (h4 : s ≤ 9) : FrsC (.le 2 f s) (one s) := by
  intro b off len cap w hl h
  obtain ⟨hb, c1, c2, c3⟩ := h.head
  have hlen := h.len
  have h0 : 0 < len := by rw [hlen]; exact Pt.sz_pos _
  replace c1 : w.cell? ⟨b, off, none⟩ = some (.int .i64 2) := c1
  replace c2 : w.cell? ⟨b, off + 1, none⟩ = some (.int .i64 f) := c2
  replace c3 : w.cell? ⟨b, off + 2, none⟩ = some (.int .i64 s) := c3
  have KB := Lib.hid (fun W => (l01One_any s W h3 (by omega)))
  obtain ⟨q, hq⟩ : ∃ q, q = one s := ⟨_, rfl⟩
  rw [← hq] at KB ⊢
  clear h hlen hq
  go_enter Try.func56, Try.ntmps56
  go_wp2_with (go_at_call 113; refine (KB.out _).mono ?_; rintro e w' ⟨rfl, rfl⟩)
  go_ret
  exact ⟨rfl, (Below.refl _ _).alloc (Nat.le_refl _) _⟩
set_option maxHeartbeats 2000000 in
theorem frs_f : FrsC (.le 3 0 0) 0 := by
  intro b off len cap w hl h
  obtain ⟨hb, c1, c2, c3⟩ := h.head
  have hlen := h.len
  have h0 : 0 < len := by rw [hlen]; exact Pt.sz_pos _
  replace c1 : w.cell? ⟨b, off, none⟩ = some (.int .i64 3) := c1
  replace c2 : w.cell? ⟨b, off + 1, none⟩ = some (.int .i64 0) := c2
  replace c3 : w.cell? ⟨b, off + 2, none⟩ = some (.int .i64 0) := c3
  clear h hlen
  go_enter Try.func56, Try.ntmps56
  go_wp2
  go_ret
  exact ⟨rfl, (Below.refl _ _).alloc (Nat.le_refl _) _⟩

set_option maxHeartbeats 4000000 in
theorem frs_un (k x : Int) (a : Pt) (p : Int) (hf : (Pt.un k x a).ok) (ih : FrsC a p) : FrsC (.un k x a) (bits .andNot .i64 p (one x)) := by
  intro b off len cap w hl h
  obtain ⟨hb, c1, c2, c3⟩ := h.head
  have hlen := h.len
  have hs : (Pt.un k x a).sz = 1 + a.sz := rfl
  have hap := a.sz_pos
  have h0 : 1 < len := by omega
  have h1 := h.2.1
  have h2 := h.2.2
  unfold maxLen at h2
  replace c1 : w.cell? ⟨b, off, none⟩ = some (.int .i64 k) := c1
  replace c2 : w.cell? ⟨b, off + 1, none⟩ = some (.int .i64 x) := c2
  replace c3 : w.cell? ⟨b, off + 2, none⟩ = some (.int .i64 0) := c3
  obtain ⟨W, hW⟩ : ∃ W, W = w.alloc (.cells #[.int .i64 k, .int .i64 x, .int .i64 0] 76) := ⟨_, rfl⟩
  have hWb : Below w.heap.size w W := by rw [hW]; exact (Below.refl _ _).alloc (Nat.le_refl _) _
  have x0 : W.cell? ⟨w.heap.size, 0, none⟩ = some (.int .i64 k) := by rw [hW]; exact World.cell?_alloc_new _ _ _ 0
  have x1 : W.cell? ⟨w.heap.size, 1, none⟩ = some (.int .i64 x) := by rw [hW]; exact World.cell?_alloc_new _ _ _ 1
  have hWs : w.heap.size < W.heap.size := by rw [hW]; simp
  have CB := Lib.hid (fun (w1 : World) (hb1 : Below W.heap.size W w1) => (hb1.cell (p := ⟨w.heap.size, 1, none⟩) hWs).trans x1)
  have U := Lib.hid (h.under.keep hWb (Nat.le_refl _))
  have IH := Lib.hid (fun W' (hW' : Below W.heap.size W W') => ih b (off + 3) (len - 1) (cap - 1) W' (by omega) (U.out.keep hW' (Nat.le_refl _)))
  have KA := Lib.hid (fun W => (l01One_any x W hf.2.1.1 (by have := hf.2.1.2; omega)))
  obtain ⟨q, hq⟩ : ∃ q, q = one x := ⟨_, rfl⟩
  rw [← hq] at KA ⊢
  have hk := hf.1
  have HB := Lib.hid hWb
  have HW := Lib.hid hW
  clear h hlen hs hap hWb hWs hW hq ih hf
  rcases hk with rfl | rfl
  all_goals
    go_enter Try.func56, Try.ntmps56
    go_wp2
    rw [← HW.out]
    clear c1 c2 c3 x0
    have i1 : (1 : Int) ≤ (len : Int) := by omega
    have i2 : ¬ cap = 1 := by omega
    have i3 : (len : Int) ≤ (cap : Int) := by omega
    have i4 : (1 : Int) ≤ (cap : Int) := by omega
    go_region_held3 (fun w' => w'.cell? ⟨w.heap.size, 1, none⟩ = some (.int .i64 x)) (first | exact y1 | exact x1 | go_keep) (first | (go_at_call 56; refine (IH.out _ (Below.refl _ _).drew).mono ?_; rintro e w1 ⟨rfl, hb⟩; have T1 := Lib.hid (show Below W.heap.size W w1 from below_of_drew hb); clear hb; have y1 := CB.out _ T1.out) | (go_at_call 113; refine (KA.out _).mono ?_; rintro e w' ⟨rfl, rfl⟩))
    all_goals
      go_wp2
      go_ret
      exact ⟨rfl, HB.out.trans (T1.out.mono HB.out.size)⟩

set_option maxHeartbeats 4000000 in
theorem frs_bi (k : Int) (f g : Pt) (p q : Int) (hf : (Pt.bi k f g).ok) (ihf : FrsC f p) (ihg : FrsC g q) : FrsC (.bi k f g) (bits .or .i64 p q) := by
  intro b off len cap w hl h
  obtain ⟨hb, c1, c2, c3⟩ := h.head
  have hlen := h.len
  have hs : (Pt.bi k f g).sz = 1 + f.sz + g.sz := rfl
  have hxp := f.sz_pos
  have hyp := g.sz_pos
  have h0 : 1 < len := by omega
  replace c1 : w.cell? ⟨b, off, none⟩ = some (.int .i64 k) := c1
  replace c2 : w.cell? ⟨b, off + 1, none⟩ = some (.int .i64 0) := c2
  replace c3 : w.cell? ⟨b, off + 2, none⟩ = some (.int .i64 0) := c3
  have X := Lib.hid h.left
  have Y := Lib.hid h.right
  have LE := Lib.hid (fun W (hW : Below w.heap.size w W) => l10Left_any k f g hf b off len cap W hl (h.keep hW (Nat.le_refl _)))
  have RI := Lib.hid (fun W (hW : Below w.heap.size w W) => l10Right_any k f g hf b off len cap W hl (h.keep hW (Nat.le_refl _)))
  have IX := Lib.hid (fun W (hW : Below w.heap.size w W) => ihf b (off + 3) f.sz (cap - 1) W (by omega) (X.out.keep hW (Nat.le_refl _)))
  have IY := Lib.hid (fun W (hW : Below w.heap.size w W) => ihg b (off + (1 + f.sz) * 3) g.sz (cap - (1 + f.sz)) W (by omega) (Y.out.keep hW (Nat.le_refl _)))
  have HB := Lib.hid ((Below.refl w.heap.size w).alloc (Nat.le_refl _) (.cells #[.int .i64 k, .int .i64 0, .int .i64 0] 76))
  have hk := hf.1
  clear h hlen hs hxp hyp ihf ihg hf
  rcases hk with rfl | rfl | rfl
  all_goals
    go_enter Try.func56, Try.ntmps56
    go_wp2_with fail
    refine (LE.out _ HB.out).mono ?_
    rintro e w' ⟨rfl, rfl⟩
    go_wp2_with fail
    refine (IX.out _ HB.out).mono ?_
    rintro e w1 ⟨rfl, hb1⟩
    have B1 := Lib.hid (HB.out.trans (hb1.mono HB.out.size))
    clear hb1
    go_wp2_with fail
    refine (RI.out _ B1.out).mono ?_
    rintro e w' ⟨rfl, rfl⟩
    go_wp2_with fail
    refine (IY.out _ B1.out).mono ?_
    rintro e w2 ⟨rfl, hb2⟩
    have B2 := Lib.hid (B1.out.trans (hb2.mono B1.out.size))
    clear hb2
    go_wp2
    go_ret
    exact ⟨rfl, B2.out⟩

theorem l10Free_any (f : Pt) (hf : f.ok) : FrsC f f.fre := by
  induction f with
  | le k x y =>
    rcases hf with ⟨h, h1, h2, h3, h4⟩ | ⟨rfl, h1, h2, h3, h4⟩ | ⟨rfl, rfl, rfl⟩
    · rw [show (Pt.le k x y).fre = bits .or .i64 (one x) (one y) from by rw [Pt.fre, if_pos h]]
      exact frs_se k x y h h1 h2 h3 h4
    · rw [show (Pt.le 2 x y).fre = one y from by rw [Pt.fre, if_neg (by omega), if_pos rfl]]
      exact frs_v x y h3 h4
    · rw [show (Pt.le 3 0 0).fre = 0 from by rw [Pt.fre, if_neg (by omega), if_neg (by omega)]]
      exact frs_f
  | un k x a ih =>
    rw [show (Pt.un k x a).fre = bits .andNot .i64 a.fre (one x) from by rw [Pt.fre]]
    exact frs_un k x a _ hf (ih hf.2.2)
  | bi k a b iha ihb =>
    rw [show (Pt.bi k a b).fre = bits .or .i64 a.fre b.fre from by rw [Pt.fre]]
    exact frs_bi k a b _ _ hf (iha hf.2.1) (ihb hf.2.2)

end Go.Proofs.Ytbfnagmjnaacoaa
