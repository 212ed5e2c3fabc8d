/- The translation of a formula into a point formula, of the model. Conditions: those in the theorems. -/
import Derived.Test.YtfdoecnpnfojpaaCnP
import Derived.Test.YtfdoecnpnfojpaaPoM
import Derived.Test.YtfdoecnpnfojpaaDeep
import Derived.Deep.RegionWith
import Derived.Deep.RegionLaw
import Derived.RegionTactic
import Derived.BigRegion
import Derived.ChangeAlike
namespace Go.Proofs.Ytfdoecnpnfojpaa
open Go.RowKit

/-- The translation of a formula for a point. -/
def trP : Fm → Int → Pt
  | .va s, x => .le 2 s x
  | .fa, _ => .le 3 0 0
  | .bi k a b, x => .bi (k + 2) (trP a x) (trP b x)
  | .un k a, x => .un (if k = 5 then 7 else 8) (1 - x) (.bi (if k = 5 then 6 else 4) (.le 0 x (1 - x)) (trP a (1 - x)))
theorem trP_ok (f : Fm) (hf : f.ok) : ∀ x, (x = 0 ∨ x = 1) → (trP f x).ok := by
  induction f with
  | va s => intro x hx; have := hf.1; have := hf.2; exact .inr (.inl ⟨rfl, by omega, by omega, by omega, by omega⟩)
  | fa => intro x hx; exact .inr (.inr ⟨rfl, rfl, rfl⟩)
  | bi k a b iha ihb => intro x hx; exact ⟨by rcases hf.1 with h | h | h <;> omega, iha hf.2.1 x hx, ihb hf.2.2 x hx⟩
  | un k a ih =>
    intro x hx
    refine ⟨?_, by omega, ?_, .inl ⟨.inl rfl, by omega, by omega, by omega, by omega⟩, ih hf.2 _ (by omega)⟩
    · rcases hf.1 with rfl | rfl
      · rw [if_pos rfl]; omega
      · rw [if_neg (by omega)]; omega
    · rcases hf.1 with rfl | rfl
      · rw [if_pos rfl]; omega
      · rw [if_neg (by omega)]; omega
theorem trP_sz (f : Fm) : ∀ x, (trP f x).sz ≤ 3 * f.sz := by
  induction f with
  | va s => intro x; simp [trP, Pt.sz, Fm.sz]
  | fa => intro x; simp [trP, Pt.sz, Fm.sz]
  | bi k a b iha ihb => intro x; have := iha x; have := ihb x; simp only [trP, Pt.sz, Fm.sz]; omega
  | un k a ih => intro x; have := ih (1 - x); simp only [trP, Pt.sz, Fm.sz]; omega

theorem l10One_any (k f s : Int) (w : World) : Calls Try.prog 108 #[.int .i64 k, .int .i64 f, .int .i64 s] w fun e w' => ∃ v, e = .returned v ∧ OwnP w' w.heap.size v [(k, f, s)] ∧ Below w.heap.size w w' := by
  go_enter Try.func108, Try.ntmps108
  go_wp2
  go_ret
  exact ⟨_, rfl, litP w _ k f s (Nat.le_refl _), (Below.refl _ _).alloc (Nat.le_refl _) _⟩
theorem l10False_any (w : World) : Calls Try.prog 109 #[] w fun e w' => ∃ v, e = .returned v ∧ OwnP w' w.heap.size v [(3, 0, 0)] ∧ Below w.heap.size w w' := by
  go_enter Try.func109, Try.ntmps109
  go_wp2
  go_ret
  exact ⟨_, rfl, litP w _ 3 0 0 (Nat.le_refl _), (Below.refl _ _).alloc (Nat.le_refl _) _⟩
set_option maxHeartbeats 1000000 in
theorem l10Bind_any (k x : Int) (ys : List Pd) (a : Option Addr) (len cap : Nat) (w : World) (hl : len ≤ 1048576) (hp : 0 < len) (h : AtP w a len ys) :
    Calls Try.prog 111 #[.int .i64 k, .int .i64 x, .slice a len cap] w fun e w' => ∃ v, e = .returned v ∧ OwnP w' w.heap.size v ((k, x, 0) :: ys) ∧ Below w.heap.size w w' := by
  have BA := Lib.hid ((Below.refl w.heap.size w).alloc (Nat.le_refl _) (.cells #[.int .i64 k, .int .i64 x, .int .i64 0] 78))
  have HA := Lib.hid (h.keep BA.out (Nat.le_refl _))
  have OL := Lib.hid (litP w w.heap.size k x 0 (Nat.le_refl _))
  clear h
  go_enter Try.func111, Try.ntmps111
  go_wp2_with (at_builtin; refine list_appPt rfl _ _ rfl w.heap.size _ [(k, x, 0)] rfl OL.out ys a _ cap rfl HA.out hp (by simp; omega) BA.out.size ?_)
  intro v1 w1 ho1 hg1
  have B1 := Lib.hid (below_appPt BA.out (Below.refl _ _) BA.out.size OL.out hg1)
  have O1 := Lib.hid ho1
  clear ho1 hg1
  go_wp2
  go_ret
  exact ⟨_, rfl, O1.out, B1.out⟩
set_option maxHeartbeats 1000000 in
theorem l10Pair_any (k : Int) (xs ys : List Pd) (a a' : Option Addr) (len cap len' cap' : Nat) (w : World) (hl : len + len' ≤ 1048576) (hp : 0 < len) (hp' : 0 < len') (h : AtP w a len xs) (h' : AtP w a' len' ys) :
    Calls Try.prog 110 #[.int .i64 k, .slice a len cap, .slice a' len' cap'] w fun e w' => ∃ v, e = .returned v ∧ OwnP w' w.heap.size v ((k, 0, 0) :: (xs ++ ys)) ∧ Below w.heap.size w w' := by
  have BA := Lib.hid ((Below.refl w.heap.size w).alloc (Nat.le_refl _) (.cells #[.int .i64 k, .int .i64 0, .int .i64 0] 78))
  have HA := Lib.hid (h.keep BA.out (Nat.le_refl _))
  have HB := Lib.hid h'
  have hx := h.1
  have OL := Lib.hid (litP w w.heap.size k 0 0 (Nat.le_refl _))
  have HX := Lib.hid hx
  clear h h' hx
  go_enter Try.func110, Try.ntmps110
  go_wp2_with (at_builtin; refine list_appPt rfl _ _ rfl w.heap.size _ [(k, 0, 0)] rfl OL.out xs a _ cap rfl HA.out hp (by simp; omega) BA.out.size ?_)
  intro v1 w1 ho1 hg1
  have B1 := Lib.hid (below_appPt BA.out (Below.refl _ _) BA.out.size OL.out hg1)
  have O1 := Lib.hid ho1
  have HC := Lib.hid (HB.out.keep B1.out (Nat.le_refl _))
  clear ho1 hg1
  go_wp2_with (at_builtin; refine list_appPt rfl _ _ rfl w.heap.size _ _ rfl O1.out ys a' _ cap' rfl HC.out hp' (by have := HX.out; simp; omega) B1.out.size ?_)
  intro v2 w2 ho2 hg2
  have B2 := Lib.hid (below_appPt B1.out (Below.refl _ _) B1.out.size O1.out hg2)
  have O2 := Lib.hid ho2
  clear ho2 hg2
  go_wp2
  go_ret
  exact ⟨_, rfl, by simpa using O2.out, B2.out⟩

/-- What l10Translate is to do. -/
def TfC (f : Fm) : Prop := ∀ (x : Int) (b off len cap : Nat) (w : World), (x = 0 ∨ x = 1) → len ≤ 4096 → AtF w b off len cap f →
    Calls Try.prog 73 #[.slice (some ⟨b, off, none⟩) len cap, .int .i64 x] w fun e w' => ∃ v, e = .returned v ∧ OwnP w' w.heap.size v (trP f x).enc ∧ Below w.heap.size w w'

set_option maxHeartbeats 2000000 in
theorem tf_va (s : Int) : TfC (.va s) := by
  intro x b off len cap w hx hl h
  obtain ⟨hb, c1, c2⟩ := h.head
  have hlen := h.len
  have h0 : 0 < len := by rw [hlen]; exact Fm.sz_pos _
  replace c1 : w.cell? ⟨b, off, none⟩ = some (.int .i64 0) := c1
  replace c2 : w.cell? ⟨b, off + 1, none⟩ = some (.int .i64 s) := c2
  clear h hlen hx
  go_enter Try.func73, Try.ntmps73
  go_wp2_with fail
  refine (l10One_any _ _ _ _).mono ?_
  rintro e w1 ⟨v1, rfl, ho1, hb1⟩
  have O1 := Lib.hid ho1
  have B1 := Lib.hid hb1
  clear ho1 hb1
  go_wp2
  go_ret
  exact ⟨_, rfl, O1.out, B1.out⟩
set_option maxHeartbeats 2000000 in
theorem tf_fa : TfC .fa := by
  intro x b off len cap w hx hl h
  obtain ⟨hb, c1, c2⟩ := h.head
  have hlen := h.len
  have h0 : 0 < len := by rw [hlen]; exact Fm.sz_pos _
  replace c1 : w.cell? ⟨b, off, none⟩ = some (.int .i64 1) := c1
  clear h hlen hx
  go_enter Try.func73, Try.ntmps73
  go_wp2_with fail
  refine (l10False_any _).mono ?_
  rintro e w1 ⟨v1, rfl, ho1, hb1⟩
  have O1 := Lib.hid ho1
  have B1 := Lib.hid hb1
  clear ho1 hb1
  go_wp2
  go_ret
  exact ⟨_, rfl, O1.out, B1.out⟩

set_option maxHeartbeats 4000000 in
theorem tf_bi (k : Int) (f g : Fm) (hf : (Fm.bi k f g).ok) (ihf : TfC f) (ihg : TfC g) : TfC (.bi k f g) := by
  intro x b off len cap w hx hl h
  obtain ⟨hb, c1, c2⟩ := h.head
  have hlen := h.len
  have hs : (Fm.bi k f g).sz = 1 + f.sz + g.sz := rfl
  have h0 : 0 < len := by omega
  replace c1 : w.cell? ⟨b, off, none⟩ = some (.int .i64 k) := c1
  have X := Lib.hid h.left
  have Y := Lib.hid h.right
  have LE := Lib.hid (l02Left_any k f g hf.2.1 b off len cap w (by omega) h)
  have RI := Lib.hid (fun W (hW : Below w.heap.size w W) => l02Right_any k f g hf.2.1 b off len cap W (by omega) (h.keep hW (Nat.le_refl _)))
  have IX := Lib.hid (fun W (hW : Below w.heap.size w W) => ihf x b (off + 2) f.sz (cap - 1) W hx (by omega) (X.out.keep hW (Nat.le_refl _)))
  have IY := Lib.hid (fun W (hW : Below w.heap.size w W) => ihg x b (off + (1 + f.sz) * 2) g.sz (cap - (1 + f.sz)) W hx (by omega) (Y.out.keep hW (Nat.le_refl _)))
  have hk := hf.1
  have z1 := trP_sz f x
  have z2 := trP_sz g x
  have p1 := (trP f x).sz_pos
  have p2 := (trP g x).sz_pos
  have ZZ := Lib.hid (show (trP f x).sz + (trP g x).sz ≤ 1048576 by omega)
  clear h hlen hs ihf ihg hf c2 z1 z2
  rcases hk with rfl | rfl | rfl
  all_goals
    go_enter Try.func73, Try.ntmps73
    go_wp2_with fail
    refine LE.out.mono ?_
    rintro e w' ⟨rfl, rfl⟩
    go_wp2_with fail
    refine (IX.out _ (Below.refl _ _)).mono ?_
    rintro e w1 ⟨v1, rfl, ho1, hb1⟩
    obtain ⟨a1, c1', rfl, at1, -⟩ := ho1.at
    have B1 := Lib.hid hb1
    have A1 := Lib.hid at1
    clear hb1 ho1 at1
    go_wp2_with fail
    refine (RI.out _ B1.out).mono ?_
    rintro e w' ⟨rfl, rfl⟩
    go_wp2_with fail
    refine (IY.out _ B1.out).mono ?_
    rintro e w2 ⟨v2, rfl, ho2, hb2⟩
    obtain ⟨a2, c2', rfl, at2, -⟩ := ho2.at
    have B2 := Lib.hid (B1.out.trans (hb2.mono B1.out.size))
    have A2 := Lib.hid at2
    have A1' := Lib.hid (A1.out.keep hb2 (Nat.le_refl _))
    clear hb2 ho2 at2
    go_wp2_with fail
    refine (l10Pair_any _ (trP f x).enc (trP g x).enc _ _ _ _ _ _ _ (by rw [Pt.enc_len, Pt.enc_len]; exact ZZ.out) (by rw [Pt.enc_len]; exact p1) (by rw [Pt.enc_len]; exact p2) A1'.out A2.out).mono ?_
    rintro e w3 ⟨v3, rfl, ho3, hb3⟩
    have B3 := Lib.hid (B2.out.trans (hb3.mono B2.out.size))
    have O3 := Lib.hid (ho3.mono B2.out.size)
    clear hb3 ho3
    go_wp2
    go_ret
    exact ⟨_, rfl, O3.out, B3.out⟩

end Go.Proofs.Ytfdoecnpnfojpaa
