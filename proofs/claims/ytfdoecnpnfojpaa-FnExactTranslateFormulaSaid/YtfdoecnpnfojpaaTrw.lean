/- The program's writer of translations. Conditions: those in the theorems. -/
import Derived.Test.YtfdoecnpnfojpaaTrg
import Derived.Laws.EntriesVeiled
namespace Go.Proofs.Ytfdoecnpnfojpaa
open Go.RowKit

/-- What the writer does with the part of a formula at an index. -/
def WrC (f : Fm) : Prop := ∀ (xs : List Nd) (b off len cap i : Nat) (r : List Nd) (x : Int) (w : World), len ≤ 4096 → AtN w (some ⟨b, off, none⟩) len xs → xs.drop i = f.enc ++ r → (x = 0 ∨ x = 1) →
    Calls Try.prog 76 #[.agg #[.func (.func 112) #[] #[], .func (.func 113) #[] #[]], .slice (some ⟨b, off, none⟩) len cap, .int .i64 i, .int .i64 x] w fun e w' => ∃ v, e = .returned (.tuple #[v, .int .i64 (i + f.sz : Nat)]) ∧ OwnP w' w.heap.size v (trP f x).enc ∧ Below w.heap.size w w'

theorem AtN.nodeAt {w : World} {b off len : Nat} {xs : List Nd} (h : AtN w (some ⟨b, off, none⟩) len xs) {i : Nat} {x : Nd} {r : List Nd} (hd : xs.drop i = x :: r) : i < len ∧ b < w.heap.size ∧ w.cell? ⟨b, off + i * 2, none⟩ = some (.int .i64 x.1) ∧ w.cell? ⟨b, off + i * 2 + 1, none⟩ = some (.int .i64 x.2) := by
  have hl := h.1
  have hi := drop_lt hd
  obtain ⟨b', off', ha, hb, hc⟩ := h.2.resolve_left (by omega)
  cases ha
  obtain ⟨c1, c2⟩ := hc i (by omega)
  rw [kd_at hd] at c1
  rw [sy_at hd] at c2
  exact ⟨by omega, hb, c1, c2⟩

theorem boxW (w : World) : ∃ W, W = w.alloc (.cells #[.func (.func 112) #[] #[], .func (.func 113) #[] #[]] 99) ∧ Hid (Below w.heap.size w W) ∧ Hid (∀ w1, Below W.heap.size W w1 → w1.cell? ⟨w.heap.size, 0, none⟩ = some (.func (.func 112) #[] #[]) ∧ w1.cell? ⟨w.heap.size, 1, none⟩ = some (.func (.func 113) #[] #[])) := by
  refine ⟨_, rfl, Lib.hid ((Below.refl _ _).alloc (Nat.le_refl _) _), Lib.hid (fun w1 hb => ⟨(hb.cell (p := ⟨w.heap.size, 0, none⟩) (by simp)).trans (World.cell?_alloc_new _ _ _ 0), (hb.cell (p := ⟨w.heap.size, 1, none⟩) (by simp)).trans (World.cell?_alloc_new _ _ _ 1)⟩)⟩

set_option maxHeartbeats 4000000 in
set_option maxRecDepth 100000 in
theorem wr_va (s : Int) : WrC (.va s) := by
  intro xs b off len cap i r x w hl h hd hx
  obtain ⟨W, hW, HB, XB⟩ := boxW w
  have hA := h.keep HB.out (Nat.le_refl _)
  obtain ⟨hi, hb, c1, c2⟩ := hA.nodeAt (x := (0, s)) (r := r) hd
  simp only at c1 c2
  obtain ⟨x0, x1⟩ := XB.out W (Below.refl _ _)
  have HW := Lib.hid hW
  have hi2 : (i : Int) < (len : Int) := by omega
  have HN := Lib.hid (show ((i + (Fm.va s).sz : Nat) : Int) = IntKind.i64.wrap ((i : Int) + 1) by rw [IntKind.wrap_i64]; simp only [Fm.sz]; omega)
  have hbw : b < w.heap.size := (h.nodeAt (x := (0, s)) (r := r) hd).2.1
  obtain ⟨d1, d2⟩ := (show w.cell? ⟨b, off + i * 2, none⟩ = some (.int .i64 0) ∧ w.cell? ⟨b, off + i * 2 + 1, none⟩ = some (.int .i64 s) from ⟨(h.nodeAt (x := (0, s)) (r := r) hd).2.2.1, (h.nodeAt (x := (0, s)) (r := r) hd).2.2.2⟩)
  clear h hd hA hW hx
  go_enter Try.func76, Try.ntmps76
  go_wp2
  rw [← HW.out]
  clear d1 d2
  go_region_law (first | (go_simp; go_at_call 112; refine (trWr1_any _ _ _).mono ?_; rintro e w1 ⟨v1, rfl, ho1, hb1⟩; have T1 := Lib.hid (show Below W.heap.size W w1 from ⟨hb1.os, hb1.tape, hb1.output, hb1.size, hb1.block⟩); have O1 := Lib.hid (show OwnP w1 w.heap.size v1 [(2, s, x)] from ho1.mono HB.out.size); clear hb1 ho1))
  all_goals
    go_wp2
    go_ret2
    exact ⟨_, (by rw [HN.out] <;> rfl), O1.out, HB.out.trans (T1.out.mono HB.out.size)⟩

set_option maxHeartbeats 4000000 in
set_option maxRecDepth 100000 in
theorem wr_fa : WrC .fa := by
  intro xs b off len cap i r x w hl h hd hx
  obtain ⟨W, hW, HB, XB⟩ := boxW w
  obtain ⟨hi, hbw, d1, d2⟩ := h.nodeAt (x := (1, 0)) (r := r) hd
  simp only at d1 d2
  have HW := Lib.hid hW
  have hi2 : (i : Int) < (len : Int) := by omega
  have HN := Lib.hid (show ((i + Fm.fa.sz : Nat) : Int) = (i : Int) + 1 by simp only [Fm.sz]; omega)
  clear h hd hW hx
  go_enter Try.func76, Try.ntmps76
  go_wp2_with fail
  rw [← HW.out]
  refine (falsePoints_any _).mono ?_
  rintro e w1 ⟨v1, rfl, ho1, hb1⟩
  have B1 := Lib.hid (HB.out.trans (hb1.mono HB.out.size))
  have O1 := Lib.hid (ho1.mono HB.out.size)
  clear hb1 ho1
  go_wp2
  go_ret2
  exact ⟨_, (by rw [HN.out] <;> rfl), O1.out, B1.out⟩

set_option maxHeartbeats 4000000 in
set_option maxRecDepth 100000 in
theorem wr_un (k : Int) (f : Fm) (hf : (Fm.un k f).ok) (ih : WrC f) : WrC (.un k f) := by
  intro xs b off len cap i r x w hl h hd hx
  obtain ⟨W, hW, HB, XB⟩ := boxW w
  obtain ⟨hi, hbw, d1, d2⟩ := h.nodeAt (x := (k, 0)) (r := f.enc ++ r) (by rw [hd]; simp [Fm.enc])
  simp only at d1 d2
  have hd1 : xs.drop (i + 1) = f.enc ++ r := drop_next (x := (k, 0)) (by rw [hd]; simp [Fm.enc])
  have HA := Lib.hid (h.keep HB.out (Nat.le_refl _))
  have HW := Lib.hid hW
  have hi2 : (i : Int) < (len : Int) := by omega
  obtain ⟨y, hy⟩ : ∃ y, y = 1 - x := ⟨_, rfl⟩
  have hy2 : y = 0 ∨ y = 1 := by omega
  have IH := Lib.hid (ih xs b off len cap (i + 1) r y W hl HA.out hd1 hy2)
  have hn2 : i + 1 + f.sz ≤ 4096 := by
    have h1 := congrArg List.length hd1
    have h2 := h.1
    rw [List.length_drop, List.length_append, Fm.enc_len] at h1
    have := f.sz_pos
    omega
  obtain ⟨n, hn⟩ : ∃ n, n = i + 1 + f.sz := ⟨_, rfl⟩
  rw [← hn] at IH hn2
  rw [show ((i + 1 : Nat) : Int) = (i : Int) + 1 by omega] at IH
  have HN := Lib.hid (show ((i + (Fm.un k f).sz : Nat) : Int) = (n : Int) by simp only [Fm.sz]; omega)
  have HM := Lib.hid (show (i : Int) + ((Fm.un k f).sz : Int) = (n : Int) by simp only [Fm.sz]; omega)
  have K1 := Lib.hid (trWr2_any x hx W)
  rw [← hy] at K1
  have z1 := trP_sz f y
  have p1 := (trP f y).sz_pos
  have hfl : f.sz ≤ 4096 := by omega
  have PK := Lib.hid (fun W => pointKind_any k (by rcases hf.1 with h | h <;> omega) W)
  have CB := Lib.hid (fun (w1 : World) (hb1 : Below W.heap.size W w1) => (hb1.cell (p := ⟨b, off + i * 2, none⟩) (Nat.lt_of_lt_of_le hbw HB.out.size)).trans ((HB.out.cell (p := ⟨b, off + i * 2, none⟩) hbw).trans d1))
  have hk := hf.1
  have R := Lib.hid (show (trP (.un k f) x).enc = ((if k = 5 then 7 else 8), y, 0) :: ((if k = 5 then 6 else 4), 0, 0) :: ([(0, x, y)] ++ (trP f y).enc) by simp only [trP, Pt.enc, ← hy])
  have ZZ := Lib.hid (show (trP f y).sz ≤ 1048000 by omega)
  obtain ⟨x0, x1⟩ := XB.out W (Below.refl _ _)
  rw [R.out]
  clear h hd hd1 hW hx hf ih hn hy hy2 z1 R
  rcases hk with rfl | rfl
  all_goals
    go_enter Try.func76, Try.ntmps76
    go_wp2_with fail
    rw [← HW.out]
    refine K1.out.mono ?_
    rintro e w' ⟨rfl, rfl⟩
    go_wp2_with fail
    refine IH.out.mono ?_
    rintro e w1 ⟨v1, rfl, ho1, hb1⟩
    obtain ⟨a1, c1, rfl, at1, -⟩ := ho1.at
    have T1 := Lib.hid hb1
    have A1 := Lib.hid at1
    have e1 := CB.out _ hb1
    have hbs := hb1.size
    have hbw1 : b < w1.heap.size := Nat.lt_of_lt_of_le (Nat.lt_of_lt_of_le hbw HB.out.size) hbs
    clear hb1 ho1 at1 x0 x1 d1 d2 hbs
    go_wp2_with (go_at_call 116; refine (PK.out _).mono ?_; rintro e w' ⟨rfl, rfl⟩)
    refine (quantifySeen_any _ x y _ (by first | exact .inl ⟨rfl, rfl⟩ | exact .inr ⟨rfl, rfl⟩) (trP f y).enc _ _ _ _ (by rw [Pt.enc_len]; exact ZZ.out) (by rw [Pt.enc_len]; exact p1) A1.out).mono ?_
    rintro e w2 ⟨v2, rfl, ho2, hb2⟩
    have B2 := Lib.hid (HB.out.trans ((T1.out.trans (hb2.mono T1.out.size)).mono HB.out.size))
    have O2 := Lib.hid (ho2.mono (Nat.le_trans HB.out.size T1.out.size))
    clear hb2 ho2
    go_wp2
    go_ret2
    exact ⟨_, (by first | (rw [HN.out] <;> rfl) | (rw [HM.out] <;> rfl)), O2.out, B2.out⟩

set_option maxHeartbeats 4000000 in
set_option maxRecDepth 100000 in
theorem wr_bi (k : Int) (f g : Fm) (hf : (Fm.bi k f g).ok) (ih : WrC f) (jh : WrC g) : WrC (.bi k f g) := by
  intro xs b off len cap i r x w hl h hd hx
  obtain ⟨W, hW, HB, XB⟩ := boxW w
  obtain ⟨hi, hbw, d1, d2⟩ := h.nodeAt (x := (k, 0)) (r := f.enc ++ (g.enc ++ r)) (by rw [hd]; simp [Fm.enc])
  simp only at d1 d2
  have hd1 : xs.drop (i + 1) = f.enc ++ (g.enc ++ r) := drop_next (x := (k, 0)) (by rw [hd]; simp [Fm.enc])
  have hd2 : xs.drop (i + 1 + f.sz) = g.enc ++ r := by have := drop_add hd1; rwa [Fm.enc_len] at this
  have HA := Lib.hid (h.keep HB.out (Nat.le_refl _))
  have HW := Lib.hid hW
  have hi2 : (i : Int) < (len : Int) := by omega
  have IH := Lib.hid (ih xs b off len cap (i + 1) _ x W hl HA.out hd1 hx)
  have JH := Lib.hid (fun w1 (hb1 : Below W.heap.size W w1) => jh xs b off len cap (i + 1 + f.sz) r x w1 hl (HA.out.keep hb1 (Nat.le_refl _)) hd2 hx)
  have hn2 : i + 1 + f.sz + g.sz ≤ 4096 := by
    have h1 := congrArg List.length hd1
    have h2 := h.1
    rw [List.length_drop, List.length_append, List.length_append, Fm.enc_len, Fm.enc_len] at h1
    have := f.sz_pos
    omega
  obtain ⟨n, hn⟩ : ∃ n, n = i + 1 + f.sz := ⟨_, rfl⟩
  obtain ⟨m, hm⟩ : ∃ m, m = n + g.sz := ⟨_, rfl⟩
  have hz1 := trP_sz f x
  have hz2 := trP_sz g x
  have p1 := (trP f x).sz_pos
  have p2 := (trP g x).sz_pos
  have ZZ := Lib.hid (show (trP f x).sz + (trP g x).sz ≤ 1048576 by omega)
  have HN := Lib.hid (show ((i + (Fm.bi k f g).sz : Nat) : Int) = (m : Int) by simp only [Fm.sz]; omega)
  have hm2 : m ≤ 4096 := by omega
  rw [← hn] at IH JH
  rw [← hm] at JH
  rw [show ((i + 1 : Nat) : Int) = (i : Int) + 1 by omega] at IH
  have PK := Lib.hid (fun W => pointKind_any k (by rcases hf.1 with h | h | h <;> omega) W)
  have CB := Lib.hid (fun (w1 : World) (hb1 : Below W.heap.size W w1) => (hb1.cell (p := ⟨b, off + i * 2, none⟩) (Nat.lt_of_lt_of_le hbw HB.out.size)).trans ((HB.out.cell (p := ⟨b, off + i * 2, none⟩) hbw).trans d1))
  have hk := hf.1
  have R := Lib.hid (show (trP (.bi k f g) x).enc = (k + 2, 0, 0) :: ((trP f x).enc ++ (trP g x).enc) by simp only [trP, Pt.enc])
  obtain ⟨x0, x1⟩ := XB.out W (Below.refl _ _)
  have hnn : n ≤ 4096 := by omega
  rw [R.out]
  clear h hd hd1 hd2 hW hx hf ih jh hn hm hz1 hz2 R hn2
  rcases hk with rfl | rfl | rfl
  all_goals
    go_enter Try.func76, Try.ntmps76
    go_wp2_with fail
    rw [← HW.out]
    refine IH.out.mono ?_
    rintro e w1 ⟨v1, rfl, ho1, hb1⟩
    obtain ⟨a1, c1, rfl, at1, -⟩ := ho1.at
    have T1 := Lib.hid hb1
    have A1 := Lib.hid at1
    clear x0 x1 d1 d2
    obtain ⟨y0, y1⟩ := XB.out _ hb1
    clear hb1 ho1 at1
    go_wp2_with fail
    refine (JH.out _ T1.out).mono ?_
    rintro e w2 ⟨v2, rfl, ho2, hb2⟩
    obtain ⟨a2, c2, rfl, at2, -⟩ := ho2.at
    have T2 := Lib.hid (T1.out.trans (hb2.mono T1.out.size))
    have A2 := Lib.hid at2
    have A1' := Lib.hid (A1.out.keep hb2 (Nat.le_refl _))
    have e1 := CB.out _ T2.out
    have hbs := T2.out.size
    have hbw1 : b < w2.heap.size := Nat.lt_of_lt_of_le (Nat.lt_of_lt_of_le hbw HB.out.size) hbs
    clear hb2 ho2 at2 y0 y1 hbs
    go_wp2_with (go_at_call 116; refine (PK.out _).mono ?_; rintro e w' ⟨rfl, rfl⟩)
    refine (linkPoints_any _ (trP f x).enc (trP g x).enc _ _ _ _ _ _ _ (by rw [Pt.enc_len, Pt.enc_len]; exact ZZ.out) (by rw [Pt.enc_len]; exact p1) (by rw [Pt.enc_len]; exact p2) A1'.out A2.out).mono ?_
    rintro e w3 ⟨v3, rfl, ho3, hb3⟩
    have B3 := Lib.hid (HB.out.trans ((T2.out.trans (hb3.mono T2.out.size)).mono HB.out.size))
    have O3 := Lib.hid (ho3.mono (Nat.le_trans HB.out.size T2.out.size))
    clear hb3 ho3
    go_wp2
    go_ret2
    exact ⟨_, (by rw [HN.out] <;> rfl), O3.out, B3.out⟩

theorem writeP_all (f : Fm) (hf : f.ok) : WrC f := by
  induction f with
  | va s => exact wr_va s
  | fa => exact wr_fa
  | un k a ih => exact wr_un k a hf (ih hf.2)
  | bi k a b iha ihb => exact wr_bi k a b hf (iha hf.2.1) (ihb hf.2.2)

end Go.Proofs.Ytfdoecnpnfojpaa
