/- Contracts of linkIn and BisimulationClasses of the program. Conditions: those in the theorems. -/
import Derived.Test.YtckilaeolkgnkaaCtS
import Derived.Test.YtckilaeolkgnkaaJn17
namespace Go.Proofs.Ytckilaeolkgnkaa
open Go.RowKit

/-- A row of masks, one of which is under way. -/
theorem kz_start (F : Nat → Int) (n : Nat) : tab n (ktF F (fun _ => 0) 0 0) = tab n (fun _ => 0) := by
  unfold tab
  refine List.map_congr_left fun t _ => ?_
  unfold ktF
  rw [if_neg (by omega)]
  split <;> rfl

def bcC (n : Int) (xs ys : List Int) : Int := if isM n xs ys then 0 else 1
noncomputable def bcL (n : Int) (xs ys : List Int) : List Int := if isM n xs ys then cLs xs.length xs ys 16 else []
theorem isM_sm {n : Int} {xs ys : List Int} (h : isM n xs ys = true) : Sm1 xs ys := by
  obtain ⟨-, e2, e3, e4⟩ := isM_rel h
  exact ⟨by omega, e3, e4⟩
theorem cLs_far {xs ys : List Int} {n K j : Nat} (h : cLs n xs ys K = cLs n xs ys (K + 1)) (hj : K ≤ j) : cLs n xs ys j = cLs n xs ys K := by
  obtain ⟨d, rfl⟩ := Nat.exists_eq_add_of_le hj
  exact cLs_stay h d

set_option maxHeartbeats 1000000 in
theorem implBisimulationClasses_v (n : Int) (xs ys : List Int) (v : Value) (lo hi : Nat) (w : World) (hl : xs.length ≤ 1048576) (hm : ys.length ≤ 1048576) (h : InM w lo hi v n xs ys) :
    Calls Try.prog 50 #[v] w fun e w' => ∃ v, e = .returned (.tuple #[v, .int .i64 (bcC n xs ys)]) ∧ Own w' w.heap.size v (bcL n xs ys) ∧ Below w.heap.size w w' := by
  obtain ⟨a, cap, b, d, rfl, hat, hat', -⟩ := h.at
  obtain ⟨W, hW, hb0, hx, hWs⟩ := boxM (w := w) n a xs.length cap b ys.length d 48
  have HB := Lib.hid hb0
  have X := Lib.hid hx
  have H := Lib.hid (hat.keep hb0 (Nat.le_refl _))
  have H' := Lib.hid (hat'.keep hb0 (Nat.le_refl _))
  have HW := Lib.hid hW
  have hws := hb0.size
  clear h hat hat' hb0 hx hW hWs
  cases hf : isM n xs ys
  · have F := Lib.hid hf
    have C := Lib.hid (show bcC n xs ys = 1 ∧ bcL n xs ys = [] by rw [bcC, bcL, hf]; exact ⟨rfl, rfl⟩)
    clear hf
    go_enter Try.func50, Try.ntmps50
    go_wp2_with fail
    rw [← HW.out]
    refine (implIsModel_any n xs ys _ _ _ _ _ _ _ hl hm H.out H'.out).mono ?_
    rw [F.out]
    rintro e w1 ⟨rfl, hb⟩
    have B1 := Lib.hid (HB.out.trans (hb.mono HB.out.size))
    clear hb
    go_wp2
    go_ret2
    exact ⟨_, out_c C.out.1, by rw [C.out.2]; exact World.ownsRow_nil _ _ _ _, B1.out⟩
  · have F := Lib.hid hf
    have C := Lib.hid (show bcC n xs ys = 0 ∧ bcL n xs ys = cLs xs.length xs ys 16 by rw [bcC, bcL, hf]; exact ⟨rfl, rfl⟩)
    have SM := Lib.hid (isM_sm hf)
    obtain ⟨-, e1, e2, -, e3, -⟩ := isM_ok hf
    have NX := Lib.hid e1
    have Y6 := Lib.hid e3
    clear hf e1 e3
    go_enter Try.func50, Try.ntmps50
    go_wp2_with fail
    rw [← HW.out]
    refine (implIsModel_any n xs ys _ _ _ _ _ _ _ hl hm H.out H'.out).mono ?_
    rw [F.out]
    rintro e w1 ⟨rfl, hb⟩
    have T1 := Lib.hid hb
    clear hb
    obtain ⟨lt, x0, x1, x2⟩ := X.out.keep T1.out
    go_wp2_with fail
    clear x0 x1 x2
    refine (contestIn_any n xs ys _ _ _ _ _ SM.out NX.out Y6.out (H.out.keep T1.out (Nat.le_refl _)) (H'.out.keep T1.out (Nat.le_refl _))).mono ?_
    rintro e w2 ⟨K, vR, us, rfl, hr, hst, hne, hb⟩
    have T2 := Lib.hid (T1.out.trans (hb.mono T1.out.size))
    obtain ⟨aR, cR, rfl, hg⟩ := hr.form
    obtain ⟨g, rfl, hg1, hg2, hgc⟩ := hg.resolve_left (by omega)
    obtain ⟨aj, cj, euj, hoj⟩ := hr.2 K (by omega)
    have UJ := (hgc K (by omega)).trans euj
    have hK := stop_le SM.out hne
    have E16 := Lib.hid (show cLs xs.length xs ys 16 = cLs xs.length xs ys K from cLs_far hst (by omega))
    have OJ := Lib.hid hoj
    have h1s : W.heap.size ≤ w1.heap.size := T1.out.size
    clear hr hst hne hb hg hgc euj hoj
    go_wp2_with fail
    refine (last_any _ _ _ _ _ _ _ g K cR _ w2 (by omega) hg2 UJ).mono ?_
    rintro e w3 ⟨rfl, hb⟩
    have T3 := Lib.hid (T2.out.trans (hb.mono T2.out.size))
    have O3 := Lib.hid (OJ.out.keep hb (Nat.le_refl _))
    clear hb UJ
    go_wp2
    go_ret2
    exact ⟨_, out_c C.out.1, by rw [C.out.2, E16.out]; exact O3.out.mono (by omega), HB.out.trans (T3.out.mono HB.out.size)⟩

end Go.Proofs.Ytckilaeolkgnkaa
