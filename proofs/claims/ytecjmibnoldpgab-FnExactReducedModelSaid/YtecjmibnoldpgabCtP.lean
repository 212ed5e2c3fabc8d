/- Contracts of linkIn and BisimulationClasses of the program. Conditions: those in the theorems. -/
import Derived.Test.YtecjmibnoldpgabCtS
import Derived.Test.YtecjmibnoldpgabJn22
namespace Go.Proofs.Ytecjmibnoldpgab
open Go.RowKit

/-- A row of masks, one of which is under way. -/
theorem kz_start (F : Nat → Int) (n : Nat) : tab n (ktF F (fun _ => 0) 0 0) = tab n (fun _ => 0) := by
  unfold tab
  refine List.map_congr_left fun t _ => ?_
  unfold ktF
  rw [if_neg (by omega)]
  split <;> rfl

set_option maxHeartbeats 2000000 in
set_option maxRecDepth 100000 in
theorem linkIn_any (cs : List Int) (A B : Nat) (a : Option Addr) (cap : Nat) (w : World) (hA : A ≤ 30) (hB : B ≤ 30) (hl : cs.length = A + B) (hcap : A + B ≤ cap) (h : At w a cs.length cs) :
    Calls Try.prog 46 #[.slice a cs.length cap, .int .i64 A] w fun e w' => ∃ v, e = .returned v ∧ Own w' w.heap.size v (liL cs A B) ∧ Below w.heap.size w w' := by
  have hmk := fun (W : World) => run_make_row' (P := Try.prog) 22 2 (.int .i64 0) 8 Try.underlying22 info64 rfl .i64 .i64 A (by omega) (by omega) W
  have H := Lib.hid h
  have HL := Lib.hid hl
  rw [hl]
  have hr0 := Lib.hid (World.rowIs_made w (.int .i64 0) A 2)
  clear h hl
  go_enter Try.func46, Try.ntmps46
  go_wp2
  clear hmk
  go_loopw [13] (fun i wr => ∃ x : Nat, x ≤ A ∧ i = .int .i64 x ∧ Hid (wr.rowIs w.heap.size 2 A (fun t => .int .i64 (ktF (fun x => mkT (fun y => nth cs (A + y) == nth cs x) B) (fun _ => 0) x 0 t))) ∧ Hid (Below w.heap.size w wr)) (fun i _ => A - (intOf i).toNat)
  case atStart => exact ⟨0, Nat.zero_le _, rfl, Lib.hid (hr0.out.congr fun t _ => by unfold ktF; rw [if_neg (by omega)]; split <;> rfl), Lib.hid ((Below.refl _ _).alloc (Nat.le_refl _) _)⟩
  case round =>
    obtain ⟨x, hx, rfl, R, BL⟩ := hrel
    by_cases hlt : x < A
    · obtain ⟨b, off, rfl, hb, hc⟩ := (H.out.keep BL.out (Nat.le_refl _)).2.resolve_left (by have := HL.out; omega)
      have HC := Lib.hid hc
      have hblk : b < w.heap.size := by
        obtain ⟨b', off', e, hb', -⟩ := H.out.2.resolve_left (by have := HL.out; omega)
        cases e; exact hb'
      clear hc
      by_cases hB0 : B = 0
      · subst hB0
        have hAB : A + 0 = A := rfl
        by_cases hcA : cap = A
        · subst hcA
          go_wp2
          refine wp_loop_rounds 1 ?_
          rw [rounds_succ]
          go_wp2
          go_roundw
          case rel => exact ⟨x + 1, hlt, by go_num, Lib.hid (R.out.congr fun t _ => by rw [← kt_next]; rfl), BL⟩
          case measure => simp [intOf]; omega
        · have hca : ¬ cap = A := hcA
          go_wp2
          refine wp_loop_rounds 1 ?_
          rw [rounds_succ]
          go_wp2
          go_roundw
          case rel => exact ⟨x + 1, hlt, by go_num, Lib.hid (R.out.congr fun t _ => by rw [← kt_next]; rfl), BL⟩
          case measure => simp [intOf]; omega
      · have hca : ¬ cap = A := by omega
        obtain ⟨wo, rfl⟩ : ∃ wo : World, wo = wr := ⟨_, rfl⟩
        go_wp2
        go_loopw [20] (fun i wr => ∃ y : Nat, y ≤ B ∧ i = .int .i64 y ∧ Hid (wr.rowIs w.heap.size 2 A (fun t => .int .i64 (ktF (fun x => mkT (fun y => nth cs (A + y) == nth cs x) B) (fun _ => 0) x (mkT (fun y => nth cs (A + y) == nth cs x) y) t))) ∧ Hid (Below w.heap.size w wr)) (fun i _ => B - (intOf i).toNat)
        case atStart => exact ⟨0, Nat.zero_le _, rfl, R, BL⟩
        case round =>
          obtain ⟨y, hy, rfl, R2, BL2⟩ := hrel
          by_cases hly : y < B
          · obtain ⟨b2, off2, e2, hb2, hc2⟩ := (H.out.keep BL2.out (Nat.le_refl _)).2.resolve_left (by have := HL.out; omega)
            cases e2
            have g1 : wr.cell? ⟨b, off + A + y, none⟩ = some (.int .i64 (nth cs (A + y))) := by rw [Nat.add_assoc]; exact hc2 (A + y) (by have := HL.out; omega)
            have g2 := hc2 x (by have := HL.out; omega)
            clear hc2
            have hcg : wr.cell? ⟨w.heap.size, x, none⟩ = some (.int .i64 (ktF (fun x => mkT (fun y => nth cs (A + y) == nth cs x) B) (fun _ => 0) x (mkT (fun y => nth cs (A + y) == nth cs x) y) x)) := R2.out.cell hlt
            have hfg : wr.frozen? ⟨w.heap.size, x, none⟩ = false := R2.out.frozen x
            rw [kt_at] at hcg
            obtain ⟨p, hp⟩ : ∃ p, p = nth cs (A + y) := ⟨_, rfl⟩
            obtain ⟨q, hq⟩ : ∃ q, q = nth cs x := ⟨_, rfl⟩
            rw [← hp] at g1
            rw [← hq] at g2
            have E := Lib.hid (show (nth cs (A + y) == nth cs x) = (p == q) by rw [hp, hq])
            clear hp hq
            cases hpq : (p == q)
            · have E2 := Lib.hid (E.out.trans hpq)
              go_wp2
              go_roundw
              case rel => exact ⟨y + 1, hly, by go_num, Lib.hid (by rw [mkT, E2.out]; exact R2.out), BL2⟩
              case measure => simp [intOf]; omega
            · have E2 := Lib.hid (E.out.trans hpq)
              go_wp2
              go_region
              all_goals
                go_wp2
                go_roundw
                case rel => exact ⟨y + 1, hly, by go_num, Lib.hid (row_setI (show World.rowIs (World.drew _) _ _ _ _ from R2.out) (fun t => kt_set (by rw [mkT, E2.out]; rfl) t)), Lib.hid ((BL2.out.drew).setCell (p := ⟨w.heap.size, x, none⟩) (Nat.le_refl _) _)⟩
                case measure => simp [intOf]; omega
          · obtain rfl : y = B := by omega
            go_wp2
            go_roundw
            case rel => exact ⟨x + 1, hlt, by go_num, Lib.hid (R2.out.congr fun t _ => by rw [← kt_next]), BL2⟩
            case measure => simp [intOf]; omega
    · obtain rfl : x = A := by omega
      have HR := Lib.hid (R.out.congr (g := fun t => .int .i64 (mkT (fun y => nth cs (x + y) == nth cs t) B)) fun t ht => by show Value.int .i64 (ktF _ _ _ _ _) = _; unfold ktF; rw [if_pos ht])
      go_wp2
      go_ret
      exact ⟨_, rfl, own_of_row (F := fun t => mkT (fun y => nth cs (x + y) == nth cs t) B) (Nat.le_refl _) (by omega) HR.out, BL.out⟩

def bcC (n : Int) (xs ys : List Int) : Int := if isM n xs ys then 0 else 1
noncomputable def bcL (n : Int) (xs ys : List Int) : List Int := if isM n xs ys then cLs xs.length xs ys 16 else []
theorem isM_sm {n : Int} {xs ys : List Int} (h : isM n xs ys = true) : Sm1 xs ys := by
  obtain ⟨-, e2, e3, e4⟩ := isM_rel h
  exact ⟨by omega, e3, e4⟩
theorem cLs_far {xs ys : List Int} {n K j : Nat} (h : cLs n xs ys K = cLs n xs ys (K + 1)) (hj : K ≤ j) : cLs n xs ys j = cLs n xs ys K := by
  obtain ⟨d, rfl⟩ := Nat.exists_eq_add_of_le hj
  exact cLs_stay h d

set_option maxHeartbeats 1000000 in
theorem implBisimulationClasses_v (n : Int) (xs ys : List Int) (v : Value) (lo hi : Nat) (w : World) (hl : xs.length ≤ 1048576) (hm : ys.length ≤ 1048576) (h : InM w lo hi v n xs ys) :
    Calls Try.prog 12 #[v] w fun e w' => ∃ v, e = .returned (.tuple #[v, .int .i64 (bcC n xs ys)]) ∧ Own w' w.heap.size v (bcL n xs ys) ∧ Below w.heap.size w w' := by
  obtain ⟨a, cap, b, d, rfl, hat, hat', -⟩ := h.at
  obtain ⟨W, hW, hb0, hx, hWs⟩ := boxM (w := w) n a xs.length cap b ys.length d 32
  have HB := Lib.hid hb0
  have X := Lib.hid hx
  have H := Lib.hid (hat.keep hb0 (Nat.le_refl _))
  have H' := Lib.hid (hat'.keep hb0 (Nat.le_refl _))
  have HW := Lib.hid hW
  have hws := hb0.size
  clear h hat hat' hb0 hx hW hWs
  cases hf : isM n xs ys
  · have F := Lib.hid hf
    have C := Lib.hid (show bcC n xs ys = 1 ∧ bcL n xs ys = [] by rw [bcC, bcL, hf]; exact ⟨rfl, rfl⟩)
    clear hf
    go_enter Try.func12, Try.ntmps12
    go_wp2_with fail
    rw [← HW.out]
    refine (implIsModel_any n xs ys _ _ _ _ _ _ _ hl hm H.out H'.out).mono ?_
    rw [F.out]
    rintro e w1 ⟨rfl, hb⟩
    have B1 := Lib.hid (HB.out.trans (hb.mono HB.out.size))
    clear hb
    go_wp2
    go_ret2
    exact ⟨_, out_c C.out.1, by rw [C.out.2]; exact World.ownsRow_nil _ _ _ _, B1.out⟩
  · have F := Lib.hid hf
    have C := Lib.hid (show bcC n xs ys = 0 ∧ bcL n xs ys = cLs xs.length xs ys 16 by rw [bcC, bcL, hf]; exact ⟨rfl, rfl⟩)
    have SM := Lib.hid (isM_sm hf)
    obtain ⟨-, e1, e2, -, e3, -⟩ := isM_ok hf
    have NX := Lib.hid e1
    have Y6 := Lib.hid e3
    clear hf e1 e3
    go_enter Try.func12, Try.ntmps12
    go_wp2_with fail
    rw [← HW.out]
    refine (implIsModel_any n xs ys _ _ _ _ _ _ _ hl hm H.out H'.out).mono ?_
    rw [F.out]
    rintro e w1 ⟨rfl, hb⟩
    have T1 := Lib.hid hb
    clear hb
    obtain ⟨lt, x0, x1, x2⟩ := X.out.keep T1.out
    go_wp2_with fail
    clear x0 x1 x2
    refine (contestIn_any n xs ys _ _ _ _ _ SM.out NX.out Y6.out (H.out.keep T1.out (Nat.le_refl _)) (H'.out.keep T1.out (Nat.le_refl _))).mono ?_
    rintro e w2 ⟨K, vR, us, rfl, hr, hst, hne, hb⟩
    have T2 := Lib.hid (T1.out.trans (hb.mono T1.out.size))
    obtain ⟨aR, cR, rfl, hg⟩ := hr.form
    obtain ⟨g, rfl, hg1, hg2, hgc⟩ := hg.resolve_left (by omega)
    obtain ⟨aj, cj, euj, hoj⟩ := hr.2 K (by omega)
    have UJ := (hgc K (by omega)).trans euj
    have hK := stop_le SM.out hne
    have E16 := Lib.hid (show cLs xs.length xs ys 16 = cLs xs.length xs ys K from cLs_far hst (by omega))
    have OJ := Lib.hid hoj
    have h1s : W.heap.size ≤ w1.heap.size := T1.out.size
    clear hr hst hne hb hg hgc euj hoj
    go_wp2_with fail
    refine (last_any _ _ _ _ _ _ _ g K cR _ w2 (by omega) hg2 UJ).mono ?_
    rintro e w3 ⟨rfl, hb⟩
    have T3 := Lib.hid (T2.out.trans (hb.mono T2.out.size))
    have O3 := Lib.hid (OJ.out.keep hb (Nat.le_refl _))
    clear hb UJ
    go_wp2
    go_ret2
    exact ⟨_, out_c C.out.1, by rw [C.out.2, E16.out]; exact O3.out.mono (by omega), HB.out.trans (T3.out.mono HB.out.size)⟩

end Go.Proofs.Ytecjmibnoldpgab
