/- Contracts of the model's functions that draw frames. Conditions: those in the theorems. -/
import Derived.Test.YtckilaeolkgnkaaDraw3
import Derived.Test.YtckilaeolkgnkaaMk
import Derived.Test.YtckilaeolkgnkaaFlQ
namespace Go.Proofs.Ytckilaeolkgnkaa
open Go.RowKit

theorem Bz.grown {w w' : World} {r b : Nat} (h : Bz w r) (hg : w.grownBy w' (some b)) (hne : r ≠ b) : Bz w' r := by
  have e := hg.block r h.1 (by intro q; injection q with q; exact hne q)
  refine ⟨Nat.lt_of_lt_of_le h.1 hg.size, ?_, ?_, ?_, ?_⟩
  · rw [← h.2.1]; unfold World.cell?; rw [e]
  · rw [← h.2.2.1]; unfold World.cell?; rw [e]
  · rw [← h.2.2.2.1]; unfold World.frozen?; rw [e]
  · rw [← h.2.2.2.2]; unfold World.frozen?; rw [e]
theorem grown_low {w w' : World} (h : Below w.heap.size w w') (r : Option Nat) : w.grownBy w' r := ⟨h.os, h.tape, h.output, h.size, fun k hk _ => h.block k hk⟩
theorem grown_out {w w1 : World} {b R o : Nat} {v : Value} (h : w.grownBy w1 (some b)) (hR : w.heap.size ≤ R) : w.grownBy (w1.setCell ⟨R, o, none⟩ v) (some b) :=
  ⟨h.os, h.tape, h.output, Nat.le_trans h.size (grown_set w1 R o v).size, fun i hi hne => ((grown_set w1 R o v).block i (Nat.lt_of_lt_of_le hi h.size) (fun e => by injection e with e; omega)).trans (h.block i hi hne)⟩

theorem rowM {w : World} {B B' : Nat} {e : TypeId} {sz : Nat} {v : Value} {n : Nat} {xs : List Value} (h : w.ownsRow B e sz v n xs) (hB : B' ≤ B) : w.ownsRow B' e sz v n xs := by
  refine ⟨h.1, ?_⟩
  rcases h.2 with h2 | ⟨g, cap, cur, hv, hg, r⟩
  · exact .inl h2
  · exact .inr ⟨g, cap, cur, hv, Nat.le_trans hB hg, r⟩

/-- What l05Some hands back. -/
def SomeF (w : World) (b m : Nat) (a : Option Addr) (len cap : Nat) (e : Ending) (w' : World) : Prop :=
  (∃ v xs, e = .returned v ∧ OwnF w' w.heap.size v xs.length xs ∧ xs.length ≤ m) ∧ Src w' b a len cap ∧ w.grownBy w' (some b)

set_option maxHeartbeats 30000000 in
set_option maxRecDepth 100000 in
theorem l05Some_any (b : Nat) (a : Option Addr) (len cap m : Nat) (w : World) (B : Nat) (hBb : B ≤ b) (hBw : B ≤ w.heap.size) (hm : m ≤ 8) (hs : Src w b a len cap) (hc : Code B w a len) :
    Calls Try.prog 71 #[.pointer (some ⟨b, 0, none⟩), .int .i64 m] w fun e w' => SomeF w b m a len cap e w' := by
  obtain ⟨W, hW⟩ : ∃ W, W = w.alloc (.cells #[.int .i64 0, .slice none 0 0] 28) := ⟨_, rfl⟩
  have hbw := hs.lt
  have HS := Lib.hid (show Src W b a len cap by rw [hW]; exact hs.alloc _)
  have HC := Lib.hid (show Code B W a len by rw [hW]; exact hc.alloc _ hBw)
  have Z := Lib.hid (show Bz W w.heap.size by rw [hW]; exact Bz.new w)
  have hWs : W.heap.size = w.heap.size + 1 := by rw [hW]; simp
  have hBW : B ≤ W.heap.size := by omega
  have GW := Lib.hid (show w.grownBy W (some b) by rw [hW]; exact World.grownBy_alloc w _ _)
  have HW := Lib.hid hW
  clear hs hc hW
  go_enter Try.func71, Try.ntmps71
  go_wp2_with fail
  rw [← HW.out]
  refine (l01Next_any b a len cap _ _ B hBb HS.out HC.out).mono ?_
  rintro e w1 ⟨n, rfl, hn, hs1, hg1⟩
  have hn8 : n ≤ m := by rcases hn with ⟨h1, h2⟩ | h1 <;> omega
  have HS1 := Lib.hid hs1
  have HC1 := Lib.hid (HC.out.grown hg1 hBb hBW)
  have hB1 : B ≤ w1.heap.size := Nat.le_trans hBW hg1.size
  have G1 := Lib.hid hg1
  have hz1 : w.heap.size + 1 ≤ w1.heap.size := by have := hg1.size; omega
  clear hn hs1 hg1
  go_wp2_with fail
  refine (l01Next_any b a len cap 3 _ B hBb (HS1.out.alloc _) (HC1.out.alloc _ hB1)).mono ?_
  rintro e w2 ⟨thin, rfl, hthin, hs2, hg2⟩
  have ht3 : thin ≤ 3 := by rcases hthin with ⟨h1, h2⟩ | h1 <;> omega
  have G2 := Lib.hid (grown_trans (grown_alloc G1.out _) hg2)
  have HS2 := Lib.hid hs2
  have HL := Lib.hid (World.ownsRow.kept (World.ownsRow_lit (e := 2) (size := 1) w1 #[] 0 (Nat.le_refl _) (by unfold maxLen; omega) rfl) hg2 (by right; intro e; have e' : w1.heap.size = b := (by injection e); omega))
  clear hs2 hg2 hthin
  go_wp2
  go_loopw [6, 8] (fun v i wr => ∃ (k g c : Nat) (xs : List Int), k ≤ n ∧ Hid (xs.length = k) ∧ i = .int .i64 k ∧ v = .slice (some ⟨g, 0, none⟩) k c ∧ w.heap.size + 1 ≤ g ∧ Hid (wr.ownsRow (w.heap.size + 1) 2 1 (.slice (some ⟨g, 0, none⟩) k c) k (xs.map (Value.int .i64))) ∧ Hid (Src wr b a len cap) ∧ Hid (W.grownBy wr (some b))) (fun _ i _ => n - (intOf i).toNat)
  case atStart => exact ⟨0, _, _, [], Nat.zero_le _, Lib.hid rfl, rfl, rfl, by omega, Lib.hid (rowM HL.out hz1), HS2, G2⟩
  case round =>
    obtain ⟨k, g, c, xs, hk, HX, rfl, rfl, hg, HO, HS3, G3⟩ := hrel
    have HC3 := Lib.hid (HC.out.grown G3.out hBb hBW)
    have hB3 : B ≤ wr.heap.size := Nat.le_trans hBW G3.out.size
    have hgb : g ≠ b := by omega
    by_cases hlt : k < n
    · go_wp2_with (go_at_call 75; refine (l01Full_any _ _ (by omega) (by omega)).mono ?_; rintro e w' ⟨rfl, rfl⟩)
      refine (l01Next_any b a len cap _ _ B hBb HS3.out HC3.out).mono ?_
      rintro e w3 ⟨y, rfl, -, hs4, hg4⟩
      have HS4 := Lib.hid hs4
      have G4 := Lib.hid (grown_trans G3.out hg4)
      have HO4 := Lib.hid (World.ownsRow.kept HO.out hg4 (by right; intro e; injection e with e; exact hgb e))
      clear hs4 hg4
      go_wp2
      go_loopw [9, 10] (fun mk i wr => ∃ (j : Nat) (z : Int), j ≤ thin ∧ i = .int .i64 j ∧ mk = .int .i64 z ∧ Hid (wr.ownsRow (w.heap.size + 1) 2 1 (.slice (some ⟨g, 0, none⟩) k c) k (xs.map (Value.int .i64))) ∧ Hid (Src wr b a len cap) ∧ Hid (W.grownBy wr (some b))) (fun _ i _ => thin - (intOf i).toNat)
      case atStart => exact ⟨0, y, Nat.zero_le _, rfl, rfl, HO4, HS4, G4⟩
      case round =>
        obtain ⟨j, z, hj, rfl, rfl, HO5, HS5, G5⟩ := hrel
        have HC5 := Lib.hid (HC.out.grown G5.out hBb hBW)
        by_cases hjl : j < thin
        · go_wp2_with (go_at_call 75; refine (l01Full_any _ _ (by omega) (by omega)).mono ?_; rintro e w' ⟨rfl, rfl⟩)
          refine (l01Next_any b a len cap _ _ B hBb HS5.out HC5.out).mono ?_
          rintro e w6 ⟨u, rfl, -, hs6, hg6⟩
          have HS6 := Lib.hid hs6
          have G6 := Lib.hid (grown_trans G5.out hg6)
          have HO6 := Lib.hid (World.ownsRow.kept HO5.out hg6 (by right; intro e; injection e with e; exact hgb e))
          clear hs6 hg6
          go_wp2
          go_roundw
          case rel => exact ⟨j + 1, _, hjl, by go_num, rfl, HO6, HS6, G6⟩
          case measure => simp [intOf]; omega
        · obtain rfl : j = thin := by omega
          have hzr := G5.out.size
          have hbr := HS5.out.lt
          go_wp2_with (at_builtin; refine list_app1L rfl _ _ rfl (w.heap.size + 1) _ k _ rfl (HO5.out.alloc _) ⟨wr.heap.size, 0, none⟩ 1 _ rfl (World.cell?_alloc_at _ _ _ _ rfl) (by omega) (by simp; omega) ?_; intro g4 c4 w4 hown4 hgr4 hgg)
          have HO7 := Lib.hid hown4
          have HS7 : Hid (Src w4 b a len cap) := Lib.hid ((HS5.out.alloc _).other hgr4 (by intro e; injection e with e; exact hgb e))
          have hg4 : w.heap.size + 1 ≤ g4 := by
            rcases hgg with h | h
            · have h' : g = g4 := by injection h
              omega
            · rw [h]; simp; omega
          have G7 := Lib.hid (show W.grownBy w4 (some b) from by
            have g5 := G5.out
            refine ⟨hgr4.os.trans g5.os, hgr4.tape.trans g5.tape, hgr4.output.trans g5.output, ?_, fun i hi hne => ?_⟩
            · have := hgr4.size; simp at this; omega
            · rw [hgr4.block i (by simp; omega) (by intro e; have e' : i = g := (by injection e); omega), (World.grownBy_alloc _ _ none).block i (by omega) (by intro e; cases e), g5.block i hi hne])
          clear hown4 hgr4 hgg
          go_roundw
          case rel => exact ⟨k + 1, g4, c4, _ ++ [_], hlt, Lib.hid (by rw [List.length_append, HX.out]; rfl), by go_num, rfl, hg4, Lib.hid (by have ho := HO7.out; rw [List.map_append]; exact ho), HS7, G7⟩
          case measure => simp [intOf]; omega
    · obtain rfl : k = n := by omega
      have hx := HX.out
      subst hx
      go_wp2_with fail
      refine (l01Next_any b a len cap 8 _ B hBb HS3.out HC3.out).mono ?_
      rintro e w4 ⟨y, rfl, hy, hs4, hg4⟩
      have S4 := Lib.hid hs4
      have G4 := Lib.hid (grown_trans G3.out hg4)
      have O4 := Lib.hid (World.ownsRow.kept HO.out hg4 (by right; intro e; injection e with e; exact hgb e))
      clear hs4 hg4 hy
      have OW := Lib.hid (own_len_cast O4.out rfl)
      obtain ⟨a5, k5, e5, hat5, -, -, -⟩ := OW.out.at
      cases e5
      have H5 := Lib.hid hat5
      clear hat5
      by_cases h0 : y = 0
      · subst h0
        go_wp2_with fail
        refine (l01Reflexive_any xs _ _ _ _ (by have := hn8; have := hn8; omega) H5.out).mono ?_
        rintro e w6 ⟨v6, rfl, ho, hb⟩
        obtain ⟨a6, k6, e6, hat6, -, hn6, -⟩ := (show Own w6 _ v6 (rfTo xs xs.length) from ho).at
        subst e6
        have H6 := Lib.hid hat6
        have N6 := Lib.hid hn6
        have G6 := Lib.hid (grown_trans G4.out (grown_low hb (some b)))
        have S6 := Lib.hid (S4.out.other (grown_low hb none) (by intro e; cases e))
        clear ho hb hat6 hn6
        have HE := H6
        have NE := N6
        have GE := G6
        have SE := S6
        have ZE := Lib.hid (Z.out.grown GE.out (by omega))
        have HLE := Lib.hid (show (rfTo xs xs.length).length = xs.length from rfTo_len _ _)
        go_wp2_with fail
        refine (l05Make_any (rfTo xs xs.length) _ _ _ _ (by have := HLE.out; omega) HE.out NE.out).mono ?_
        rintro e w9 ⟨v3, rfl, ho, hb⟩
        have hz9 := GE.out.size
        obtain ⟨a3, k3, rfl⟩ := ho.form
        obtain ⟨lt, z0, z1, z2, z3⟩ := ZE.out.keep hb
        have G9 := Lib.hid (grown_trans GW.out (grown_trans GE.out (grown_low hb (some b))))
        have S9 := Lib.hid (SE.out.other (grown_low hb none) (by intro e; cases e))
        have O9 := Lib.hid ho
        clear ho hb
        go_wp2
        exact bodyPost_ret (v := .agg #[.int .i64 (rfTo xs xs.length).length, .slice a3 (rfTo xs xs.length).length k3]) (by simp [results, Try.results71, go_sem, z0, z1]) rfl ⟨⟨_, rfTo xs xs.length, rfl, (O9.out.out2 (by omega)).mono (by omega), by have := HLE.out; omega⟩, (S9.out.other (grown_set _ _ _ _) (by intro e; have e' : w.heap.size = b := (by injection e); omega)).other (grown_set _ _ _ _) (by intro e; have e' : w.heap.size = b := (by injection e); omega), grown_out (grown_out G9.out (Nat.le_refl _)) (Nat.le_refl _)⟩
      · by_cases h1 : y = 1
        · subst h1
          go_wp2_with fail
          refine (l01Closure_any xs _ _ _ _ (by omega) H5.out (fun h => by cases h)).mono ?_
          rintro e w6 ⟨v6, rfl, ho, hb⟩
          obtain ⟨a6, k6, e6, hat6, -, hn6, -⟩ := (show Own w6 _ v6 (csL xs) from ho).at
          subst e6
          have H6 := Lib.hid hat6
          have N6 := Lib.hid hn6
          have G6 := Lib.hid (grown_trans G4.out (grown_low hb (some b)))
          have S6 := Lib.hid (S4.out.other (grown_low hb none) (by intro e; cases e))
          clear ho hb hat6 hn6
          have HE := H6
          have NE := N6
          have GE := G6
          have SE := S6
          have ZE := Lib.hid (Z.out.grown GE.out (by omega))
          have HLE := Lib.hid (show (csL xs).length = xs.length from tab_len _ _)
          go_wp2_with fail
          refine (l05Make_any (csL xs) _ _ _ _ (by have := HLE.out; omega) HE.out NE.out).mono ?_
          rintro e w9 ⟨v3, rfl, ho, hb⟩
          have hz9 := GE.out.size
          obtain ⟨a3, k3, rfl⟩ := ho.form
          obtain ⟨lt, z0, z1, z2, z3⟩ := ZE.out.keep hb
          have G9 := Lib.hid (grown_trans GW.out (grown_trans GE.out (grown_low hb (some b))))
          have S9 := Lib.hid (SE.out.other (grown_low hb none) (by intro e; cases e))
          have O9 := Lib.hid ho
          clear ho hb
          go_wp2
          exact bodyPost_ret (v := .agg #[.int .i64 (csL xs).length, .slice a3 (csL xs).length k3]) (by simp [results, Try.results71, go_sem, z0, z1]) rfl ⟨⟨_, csL xs, rfl, (O9.out.out2 (by omega)).mono (by omega), by have := HLE.out; omega⟩, (S9.out.other (grown_set _ _ _ _) (by intro e; have e' : w.heap.size = b := (by injection e); omega)).other (grown_set _ _ _ _) (by intro e; have e' : w.heap.size = b := (by injection e); omega), grown_out (grown_out G9.out (Nat.le_refl _)) (Nat.le_refl _)⟩
        · by_cases h2 : y = 2
          · subst h2
            go_wp2_with fail
            refine (l01Closure_any xs _ _ _ _ (by omega) H5.out (fun h => by cases h)).mono ?_
            rintro e w6 ⟨v6, rfl, ho, hb⟩
            obtain ⟨a6, k6, e6, hat6, -, hn6, -⟩ := (show Own w6 _ v6 (csL xs) from ho).at
            subst e6
            have H6 := Lib.hid hat6
            have N6 := Lib.hid hn6
            have G6 := Lib.hid (grown_trans G4.out (grown_low hb (some b)))
            have S6 := Lib.hid (S4.out.other (grown_low hb none) (by intro e; cases e))
            clear ho hb hat6 hn6
            have HCL := Lib.hid (show (csL xs).length = xs.length from tab_len _ _)
            go_wp2_with fail
            refine (l01Reflexive_any (csL xs) _ _ _ _ (by have := hn8; have := HCL.out; omega) H6.out).mono ?_
            rintro e w7 ⟨v7, rfl, ho, hb⟩
            obtain ⟨a7, k7, e7, hat7, -, hn7, -⟩ := (show Own w7 _ v7 (rfTo (csL xs) (csL xs).length) from ho).at
            subst e7
            have H7 := Lib.hid hat7
            have N7 := Lib.hid hn7
            have G7 := Lib.hid (grown_trans G6.out (grown_low hb (some b)))
            have S7 := Lib.hid (S6.out.other (grown_low hb none) (by intro e; cases e))
            clear ho hb hat7 hn7
            have HE := H7
            have NE := N7
            have GE := G7
            have SE := S7
            have ZE := Lib.hid (Z.out.grown GE.out (by omega))
            have HLE := Lib.hid (show (rfTo (csL xs) (csL xs).length).length = xs.length from by rw [rfTo_len]; exact HCL.out)
            go_wp2_with fail
            refine (l05Make_any (rfTo (csL xs) (csL xs).length) _ _ _ _ (by have := HLE.out; omega) HE.out NE.out).mono ?_
            rintro e w9 ⟨v3, rfl, ho, hb⟩
            have hz9 := GE.out.size
            obtain ⟨a3, k3, rfl⟩ := ho.form
            obtain ⟨lt, z0, z1, z2, z3⟩ := ZE.out.keep hb
            have G9 := Lib.hid (grown_trans GW.out (grown_trans GE.out (grown_low hb (some b))))
            have S9 := Lib.hid (SE.out.other (grown_low hb none) (by intro e; cases e))
            have O9 := Lib.hid ho
            clear ho hb
            go_wp2
            exact bodyPost_ret (v := .agg #[.int .i64 (rfTo (csL xs) (csL xs).length).length, .slice a3 (rfTo (csL xs) (csL xs).length).length k3]) (by simp [results, Try.results71, go_sem, z0, z1]) rfl ⟨⟨_, rfTo (csL xs) (csL xs).length, rfl, (O9.out.out2 (by omega)).mono (by omega), by have := HLE.out; omega⟩, (S9.out.other (grown_set _ _ _ _) (by intro e; have e' : w.heap.size = b := (by injection e); omega)).other (grown_set _ _ _ _) (by intro e; have e' : w.heap.size = b := (by injection e); omega), grown_out (grown_out G9.out (Nat.le_refl _)) (Nat.le_refl _)⟩
          · by_cases h3 : y = 3
            · subst h3
              go_wp2
              go_loopw [11] (fun i wr => ∃ (j : Nat) (ys : List Int), j ≤ xs.length ∧ Hid (ys.length = xs.length) ∧ i = .int .i64 j ∧ Hid (wr.ownsRow (w.heap.size + 1) 2 1 (.slice (some ⟨g, 0, none⟩) xs.length c) xs.length (ys.map (Value.int .i64))) ∧ Hid (Src wr b a len cap) ∧ Hid (W.grownBy wr (some b))) (fun i _ => xs.length - (intOf i).toNat)
              case atStart => exact ⟨0, xs, Nat.zero_le _, Lib.hid rfl, rfl, O4, S4, G4⟩
              case round =>
                obtain ⟨j, ys, hj, HY, rfl, OY, SY, GY⟩ := hrel
                by_cases hjl : j < xs.length
                · have hyl := HY.out
                  have hcg : wr.cell? ⟨g, j, none⟩ = some (.int .i64 (nth ys j)) := (OY.out.cellAt j (by omega)).trans (nth_map (by omega))
                  have hfg : wr.frozen? ⟨g, j, none⟩ = false := OY.out.frozenAt j
                  have hwj : IntKind.i64.wrap ((j : Int) + 1) = (j : Int) + 1 := IntWalk.i64_in _ (by omega)
                  clear hyl
                  go_wp2
                  go_region_with (go_at_call 75; refine (l01Full_any _ _ (by omega) (by omega)).mono ?_; rintro e w' ⟨rfl, rfl⟩)
                  all_goals
                    go_wp2
                    go_roundw
                    case rel => exact ⟨j + 1, ys.set j (bits .andNot .i64 (nth ys j) (full ((j : Int) + 1))), hjl, Lib.hid (by rw [List.length_set]; exact HY.out), by go_num, Lib.hid (by rw [List.map_set]; exact ((show World.ownsRow wr.drew _ _ _ _ _ _ from OY.out).stored j _).1), Lib.hid ((show Src wr.drew b a len cap from SY.out).other (grown_set wr.drew g j _) (by intro e; injection e with e; exact hgb e)), Lib.hid (grown_out (show W.grownBy wr.drew (some b) from grown_drewN GY.out 1) (by omega))⟩
                    case measure => simp [intOf]; omega
                · obtain rfl : j = xs.length := by omega
                  have OV := Lib.hid (own_len_cast OY.out HY.out)
                  obtain ⟨a8, k8, e8, hat8, -, hn8', -⟩ := OV.out.at
                  rw [HY.out] at e8 hat8
                  cases e8
                  have HV := Lib.hid hat8
                  clear hat8
                  have HE := HV
                  have NE := Lib.hid (fun (h : (some ⟨g, 0, none⟩ : Option Addr) = none) => (show c = 0 from by cases h))
                  have GE := GY
                  have SE := SY
                  have ZE := Lib.hid (Z.out.grown GE.out (by omega))
                  have HLE := Lib.hid (show (ys).length = xs.length from HY.out)
                  go_wp2_with fail
                  refine (l05Make_any (ys) _ _ _ _ (by have := HLE.out; omega) HE.out NE.out).mono ?_
                  rintro e w9 ⟨v3, rfl, ho, hb⟩
                  have hz9 := GE.out.size
                  obtain ⟨a3, k3, rfl⟩ := ho.form
                  obtain ⟨lt, z0, z1, z2, z3⟩ := ZE.out.keep hb
                  have G9 := Lib.hid (grown_trans GW.out (grown_trans GE.out (grown_low hb (some b))))
                  have S9 := Lib.hid (SE.out.other (grown_low hb none) (by intro e; cases e))
                  have O9 := Lib.hid ho
                  clear ho hb
                  go_wp2
                  exact bodyPost_ret (v := .agg #[.int .i64 (ys).length, .slice a3 (ys).length k3]) (by simp [results, Try.results71, go_sem, z0, z1]) rfl ⟨⟨_, ys, rfl, (O9.out.out2 (by omega)).mono (by omega), by have := HLE.out; omega⟩, (S9.out.other (grown_set _ _ _ _) (by intro e; have e' : w.heap.size = b := (by injection e); omega)).other (grown_set _ _ _ _) (by intro e; have e' : w.heap.size = b := (by injection e); omega), grown_out (grown_out G9.out (Nat.le_refl _)) (Nat.le_refl _)⟩
            · by_cases h4 : y = 4
              · subst h4
                go_wp2
                go_loopw [12] (fun i wr => ∃ (j : Nat) (ys : List Int), j ≤ xs.length ∧ Hid (ys.length = xs.length) ∧ i = .int .i64 j ∧ Hid (wr.ownsRow (w.heap.size + 1) 2 1 (.slice (some ⟨g, 0, none⟩) xs.length c) xs.length (ys.map (Value.int .i64))) ∧ Hid (Src wr b a len cap) ∧ Hid (W.grownBy wr (some b))) (fun i _ => xs.length - (intOf i).toNat)
                case atStart => exact ⟨0, xs, Nat.zero_le _, Lib.hid rfl, rfl, O4, S4, G4⟩
                case round =>
                  obtain ⟨j, ys, hj, HY, rfl, OY, SY, GY⟩ := hrel
                  by_cases hjl : j < xs.length
                  · have hyl := HY.out
                    have hcg : wr.cell? ⟨g, j, none⟩ = some (.int .i64 (nth ys j)) := (OY.out.cellAt j (by omega)).trans (nth_map (by omega))
                    have hfg : wr.frozen? ⟨g, j, none⟩ = false := OY.out.frozenAt j
                    have hwj : IntKind.i64.wrap ((j : Int) + 1) = (j : Int) + 1 := IntWalk.i64_in _ (by omega)
                    clear hyl
                    go_wp2
                    go_region_with (go_at_call 75; refine (l01Full_any _ _ (by omega) (by omega)).mono ?_; rintro e w' ⟨rfl, rfl⟩)
                    all_goals
                      go_wp2
                      go_roundw
                      case rel => exact ⟨j + 1, ys.set j (bits .andNot .i64 (nth ys j) (full ((j : Int) + 1))), hjl, Lib.hid (by rw [List.length_set]; exact HY.out), by go_num, Lib.hid (by rw [List.map_set]; exact ((show World.ownsRow wr.drew _ _ _ _ _ _ from OY.out).stored j _).1), Lib.hid ((show Src wr.drew b a len cap from SY.out).other (grown_set wr.drew g j _) (by intro e; injection e with e; exact hgb e)), Lib.hid (grown_out (show W.grownBy wr.drew (some b) from grown_drewN GY.out 1) (by omega))⟩
                      case measure => simp [intOf]; omega
                  · obtain rfl : j = xs.length := by omega
                    have OV := Lib.hid (own_len_cast OY.out HY.out)
                    obtain ⟨a8, k8, e8, hat8, -, hn8', -⟩ := OV.out.at
                    rw [HY.out] at e8 hat8
                    cases e8
                    have HV := Lib.hid hat8
                    clear hat8
                    go_wp2_with fail
                    refine (l01Closure_any ys _ _ _ _ (by omega) HV.out (fun h => by cases h)).mono ?_
                    rintro e w6 ⟨v6, rfl, ho, hb⟩
                    obtain ⟨a6, k6, e6, hat6, -, hn6, -⟩ := (show Own w6 _ v6 (tab xs.length (tcTo ys xs.length xs.length)) from ho).at
                    subst e6
                    have H6 := Lib.hid hat6
                    have N6 := Lib.hid hn6
                    have G6 := Lib.hid (grown_trans GY.out (grown_low hb (some b)))
                    have S6 := Lib.hid (SY.out.other (grown_low hb none) (by intro e; cases e))
                    clear ho hb hat6 hn6
                    have HE := H6
                    have NE := N6
                    have GE := G6
                    have SE := S6
                    have ZE := Lib.hid (Z.out.grown GE.out (by omega))
                    have HLE := Lib.hid (show (tab xs.length (tcTo ys xs.length xs.length)).length = xs.length from tab_len _ _)
                    go_wp2_with fail
                    refine (l05Make_any (tab xs.length (tcTo ys xs.length xs.length)) _ _ _ _ (by have := HLE.out; omega) HE.out NE.out).mono ?_
                    rintro e w9 ⟨v3, rfl, ho, hb⟩
                    have hz9 := GE.out.size
                    obtain ⟨a3, k3, rfl⟩ := ho.form
                    obtain ⟨lt, z0, z1, z2, z3⟩ := ZE.out.keep hb
                    have G9 := Lib.hid (grown_trans GW.out (grown_trans GE.out (grown_low hb (some b))))
                    have S9 := Lib.hid (SE.out.other (grown_low hb none) (by intro e; cases e))
                    have O9 := Lib.hid ho
                    clear ho hb
                    go_wp2
                    exact bodyPost_ret (v := .agg #[.int .i64 (tab xs.length (tcTo ys xs.length xs.length)).length, .slice a3 (tab xs.length (tcTo ys xs.length xs.length)).length k3]) (by simp [results, Try.results71, go_sem, z0, z1]) rfl ⟨⟨_, tab xs.length (tcTo ys xs.length xs.length), rfl, (O9.out.out2 (by omega)).mono (by omega), by have := HLE.out; omega⟩, (S9.out.other (grown_set _ _ _ _) (by intro e; have e' : w.heap.size = b := (by injection e); omega)).other (grown_set _ _ _ _) (by intro e; have e' : w.heap.size = b := (by injection e); omega), grown_out (grown_out G9.out (Nat.le_refl _)) (Nat.le_refl _)⟩
              · have e0 : ((y : Int) == 0) = false := by simp; omega
                have e1 : ((y : Int) == 1) = false := by simp; omega
                have e2 : ((y : Int) == 2) = false := by simp; omega
                have e3 : ((y : Int) == 3) = false := by simp; omega
                have e4 : ((y : Int) == 4) = false := by simp; omega
                have HE := H5
                have NE := Lib.hid (fun (h : (some ⟨g, 0, none⟩ : Option Addr) = none) => (show c = 0 from by cases h))
                have GE := G4
                have SE := S4
                have ZE := Lib.hid (Z.out.grown GE.out (by omega))
                have HLE := Lib.hid (show (xs).length = xs.length from rfl)
                go_wp2_with fail
                refine (l05Make_any (xs) _ _ _ _ (by have := HLE.out; omega) HE.out NE.out).mono ?_
                rintro e w9 ⟨v3, rfl, ho, hb⟩
                have hz9 := GE.out.size
                obtain ⟨a3, k3, rfl⟩ := ho.form
                obtain ⟨lt, z0, z1, z2, z3⟩ := ZE.out.keep hb
                have G9 := Lib.hid (grown_trans GW.out (grown_trans GE.out (grown_low hb (some b))))
                have S9 := Lib.hid (SE.out.other (grown_low hb none) (by intro e; cases e))
                have O9 := Lib.hid ho
                clear ho hb
                go_wp2
                exact bodyPost_ret (v := .agg #[.int .i64 (xs).length, .slice a3 (xs).length k3]) (by simp [results, Try.results71, go_sem, z0, z1]) rfl ⟨⟨_, xs, rfl, (O9.out.out2 (by omega)).mono (by omega), by have := HLE.out; omega⟩, (S9.out.other (grown_set _ _ _ _) (by intro e; have e' : w.heap.size = b := (by injection e); omega)).other (grown_set _ _ _ _) (by intro e; have e' : w.heap.size = b := (by injection e); omega), grown_out (grown_out G9.out (Nat.le_refl _)) (Nat.le_refl _)⟩

end Go.Proofs.Ytckilaeolkgnkaa
