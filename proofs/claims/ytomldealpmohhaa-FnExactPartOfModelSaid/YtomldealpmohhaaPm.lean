/- Contracts of PartOfModel of the model and of the program, at every argument. Conditions: those in the theorems. -/
import Derived.Test.YtomldealpmohhaaJn04
import Derived.Test.YtomldealpmohhaaTrV
import Derived.Test.YtomldealpmohhaaJn07
namespace Go.Proofs.Ytomldealpmohhaa
open Go.RowKit

def RM (w : World) (B : Nat) (n c : Int) (xs ys : List Int) (e : Ending) : Prop := ∃ v, e = .returned (.tuple #[v, .int .i64 c]) ∧ OwnM w B v n xs ys
theorem ownM_nil (w : World) (B : Nat) : OwnM w B (.agg #[.int .i64 0, .slice none 0 0, .slice none 0 0]) 0 [] [] := ⟨rfl, World.ownsRow_nil _ _ _ _, World.ownsRow_nil _ _ _ _, fun k h => by cases h⟩
theorem RM.bad {w : World} {B : Nat} {c c' n : Int} {xs ys : List Int} (h : c = c') (hn : n = 0) (hx : xs = []) (hy : ys = []) : RM w B n c' xs ys (.returned (.tuple #[.agg #[.int .i64 0, .slice none 0 0, .slice none 0 0], .int .i64 c])) := by
  subst h hn hx hy
  exact ⟨_, rfl, ownM_nil _ _⟩
theorem RM.good {w : World} {B B' : Nat} {c n n' : Int} {v : Value} {xs xs' ys ys' : List Int} (h : c = 0) (hn : n = n') (hx : xs = xs') (hy : ys = ys') (ho : OwnM w B' v n' xs' ys') (hB : B ≤ B') : RM w B n c xs ys (.returned (.tuple #[v, .int .i64 0])) := by
  subst h hn hx hy
  exact ⟨_, rfl, ho.mono hB⟩

def pmC (n : Int) (xs ys : List Int) (m : Int) : Int := if isM n xs ys then (if mskB n m then 0 else 2) else 1
def pmL (n : Int) (xs ys : List Int) (m : Int) : List Int := if pmC n xs ys m = 0 then arV xs (memTo m.toNat xs.length) else []
def pmV (n : Int) (xs ys : List Int) (m : Int) : List Int := if pmC n xs ys m = 0 then mvV ys (memTo m.toNat xs.length) else []
theorem pmC_1 {n m : Int} {xs ys : List Int} (h : isM n xs ys = false) : pmC n xs ys m = 1 := by rw [pmC, h]; rfl
theorem pmC_2 {n m : Int} {xs ys : List Int} (h : isM n xs ys = true) (h2 : mskB n m = false) : pmC n xs ys m = 2 := by rw [pmC, h, h2]; rfl
theorem pmC_0 {n m : Int} {xs ys : List Int} (h : isM n xs ys = true) (h2 : mskB n m = true) : pmC n xs ys m = 0 := by rw [pmC, h, h2]; rfl
theorem pm_bad {n m : Int} {xs ys : List Int} {c : Int} (h : pmC n xs ys m = c) (hc : ¬ c = 0) : pmL n xs ys m = [] ∧ pmV n xs ys m = [] := by
  rw [pmL, pmV, h, if_neg hc, if_neg hc]; exact ⟨rfl, rfl⟩
theorem pm_ok {n m : Int} {xs ys : List Int} (h : pmC n xs ys m = 0) : pmL n xs ys m = arV xs (memTo m.toNat xs.length) ∧ pmV n xs ys m = mvV ys (memTo m.toNat xs.length) := ⟨if_pos h, if_pos h⟩
theorem PartOfModel_len (n : Int) (xs ys : List Int) (m : Int) : (pmL n xs ys m).length ≤ 1048576 ∧ (pmV n xs ys m).length ≤ 1048576 := by
  by_cases h : pmC n xs ys m = 0
  · obtain ⟨e1, e2⟩ := pm_ok h
    rw [e1, e2]
    cases h1 : isM n xs ys
    · rw [pmC_1 h1] at h; cases h
    · obtain ⟨-, -, h8, -, h6, -⟩ := isM_ok h1
      have := memTo_len m.toNat xs.length
      rw [arV, tab_len, mvV_len]
      omega
  · obtain ⟨e1, e2⟩ := pm_bad rfl h
    rw [e1, e2]
    simp

set_option maxHeartbeats 2000000 in
set_option maxRecDepth 100000 in
theorem specPartOfModel_any (n m : Int) (xs ys : List Int) (a : Option Addr) (cap : Nat) (b : Option Addr) (d : Nat) (w : World) (hl : xs.length ≤ 1048576) (hm : ys.length ≤ 1048576) (h : At w a xs.length xs) (h' : At w b ys.length ys) :
    Calls Try.prog 23 #[.agg #[.int .i64 n, .slice a xs.length cap, .slice b ys.length d], .int .i64 m] w fun e w' => RM w' w.heap.size (pmL n xs ys m).length (pmC n xs ys m) (pmL n xs ys m) (pmV n xs ys m) e ∧ Below w.heap.size w w' := by
  obtain ⟨W, hW, HB, X, Z, hWs⟩ := boxM2 w n a xs.length cap b ys.length d
  have H := Lib.hid (h.keep HB.out (Nat.le_refl _))
  have H' := Lib.hid (h'.keep HB.out (Nat.le_refl _))
  have hz0 : w.heap.size + 1 + 1 ≤ W.heap.size := by omega
  have HW := Lib.hid hW
  clear h h' hW
  cases h1 : isM n xs ys
  · have F1 := Lib.hid h1
    have C := Lib.hid (pmC_1 (m := m) h1)
    have L := Lib.hid (pm_bad C.out (by decide))
    clear h1
    go_enter Try.func23, Try.ntmps23
    go_wp2_with fail
    rw [← HW.out]
    refine (l06Is_any n xs ys _ _ _ _ _ _ _ hl hm H.out H'.out).mono ?_
    rw [F1.out]
    rintro e w1 ⟨rfl, hb⟩
    have B1 := Lib.hid (HB.out.trans (hb.mono HB.out.size))
    obtain ⟨lt2, z0, z1, z2, z3, z4, z5⟩ := (Z.out.keep hb).all
    clear hb
    go_wp2
    exact bodyPost_ret (v := .tuple #[.agg #[.int .i64 0, .slice none 0 0, .slice none 0 0], .int .i64 1]) (by simp [results, Try.results23, go_sem, z0, z1, z2]) rfl ⟨RM.bad C.out.symm (by rw [L.out.1]; rfl) L.out.1 L.out.2, ((B1.out.setCell (by show _ ≤ _; simp) _).setCell (by show _ ≤ _; simp) _).setCell (by show _ ≤ _; simp) _⟩
  · obtain ⟨e1, e2, -⟩ := isM_rel h1
    have hn0 : 0 ≤ n := by omega
    have hn30 : n ≤ 30 := by omega
    cases h2 : mskB n m
    · have F1 := Lib.hid h1
      have F2 := Lib.hid h2
      have C := Lib.hid (pmC_2 h1 h2)
      have L := Lib.hid (pm_bad C.out (by decide))
      clear h1 h2 e1 e2
      go_enter Try.func23, Try.ntmps23
      go_wp2_with fail
      rw [← HW.out]
      refine (l06Is_any n xs ys _ _ _ _ _ _ _ hl hm H.out H'.out).mono ?_
      rw [F1.out]
      rintro e w1 ⟨rfl, hb⟩
      have B1 := Lib.hid (HB.out.trans (hb.mono HB.out.size))
      have Z1 := Lib.hid (Z.out.keep hb)
      obtain ⟨lt, x0, x1, x2⟩ := X.out.keep hb
      clear hb
      go_wp2_with fail
      refine (l05Set_any n m _ _ _ _ hn0 hn30).mono ?_
      rw [F2.out]
      rintro e w2 ⟨rfl, hb⟩
      have B2 := Lib.hid (B1.out.trans (hb.mono B1.out.size))
      obtain ⟨lt2, z0, z1, z2, z3, z4, z5⟩ := (Z1.out.keep hb).all
      clear hb x0 x1 x2
      go_wp2
      exact bodyPost_ret (v := .tuple #[.agg #[.int .i64 0, .slice none 0 0, .slice none 0 0], .int .i64 2]) (by simp [results, Try.results23, go_sem, z0, z1, z2]) rfl ⟨RM.bad C.out.symm (by rw [L.out.1]; rfl) L.out.1 L.out.2, ((B2.out.setCell (by show _ ≤ _; simp) _).setCell (by show _ ≤ _; simp) _).setCell (by show _ ≤ _; simp) _⟩
    · have F1 := Lib.hid h1
      have F2 := Lib.hid h2
      have C := Lib.hid (pmC_0 h1 h2)
      have L := Lib.hid (pm_ok C.out)
      obtain ⟨-, -, -, -, h6, -⟩ := isM_ok h1
      have hmm : InMk xs.length m := (mskB_InN (by omega) m).1 (by rw [← e1]; exact h2)
      obtain ⟨k, rfl⟩ := Int.eq_ofNat_of_zero_le hmm.1
      have hk := hmm.nat
      rw [Int.toNat_natCast] at hk L
      have HK := Lib.hid hk
      have hm30 : k < 1073741824 := by have : (2 : Nat) ^ xs.length ≤ 2 ^ 8 := Nat.pow_le_pow_right (by decide) e2; omega
      have M := Lib.hid (memTo_high hk 30 (by omega))
      obtain ⟨ls, hls⟩ : ∃ ls, ls = memTo k xs.length := ⟨_, rfl⟩
      have OK := Lib.hid (show LsOk xs.length ls by rw [hls]; exact memTo_ok k xs.length)
      have hll : ls.length ≤ 8 := by rw [hls]; exact Nat.le_trans (memTo_len k xs.length) e2
      have HL := Lib.hid hls
      rw [← hls] at M L
      have h8 : xs.length ≤ 8 := e2
      have hy8 : ys.length ≤ 30 := by omega
      clear h1 h2 hmm hk hls e2 e1 h6
      go_enter Try.func23, Try.ntmps23
      go_wp2_with fail
      rw [← HW.out]
      refine (l06Is_any n xs ys _ _ _ _ _ _ _ hl hm H.out H'.out).mono ?_
      rw [F1.out]
      rintro e w1 ⟨rfl, hb⟩
      have B1 := Lib.hid hb
      obtain ⟨lt, x0, x1, x2⟩ := X.out.keep hb
      clear hb
      go_wp2_with fail
      refine (l05Set_any n k _ _ _ _ hn0 hn30).mono ?_
      rw [F2.out]
      rintro e w2 ⟨rfl, hb⟩
      have B2 := Lib.hid (B1.out.trans (hb.mono B1.out.size))
      clear hb x0 x1 x2
      go_wp2_with fail
      refine (l01List_any k hm30 _).mono ?_
      rw [M.out]
      rintro e w3 ⟨v3, rfl, ho, hb⟩
      obtain ⟨a3, k3, rfl, hat, -, -, -⟩ := ho.at
      have L3 := Lib.hid hat
      have B3 := Lib.hid (B2.out.trans (hb.mono B2.out.size))
      clear ho hb hat
      go_wp2
      go_loopw [7, 8] (fun v i wr => ∃ t : Nat, t ≤ ys.length ∧ i = .int .i64 t ∧ wr.ownsRow w3.heap.size 2 1 v t ((upTo (mvF ys ls) t).map (Value.int .i64)) ∧ Hid (Below w3.heap.size w3 wr)) (fun _ i _ => ys.length - (intOf i).toNat)
      case atStart => exact ⟨0, Nat.zero_le _, rfl, World.ownsRow_lit w3 #[] 0 (Nat.le_refl _) (by unfold maxLen; omega) rfl, Lib.hid ((Below.refl _ _).alloc (Nat.le_refl _) _)⟩
      case round =>
        obtain ⟨t, ht, rfl, hown, B⟩ := hrel
        have HO := Lib.hid hown
        clear hown
        have hs3 := B3.out.size
        have hsz := B.out.size
        have BW := Lib.hid (B3.out.trans (B.out.mono hs3))
        have HA := Lib.hid (H'.out.keep BW.out (Nat.le_refl _))
        have LA := Lib.hid (L3.out.keep B.out (Nat.le_refl _))
        obtain ⟨lt0, x0, x1, x2⟩ := X.out.keep BW.out
        by_cases hlt : t < ys.length
        · obtain ⟨b', off', rfl, hb', hc'⟩ := HA.out.2.resolve_left (by omega)
          have hcell' := hc' t hlt
          have EF := Lib.hid (show sqTo ls (nth ys t) ls.length = mvF ys ls t from rfl)
          clear hc'
          go_wp2_with (first | (go_at_call 59; refine (l05Squeeze_any ls _ xs.length _ _ _ _ (by omega) (by omega) OK.out LA.out).mono ?_; rw [EF.out]; rintro e w' ⟨rfl, rfl⟩) | (at_builtin; refine list_app1 rfl _ _ rfl w3.heap.size _ t _ rfl (HO.out.alloc _) ⟨wr.heap.size, 0, none⟩ 1 _ rfl (World.cell?_alloc_at _ _ _ _ rfl) (by omega) (by simp; omega) ?_; intro v' w1' hown1 hgr1))
          have hbel := Lib.hid (below_app B.out ((Below.refl _ _).alloc hsz _) hsz HO.out hgr1)
          clear hgr1 x0 x1 x2 hcell'
          go_roundw
          case rel => exact ⟨t + 1, hlt, by go_num, by rw [upTo, List.map_append]; exact hown1, hbel⟩
          case measure => simp [intOf]; omega
        · obtain rfl : t = ys.length := by omega
          have O5 := Lib.hid (own_up HO.out)
          obtain ⟨a5, k5, e5, -, -, -, -⟩ := O5.out.at
          rw [upTo_len] at e5
          subst e5
          have Z5 := Lib.hid (Z.out.keep BW.out)
          have H5 := Lib.hid (H.out.keep BW.out (Nat.le_refl _))
          have B5 := Lib.hid (HB.out.trans (BW.out.mono HB.out.size))
          go_wp2_with fail
          clear x0 x1 x2
          refine (l05Part_any n xs k _ _ _ _ h8 HK.out H5.out).mono ?_
          rintro e w5 ⟨v5, rfl, ho, hb⟩
          obtain ⟨a6, c6, rfl⟩ := ho.form
          obtain ⟨lt2, z0, z1, z2, z3, z4, z5⟩ := (Z5.out.keep hb).all
          have B6 := Lib.hid (B5.out.trans (hb.mono B5.out.size))
          have O6 := Lib.hid (O5.out.inn.below hb (Nat.le_refl _))
          have O7 := Lib.hid ho
          have hlr : w3.heap.size ≤ wr.heap.size := hsz
          have hww : W.heap.size ≤ w3.heap.size := hs3
          rw [← HL.out] at O7
          rw [← HL.out]
          clear hb O5 ho
          go_wp2
          have e7 : mvV ys ls = upTo (mvF ys ls) ys.length := by rw [upTo_tab]; rfl
          exact bodyPost_ret (v := .tuple #[.agg #[.int .i64 (arV xs ls).length, .slice a6 (arV xs ls).length c6, .slice a5 ys.length k5], .int .i64 0]) (by simp [results, Try.results23, go_sem, z0, z1, z2]) rfl ⟨RM.good C.out (by rw [L.out.1]) L.out.1 (L.out.2.trans e7) ((OwnM.two' (n := (arV xs ls).length) O7.out.2 O6.out hlr).out3 (by omega)) (by omega), ((B6.out.setCell (by show _ ≤ _; simp) _).setCell (by show _ ≤ _; simp) _).setCell (by show _ ≤ _; simp) _⟩

end Go.Proofs.Ytomldealpmohhaa
