/- 4 texts in one: Pm, Sm, SmI, TaV. -/
import Derived.Test.YtomldealpmohhaaJn12
import Derived.Test.YtomldealpmohhaaTrV
import Derived.Test.YtomldealpmohhaaJn16
import Derived.Test.YtomldealpmohhaaJn11
import Derived.Test.YtomldealpmohhaaJn19
/- Contracts of PartOfModel of the model and of the program, at every argument. Conditions: those in the theorems. -/
namespace Go.Proofs.Ytomldealpmohhaa
open Go.RowKit

def RM (w : World) (B : Nat) (n c : Int) (xs ys : List Int) (e : Ending) : Prop := ∃ v, e = .returned (.tuple #[v, .int .i64 c]) ∧ OwnM w B v n xs ys
theorem ownM_nil (w : World) (B : Nat) : OwnM w B (.agg #[.int .i64 0, .slice none 0 0, .slice none 0 0]) 0 [] [] := ⟨rfl, World.ownsRow_nil _ _ _ _, World.ownsRow_nil _ _ _ _, fun k h => by cases h⟩
theorem RM.bad {w : World} {B : Nat} {c c' n : Int} {xs ys : List Int} (h : c = c') (hn : n = 0) (hx : xs = []) (hy : ys = []) : RM w B n c' xs ys (.returned (.tuple #[.agg #[.int .i64 0, .slice none 0 0, .slice none 0 0], .int .i64 c])) := by
  subst h hn hx hy
  exact ⟨_, rfl, ownM_nil _ _⟩
theorem RM.good {w : World} {B B' : Nat} {c n n' : Int} {v : Value} {xs xs' ys ys' : List Int} (h : c = 0) (hn : n = n') (hx : xs = xs') (hy : ys = ys') (ho : OwnM w B' v n' xs' ys') (hB : B ≤ B') : RM w B n c xs ys (.returned (.tuple #[v, .int .i64 0])) := by
  subst h hn hx hy
  exact ⟨_, rfl, ho.mono hB⟩

def pmC (n : Int) (xs ys : List Int) (m : Int) : Int := if isM n xs ys then (if mskB n m then 0 else 2) else 1
def pmL (n : Int) (xs ys : List Int) (m : Int) : List Int := if pmC n xs ys m = 0 then arV xs (memTo m.toNat xs.length) else []
def pmV (n : Int) (xs ys : List Int) (m : Int) : List Int := if pmC n xs ys m = 0 then mvV ys (memTo m.toNat xs.length) else []
theorem pmC_1 {n m : Int} {xs ys : List Int} (h : isM n xs ys = false) : pmC n xs ys m = 1 := by rw [pmC, h]; rfl
theorem pmC_2 {n m : Int} {xs ys : List Int} (h : isM n xs ys = true) (h2 : mskB n m = false) : pmC n xs ys m = 2 := by rw [pmC, h, h2]; rfl
theorem pmC_0 {n m : Int} {xs ys : List Int} (h : isM n xs ys = true) (h2 : mskB n m = true) : pmC n xs ys m = 0 := by rw [pmC, h, h2]; rfl
theorem pm_bad {n m : Int} {xs ys : List Int} {c : Int} (h : pmC n xs ys m = c) (hc : ¬ c = 0) : pmL n xs ys m = [] ∧ pmV n xs ys m = [] := by
  rw [pmL, pmV, h, if_neg hc, if_neg hc]; exact ⟨rfl, rfl⟩
theorem pm_ok {n m : Int} {xs ys : List Int} (h : pmC n xs ys m = 0) : pmL n xs ys m = arV xs (memTo m.toNat xs.length) ∧ pmV n xs ys m = mvV ys (memTo m.toNat xs.length) := ⟨if_pos h, if_pos h⟩
theorem PartOfModel_len (n : Int) (xs ys : List Int) (m : Int) : (pmL n xs ys m).length ≤ 1048576 ∧ (pmV n xs ys m).length ≤ 1048576 := by
  by_cases h : pmC n xs ys m = 0
  · obtain ⟨e1, e2⟩ := pm_ok h
    rw [e1, e2]
    cases h1 : isM n xs ys
    · rw [pmC_1 h1] at h; cases h
    · obtain ⟨-, -, h8, -, h6, -⟩ := isM_ok h1
      have := memTo_len m.toNat xs.length
      rw [arV, tab_len, mvV_len]
      omega
  · obtain ⟨e1, e2⟩ := pm_bad rfl h
    rw [e1, e2]
    simp

set_option maxHeartbeats 2000000 in
set_option maxRecDepth 100000 in
theorem specPartOfModel_any (n m : Int) (xs ys : List Int) (a : Option Addr) (cap : Nat) (b : Option Addr) (d : Nat) (w : World) (hl : xs.length ≤ 1048576) (hm : ys.length ≤ 1048576) (h : At w a xs.length xs) (h' : At w b ys.length ys) :
    Calls Try.prog 23 #[.agg #[.int .i64 n, .slice a xs.length cap, .slice b ys.length d], .int .i64 m] w fun e w' => RM w' w.heap.size (pmL n xs ys m).length (pmC n xs ys m) (pmL n xs ys m) (pmV n xs ys m) e ∧ Below w.heap.size w w' := by
  obtain ⟨W, hW, HB, X, Z, hWs⟩ := boxM2 w n a xs.length cap b ys.length d
  have H := Lib.hid (h.keep HB.out (Nat.le_refl _))
  have H' := Lib.hid (h'.keep HB.out (Nat.le_refl _))
  have hz0 : w.heap.size + 1 + 1 ≤ W.heap.size := by omega
  have HW := Lib.hid hW
  clear h h' hW
  cases h1 : isM n xs ys
  · have F1 := Lib.hid h1
    have C := Lib.hid (pmC_1 (m := m) h1)
    have L := Lib.hid (pm_bad C.out (by decide))
    clear h1
    go_enter Try.func23, Try.ntmps23
    go_wp2_with fail
    rw [← HW.out]
    refine (l06Is_any n xs ys _ _ _ _ _ _ _ hl hm H.out H'.out).mono ?_
    rw [F1.out]
    rintro e w1 ⟨rfl, hb⟩
    have B1 := Lib.hid (HB.out.trans (hb.mono HB.out.size))
    obtain ⟨lt2, z0, z1, z2, z3, z4, z5⟩ := (Z.out.keep hb).all
    clear hb
    go_wp2
    exact bodyPost_ret (v := .tuple #[.agg #[.int .i64 0, .slice none 0 0, .slice none 0 0], .int .i64 1]) (by simp [results, Try.results23, go_sem, z0, z1, z2]) rfl ⟨RM.bad C.out.symm (by rw [L.out.1]; rfl) L.out.1 L.out.2, ((B1.out.setCell (by show _ ≤ _; simp) _).setCell (by show _ ≤ _; simp) _).setCell (by show _ ≤ _; simp) _⟩
  · obtain ⟨e1, e2, -⟩ := isM_rel h1
    have hn0 : 0 ≤ n := by omega
    have hn30 : n ≤ 30 := by omega
    cases h2 : mskB n m
    · have F1 := Lib.hid h1
      have F2 := Lib.hid h2
      have C := Lib.hid (pmC_2 h1 h2)
      have L := Lib.hid (pm_bad C.out (by decide))
      clear h1 h2 e1 e2
      go_enter Try.func23, Try.ntmps23
      go_wp2_with fail
      rw [← HW.out]
      refine (l06Is_any n xs ys _ _ _ _ _ _ _ hl hm H.out H'.out).mono ?_
      rw [F1.out]
      rintro e w1 ⟨rfl, hb⟩
      have B1 := Lib.hid (HB.out.trans (hb.mono HB.out.size))
      have Z1 := Lib.hid (Z.out.keep hb)
      obtain ⟨lt, x0, x1, x2⟩ := X.out.keep hb
      clear hb
      go_wp2_with fail
      refine (l05Set_any n m _ _ _ _ hn0 hn30).mono ?_
      rw [F2.out]
      rintro e w2 ⟨rfl, hb⟩
      have B2 := Lib.hid (B1.out.trans (hb.mono B1.out.size))
      obtain ⟨lt2, z0, z1, z2, z3, z4, z5⟩ := (Z1.out.keep hb).all
      clear hb x0 x1 x2
      go_wp2
      exact bodyPost_ret (v := .tuple #[.agg #[.int .i64 0, .slice none 0 0, .slice none 0 0], .int .i64 2]) (by simp [results, Try.results23, go_sem, z0, z1, z2]) rfl ⟨RM.bad C.out.symm (by rw [L.out.1]; rfl) L.out.1 L.out.2, ((B2.out.setCell (by show _ ≤ _; simp) _).setCell (by show _ ≤ _; simp) _).setCell (by show _ ≤ _; simp) _⟩
    · have F1 := Lib.hid h1
      have F2 := Lib.hid h2
      have C := Lib.hid (pmC_0 h1 h2)
      have L := Lib.hid (pm_ok C.out)
      obtain ⟨-, -, -, -, h6, -⟩ := isM_ok h1
      have hmm : InMk xs.length m := (mskB_InN (by omega) m).1 (by rw [← e1]; exact h2)
      obtain ⟨k, rfl⟩ := Int.eq_ofNat_of_zero_le hmm.1
      have hk := hmm.nat
      rw [Int.toNat_natCast] at hk L
      have HK := Lib.hid hk
      have hm30 : k < 1073741824 := by have : (2 : Nat) ^ xs.length ≤ 2 ^ 8 := Nat.pow_le_pow_right (by decide) e2; omega
      have M := Lib.hid (memTo_high hk 30 (by omega))
      obtain ⟨ls, hls⟩ : ∃ ls, ls = memTo k xs.length := ⟨_, rfl⟩
      have OK := Lib.hid (show LsOk xs.length ls by rw [hls]; exact memTo_ok k xs.length)
      have hll : ls.length ≤ 8 := by rw [hls]; exact Nat.le_trans (memTo_len k xs.length) e2
      have HL := Lib.hid hls
      rw [← hls] at M L
      have h8 : xs.length ≤ 8 := e2
      have hy8 : ys.length ≤ 30 := by omega
      clear h1 h2 hmm hk hls e2 e1 h6
      go_enter Try.func23, Try.ntmps23
      go_wp2_with fail
      rw [← HW.out]
      refine (l06Is_any n xs ys _ _ _ _ _ _ _ hl hm H.out H'.out).mono ?_
      rw [F1.out]
      rintro e w1 ⟨rfl, hb⟩
      have B1 := Lib.hid hb
      obtain ⟨lt, x0, x1, x2⟩ := X.out.keep hb
      clear hb
      go_wp2_with fail
      refine (l05Set_any n k _ _ _ _ hn0 hn30).mono ?_
      rw [F2.out]
      rintro e w2 ⟨rfl, hb⟩
      have B2 := Lib.hid (B1.out.trans (hb.mono B1.out.size))
      clear hb x0 x1 x2
      go_wp2_with fail
      refine (l01List_any k hm30 _).mono ?_
      rw [M.out]
      rintro e w3 ⟨v3, rfl, ho, hb⟩
      obtain ⟨a3, k3, rfl, hat, -, -, -⟩ := ho.at
      have L3 := Lib.hid hat
      have B3 := Lib.hid (B2.out.trans (hb.mono B2.out.size))
      clear ho hb hat
      go_wp2
      go_loopw [7, 8] (fun v i wr => ∃ t : Nat, t ≤ ys.length ∧ i = .int .i64 t ∧ wr.ownsRow w3.heap.size 2 1 v t ((upTo (mvF ys ls) t).map (Value.int .i64)) ∧ Hid (Below w3.heap.size w3 wr)) (fun _ i _ => ys.length - (intOf i).toNat)
      case atStart => exact ⟨0, Nat.zero_le _, rfl, World.ownsRow_lit w3 #[] 0 (Nat.le_refl _) (by unfold maxLen; omega) rfl, Lib.hid ((Below.refl _ _).alloc (Nat.le_refl _) _)⟩
      case round =>
        obtain ⟨t, ht, rfl, hown, B⟩ := hrel
        have HO := Lib.hid hown
        clear hown
        have hs3 := B3.out.size
        have hsz := B.out.size
        have BW := Lib.hid (B3.out.trans (B.out.mono hs3))
        have HA := Lib.hid (H'.out.keep BW.out (Nat.le_refl _))
        have LA := Lib.hid (L3.out.keep B.out (Nat.le_refl _))
        obtain ⟨lt0, x0, x1, x2⟩ := X.out.keep BW.out
        by_cases hlt : t < ys.length
        · obtain ⟨b', off', rfl, hb', hc'⟩ := HA.out.2.resolve_left (by omega)
          have hcell' := hc' t hlt
          have EF := Lib.hid (show sqTo ls (nth ys t) ls.length = mvF ys ls t from rfl)
          clear hc'
          go_wp2_with (first | (go_at_call 59; refine (l05Squeeze_any ls _ xs.length _ _ _ _ (by omega) (by omega) OK.out LA.out).mono ?_; rw [EF.out]; rintro e w' ⟨rfl, rfl⟩) | (at_builtin; refine list_app1 rfl _ _ rfl w3.heap.size _ t _ rfl (HO.out.alloc _) ⟨wr.heap.size, 0, none⟩ 1 _ rfl (World.cell?_alloc_at _ _ _ _ rfl) (by omega) (by simp; omega) ?_; intro v' w1' hown1 hgr1))
          have hbel := Lib.hid (below_app B.out ((Below.refl _ _).alloc hsz _) hsz HO.out hgr1)
          clear hgr1 x0 x1 x2 hcell'
          go_roundw
          case rel => exact ⟨t + 1, hlt, by go_num, by rw [upTo, List.map_append]; exact hown1, hbel⟩
          case measure => simp [intOf]; omega
        · obtain rfl : t = ys.length := by omega
          have O5 := Lib.hid (own_up HO.out)
          obtain ⟨a5, k5, e5, -, -, -, -⟩ := O5.out.at
          rw [upTo_len] at e5
          subst e5
          have Z5 := Lib.hid (Z.out.keep BW.out)
          have H5 := Lib.hid (H.out.keep BW.out (Nat.le_refl _))
          have B5 := Lib.hid (HB.out.trans (BW.out.mono HB.out.size))
          go_wp2_with fail
          clear x0 x1 x2
          refine (l05Part_any n xs k _ _ _ _ h8 HK.out H5.out).mono ?_
          rintro e w5 ⟨v5, rfl, ho, hb⟩
          obtain ⟨a6, c6, rfl⟩ := ho.form
          obtain ⟨lt2, z0, z1, z2, z3, z4, z5⟩ := (Z5.out.keep hb).all
          have B6 := Lib.hid (B5.out.trans (hb.mono B5.out.size))
          have O6 := Lib.hid (O5.out.inn.below hb (Nat.le_refl _))
          have O7 := Lib.hid ho
          have hlr : w3.heap.size ≤ wr.heap.size := hsz
          have hww : W.heap.size ≤ w3.heap.size := hs3
          rw [← HL.out] at O7
          rw [← HL.out]
          clear hb O5 ho
          go_wp2
          have e7 : mvV ys ls = upTo (mvF ys ls) ys.length := by rw [upTo_tab]; rfl
          exact bodyPost_ret (v := .tuple #[.agg #[.int .i64 (arV xs ls).length, .slice a6 (arV xs ls).length c6, .slice a5 ys.length k5], .int .i64 0]) (by simp [results, Try.results23, go_sem, z0, z1, z2]) rfl ⟨RM.good C.out (by rw [L.out.1]) L.out.1 (L.out.2.trans e7) ((OwnM.two' (n := (arV xs ls).length) O7.out.2 O6.out hlr).out3 (by omega)) (by omega), ((B6.out.setCell (by show _ ≤ _; simp) _).setCell (by show _ ≤ _; simp) _).setCell (by show _ ≤ _; simp) _⟩

end Go.Proofs.Ytomldealpmohhaa

/- Contracts of SumModels of the model and of the program, at every argument. Conditions: those in the theorems. -/
namespace Go.Proofs.Ytomldealpmohhaa
open Go.RowKit

theorem boxMM (w : World) (n0 : Int) (a0 : Option Addr) (l0 c0 : Nat) (b0 : Option Addr) (m0 d0 : Nat) (n1 : Int) (a1 : Option Addr) (l1 c1 : Nat) (b1 : Option Addr) (m1 d1 : Nat) : ∃ W : World, W = ((w.alloc (.cells #[.int .i64 n0, .slice a0 l0 c0, .slice b0 m0 d0] 34)).alloc (.cells #[.int .i64 n1, .slice a1 l1 c1, .slice b1 m1 d1] 34)).alloc (.cells #[.int .i64 0, .slice none 0 0, .slice none 0 0] 34) ∧
    Hid (Below w.heap.size w W) ∧ Hid (Bm W w.heap.size n0 a0 l0 c0 b0 m0 d0) ∧ Hid (Bm W (w.heap.size + 1) n1 a1 l1 c1 b1 m1 d1) ∧ Hid (BzM W (w.heap.size + 1 + 1)) ∧ W.heap.size = w.heap.size + 1 + 1 + 1 := by
  refine ⟨_, rfl, Lib.hid ((((Below.refl w.heap.size w).alloc (Nat.le_refl _) _).alloc (by simp) _).alloc (by simp; omega) _), Lib.hid (((Bm.new w n0 a0 l0 c0 b0 m0 d0 _).keep (alloc_keep _ _).1).keep (alloc_keep _ _).1), ?_, ?_, by simp⟩
  · have := (Bm.new (w.alloc (.cells #[.int .i64 n0, .slice a0 l0 c0, .slice b0 m0 d0] 34)) n1 a1 l1 c1 b1 m1 d1 34).keep (alloc_keep _ (.cells #[.int .i64 0, .slice none 0 0, .slice none 0 0] 34)).1
    exact Lib.hid (by simpa using this)
  · have := BzM.new ((w.alloc (.cells #[.int .i64 n0, .slice a0 l0 c0, .slice b0 m0 d0] 34)).alloc (.cells #[.int .i64 n1, .slice a1 l1 c1, .slice b1 m1 d1] 34))
    exact Lib.hid (by simpa using this)

def smF (n : Int) (ys zs : List Int) (t : Nat) : Int := bits .or .i64 (nth ys t) (wrap64 (nth zs t * 2 ^ n.toNat))
def sdC (n0 : Int) (xs0 ys0 : List Int) (n1 : Int) (xs1 ys1 : List Int) : Int := if isM n0 xs0 ys0 && isM n1 xs1 ys1 then (if 8 < n0 + n1 then 3 else 0) else 1
def sdL (n0 : Int) (xs0 ys0 : List Int) (n1 : Int) (xs1 ys1 : List Int) : List Int := if sdC n0 xs0 ys0 n1 xs1 ys1 = 0 then smTo xs0 xs1 n0 xs1.length else []
def sdV (n0 : Int) (xs0 ys0 : List Int) (n1 : Int) (xs1 ys1 : List Int) : List Int := if sdC n0 xs0 ys0 n1 xs1 ys1 = 0 then tab ys0.length (smF n0 ys0 ys1) else []
theorem sdC_1 {n0 n1 : Int} {xs0 ys0 xs1 ys1 : List Int} (h : (isM n0 xs0 ys0 && isM n1 xs1 ys1) = false) : sdC n0 xs0 ys0 n1 xs1 ys1 = 1 := by rw [sdC, h]; rfl
theorem sdC_3 {n0 n1 : Int} {xs0 ys0 xs1 ys1 : List Int} (h : (isM n0 xs0 ys0 && isM n1 xs1 ys1) = true) (h2 : 8 < n0 + n1) : sdC n0 xs0 ys0 n1 xs1 ys1 = 3 := by rw [sdC, h, if_pos rfl, if_pos h2]
theorem sdC_0 {n0 n1 : Int} {xs0 ys0 xs1 ys1 : List Int} (h : (isM n0 xs0 ys0 && isM n1 xs1 ys1) = true) (h2 : ¬ 8 < n0 + n1) : sdC n0 xs0 ys0 n1 xs1 ys1 = 0 := by rw [sdC, h, if_pos rfl, if_neg h2]
theorem sd_bad {n0 n1 c : Int} {xs0 ys0 xs1 ys1 : List Int} (h : sdC n0 xs0 ys0 n1 xs1 ys1 = c) (hc : ¬ c = 0) : sdL n0 xs0 ys0 n1 xs1 ys1 = [] ∧ sdV n0 xs0 ys0 n1 xs1 ys1 = [] := by
  rw [sdL, sdV, h, if_neg hc, if_neg hc]; exact ⟨rfl, rfl⟩
theorem sd_ok {n0 n1 : Int} {xs0 ys0 xs1 ys1 : List Int} (h : sdC n0 xs0 ys0 n1 xs1 ys1 = 0) : sdL n0 xs0 ys0 n1 xs1 ys1 = smTo xs0 xs1 n0 xs1.length ∧ sdV n0 xs0 ys0 n1 xs1 ys1 = tab ys0.length (smF n0 ys0 ys1) := ⟨if_pos h, if_pos h⟩
theorem SumModels_len (n0 : Int) (xs0 ys0 : List Int) (n1 : Int) (xs1 ys1 : List Int) : (sdL n0 xs0 ys0 n1 xs1 ys1).length ≤ 1048576 ∧ (sdV n0 xs0 ys0 n1 xs1 ys1).length ≤ 1048576 := by
  by_cases h : sdC n0 xs0 ys0 n1 xs1 ys1 = 0
  · obtain ⟨e1, e2⟩ := sd_ok h
    rw [e1, e2]
    cases hb : (isM n0 xs0 ys0 && isM n1 xs1 ys1)
    · rw [sdC_1 hb] at h; cases h
    · rw [Bool.and_eq_true] at hb
      obtain ⟨-, -, h8, -, h6, -⟩ := isM_ok hb.1
      obtain ⟨-, -, h8', -, -, -⟩ := isM_ok hb.2
      rw [smTo_len, tab_len]
      omega
  · obtain ⟨e1, e2⟩ := sd_bad rfl h
    rw [e1, e2]
    simp
theorem OwnIn.upg {w : World} {lo hi hi' : Nat} {v : Value} {xs : List Int} (h : OwnIn w lo hi v xs) (hh : hi ≤ hi' ∧ hi' ≤ w.heap.size) : OwnIn w lo hi' v xs := ⟨h.1, hh.2, fun k hk => ⟨(h.2.2 k hk).1, Nat.lt_of_lt_of_le (h.2.2 k hk).2 hh.1⟩⟩
theorem shl_spell' {n : Int} (h0 : 0 ≤ n) (h1 : n ≤ 8) (y : Int) : IntKind.i64.wrap (y * 2 ^ min n.toNat 64) = wrap64 (y * 2 ^ n.toNat) := by
  rw [Nat.min_eq_left (by omega)]
  unfold wrap64
  exact IntKind.wrap_i64 _

end Go.Proofs.Ytomldealpmohhaa

/- The contract of SumModels of the program, at every argument; both told by values. Conditions: those in the theorems. -/
namespace Go.Proofs.Ytomldealpmohhaa
open Go.RowKit

end Go.Proofs.Ytomldealpmohhaa

/- Contracts of IsTrueAt of the model and of the program, at every argument. Conditions: those in the theorems. -/
namespace Go.Proofs.Ytomldealpmohhaa
open Go.RowKit

def taC (c : Int) (n m : Int) : Int := if c = 0 then (if wlB n m then 0 else 2) else 1
noncomputable def taV (n : Int) (xs ys : List Int) (m : Int) (zs : List Nd) : Bool := if taC (mdC (isM n xs ys) (isB zs zs.length)) n m = 0 then bitB ((toFm zs).tr xs ys) m else false
theorem ta_no {n m : Int} {xs ys : List Int} {zs : List Nd} {b1 b2 : Bool} (h : isM n xs ys = b1) (h' : isB zs zs.length = b2) (hb : (b1 && b2) = false) : Ending.returned (.tuple #[.bool false, .int .i64 1]) = .returned (.tuple #[.bool (taV n xs ys m zs), .int .i64 (taC (mdC (isM n xs ys) (isB zs zs.length)) n m)]) := by rw [taV, h, h', mdC, hb]; rfl
theorem ta_out {n m : Int} {xs ys : List Int} {zs : List Nd} (h1 : isM n xs ys = true) (h2 : isB zs zs.length = true) (hw : wlB n m = false) : Ending.returned (.tuple #[.bool false, .int .i64 2]) = .returned (.tuple #[.bool (taV n xs ys m zs), .int .i64 (taC (mdC (isM n xs ys) (isB zs zs.length)) n m)]) := by
  have e : taC (mdC (isM n xs ys) (isB zs zs.length)) n m = 2 := by rw [h1, h2]; show (if wlB n m then (0 : Int) else 2) = 2; rw [hw]; rfl
  rw [taV, e]; rfl
theorem ta_ok {n m : Int} {xs ys : List Int} {zs : List Nd} (h1 : isM n xs ys = true) (h2 : isB zs zs.length = true) (hw : wlB n m = true) : Ending.returned (.tuple #[.bool (bitB ((toFm zs).tr xs ys) m), .int .i64 0]) = .returned (.tuple #[.bool (taV n xs ys m zs), .int .i64 (taC (mdC (isM n xs ys) (isB zs zs.length)) n m)]) := by
  have e : taC (mdC (isM n xs ys) (isB zs zs.length)) n m = 0 := by rw [h1, h2]; show (if wlB n m then (0 : Int) else 2) = 0; rw [hw]; rfl
  rw [taV, e]; rfl

set_option maxHeartbeats 1000000 in
theorem specIsTrueAt_v (n : Int) (xs ys : List Int) (m : Int) (zs : List Nd) (v : Value) (lo hi : Nat) (v' : Value) (lo' hi' : Nat) (w : World) (hl : xs.length ≤ 1048576) (hm : ys.length ≤ 1048576) (hz : zs.length ≤ 1048576) (h : InM w lo hi v n xs ys) (h' : InN w lo' hi' v' zs) :
    Calls Try.prog 19 #[v, .int .i64 m, v'] w fun e w' => e = .returned (.tuple #[.bool (taV n xs ys m zs), .int .i64 (taC (mdC (isM n xs ys) (isB zs zs.length)) n m)]) ∧ Below w.heap.size w w' := by
  obtain ⟨a, cap, b, d, rfl, hat, hat', -⟩ := h.at
  obtain ⟨c, cp, rfl, hn, hc1, hc2⟩ := h'.at'
  obtain ⟨W, hW, hb0, hx, hWs⟩ := boxM (w := w) n a xs.length cap b ys.length d 34
  have HB := Lib.hid hb0
  have X := Lib.hid hx
  have H := Lib.hid (hat.keep hb0 (Nat.le_refl _))
  have H' := Lib.hid (hat'.keep hb0 (Nat.le_refl _))
  have HN := Lib.hid (hn.keep hb0 (Nat.le_refl _))
  have HW := Lib.hid hW
  clear h h' hb0 hx hW hat hat' hn
  cases h1 : isM n xs ys
  · have F := Lib.hid h1
    have E := Lib.hid (ta_no (m := m) (zs := zs) h1 rfl rfl)
    rw [h1] at E
    clear h1
    go_enter Try.func19, Try.ntmps19
    go_wp2_with fail
    rw [← HW.out]
    refine (l06Is_any n xs ys _ _ _ _ _ _ _ hl hm H.out H'.out).mono ?_
    rw [F.out]
    rintro e w1 ⟨rfl, hb⟩
    have B1 := Lib.hid (HB.out.trans (hb.mono HB.out.size))
    clear hb
    go_wp2
    go_ret2
    exact ⟨E.out, B1.out⟩
  · have F := Lib.hid h1
    cases h2 : isB zs zs.length
    · have F2 := Lib.hid h2
      have E := Lib.hid (ta_no (m := m) h1 h2 rfl)
      rw [h1, h2] at E
      clear h1 h2
      go_enter Try.func19, Try.ntmps19
      go_wp2_with fail
      rw [← HW.out]
      refine (l06Is_any n xs ys _ _ _ _ _ _ _ hl hm H.out H'.out).mono ?_
      rw [F.out]
      rintro e w1 ⟨rfl, hb⟩
      have B1 := Lib.hid (HB.out.trans (hb.mono HB.out.size))
      have A1 := Lib.hid (HN.out.keep hb (Nat.le_refl _))
      clear hb
      go_wp2_with fail
      refine (l02Is_any _ _ _ _ _ hz A1.out).mono ?_
      rw [F2.out]
      rintro e w' ⟨rfl, rfl⟩
      go_wp2
      go_ret2
      exact ⟨E.out, B1.out⟩
    · have F2 := Lib.hid h2
      obtain ⟨e1, e2, -⟩ := isM_rel h1
      have hn0 : 0 ≤ n := by omega
      have hn30 : n ≤ 30 := by omega
      clear e1 e2
      cases hw : wlB n m
      · have E := Lib.hid (ta_out h1 h2 hw)
        have FW := Lib.hid hw
        clear h1 h2 hw
        rw [F.out, F2.out] at E
        go_enter Try.func19, Try.ntmps19
        go_wp2_with fail
        rw [← HW.out]
        refine (l06Is_any n xs ys _ _ _ _ _ _ _ hl hm H.out H'.out).mono ?_
        rw [F.out]
        rintro e w1 ⟨rfl, hb⟩
        have B1 := Lib.hid (HB.out.trans (hb.mono HB.out.size))
        have A1 := Lib.hid (HN.out.keep hb (Nat.le_refl _))
        have X1 := Lib.hid (X.out.keep hb)
        clear hb
        go_wp2_with fail
        refine (l02Is_any _ _ _ _ _ hz A1.out).mono ?_
        rw [F2.out]
        rintro e w' ⟨rfl, rfl⟩
        obtain ⟨lt, x0, x1, x2⟩ := X1.out
        go_wp2_with fail
        refine (l05World_any n m _ _ _ _ hn0 hn30).mono ?_
        rw [FW.out]
        rintro e w2 ⟨rfl, hb⟩
        have B2 := Lib.hid (B1.out.trans (hb.mono B1.out.size))
        clear hb x0 x1 x2
        go_wp2
        go_ret2
        exact ⟨E.out, B2.out⟩
      · have E := Lib.hid (ta_ok h1 h2 hw)
        have FW := Lib.hid hw
        have hm0 : 0 ≤ m := by simp [wlB] at hw; omega
        have hm1 : m ≤ 30 := by simp [wlB] at hw; omega
        clear hw
        obtain ⟨f1, -, -⟩ := toFm_of h2
        obtain ⟨b2, off, rfl, hF⟩ := HN.out.formula h2 hc1 hc2
        have HF := Lib.hid hF
        have T := Lib.hid (l06Truth_any (toFm zs) f1)
        have MO := Lib.hid (Mo.of h1 H.out H'.out)
        clear h1 h2 hF f1
        rw [F.out, F2.out] at E
        go_enter Try.func19, Try.ntmps19
        go_wp2_with fail
        rw [← HW.out]
        refine (l06Is_any n xs ys _ _ _ _ _ _ _ hl hm H.out H'.out).mono ?_
        rw [F.out]
        rintro e w1 ⟨rfl, hb⟩
        have B1 := Lib.hid (HB.out.trans (hb.mono HB.out.size))
        have A1 := Lib.hid (HN.out.keep hb (Nat.le_refl _))
        have M1 := Lib.hid (MO.out.keep hb)
        have HF1 := Lib.hid (HF.out.keep hb (Nat.le_refl _))
        have X1 := Lib.hid (X.out.keep hb)
        clear hb
        go_wp2_with fail
        refine (l02Is_any _ _ _ _ _ hz A1.out).mono ?_
        rw [F2.out]
        rintro e w' ⟨rfl, rfl⟩
        obtain ⟨lt, x0, x1, x2⟩ := X1.out
        go_wp2_with fail
        refine (l05World_any n m _ _ _ _ hn0 hn30).mono ?_
        rw [FW.out]
        rintro e w2 ⟨rfl, hb⟩
        have B2 := Lib.hid (B1.out.trans (hb.mono B1.out.size))
        have M2 := Lib.hid (M1.out.keep hb)
        have HF2 := Lib.hid (HF1.out.keep hb (Nat.le_refl _))
        clear x0 x1 x2
        obtain ⟨lt', x0, x1, x2⟩ := X1.out.keep hb
        clear hb
        go_wp2_with fail
        refine (T.out n xs ys a cap b d _ _ _ _ _ hz M2.out HF2.out).mono ?_
        rintro e w3 ⟨rfl, hb⟩
        have B3 := Lib.hid (B2.out.trans (hb.mono B2.out.size))
        clear hb x0 x1 x2
        go_wp2_with (go_at_call 52; refine (l01Bit_any _ _ _ hm0 hm1).mono ?_; rintro e w' ⟨rfl, rfl⟩)
        go_ret2
        exact ⟨E.out, B3.out⟩

set_option maxHeartbeats 1000000 in
theorem implIsTrueAt_v (n : Int) (xs ys : List Int) (m : Int) (zs : List Nd) (v : Value) (lo hi : Nat) (v' : Value) (lo' hi' : Nat) (w : World) (hl : xs.length ≤ 1048576) (hm : ys.length ≤ 1048576) (hz : zs.length ≤ 1048576) (h : InM w lo hi v n xs ys) (h' : InN w lo' hi' v' zs) :
    Calls Try.prog 20 #[v, .int .i64 m, v'] w fun e w' => e = .returned (.tuple #[.bool (taV n xs ys m zs), .int .i64 (taC (mdC (isM n xs ys) (isB zs zs.length)) n m)]) ∧ Below w.heap.size w w' := by
  obtain ⟨a, cap, b, d, rfl, hat, hat', -⟩ := h.at
  obtain ⟨c, cp, rfl, hn, hc1, hc2⟩ := h'.at'
  obtain ⟨W, hW, hb0, hx, hWs⟩ := boxM (w := w) n a xs.length cap b ys.length d 34
  have HB := Lib.hid hb0
  have X := Lib.hid hx
  have H := Lib.hid (hat.keep hb0 (Nat.le_refl _))
  have H' := Lib.hid (hat'.keep hb0 (Nat.le_refl _))
  have HN := Lib.hid (hn.keep hb0 (Nat.le_refl _))
  have HW := Lib.hid hW
  have CK := Lib.hid (show ∀ (t : TypeId) (C : Nat), C = W.heap.size → Calls Try.prog 48 #[.agg #[.int .i64 n, .slice a xs.length cap, .slice b ys.length d], .slice (some ⟨C, 0, none⟩) 1 1] (W.alloc (.cells #[.slice c zs.length cp] t)) fun e w' => e = .returned (.int .i64 (mdC (isM n xs ys) (isB zs zs.length))) ∧ Below W.heap.size W w' from fun t C hC => by
    have b1 : Below W.heap.size W (W.alloc (.cells #[.slice c zs.length cp] t)) := (alloc_keep _ _).1
    refine (checkModel_any n xs ys a _ cap b _ d [zs] (some ⟨C, 0, none⟩) 1 1 _ hl hm (by omega) (nthL_le1 hz) (H.out.keep b1 (Nat.le_refl _)) (H'.out.keep b1 (Nat.le_refl _)) (lay1 HN.out t hC)).mono ?_
    rintro e w' ⟨rfl, hb⟩
    exact ⟨by rw [okAll_1], b1.trans (hb.mono b1.size)⟩)
  clear h h' hb0 hx hW hat hat' hn
  cases hb : (isM n xs ys && isB zs zs.length)
  · have E := Lib.hid (ta_no (m := m) (n := n) (xs := xs) (ys := ys) (zs := zs) rfl rfl hb)
    have C := Lib.hid (show mdC (isM n xs ys) (isB zs zs.length) = 1 by rw [mdC, hb]; rfl)
    clear hb
    go_enter Try.func20, Try.ntmps20
    go_wp2_with fail
    rw [← HW.out]
    refine (CK.out _ _ hWs.symm).mono ?_
    rw [C.out]
    rintro e w1 ⟨rfl, hb⟩
    have B1 := Lib.hid (HB.out.trans (hb.mono HB.out.size))
    clear hb
    go_wp2
    go_ret2
    exact ⟨by rw [← C.out]; exact C.out ▸ E.out, B1.out⟩
  · have C := Lib.hid (show mdC (isM n xs ys) (isB zs zs.length) = 0 by rw [mdC, hb]; rfl)
    rw [Bool.and_eq_true] at hb
    obtain ⟨h1, h2⟩ := hb
    obtain ⟨e1, e2, -⟩ := isM_rel h1
    have hn0 : 0 ≤ n := by omega
    have hn30 : n ≤ 30 := by omega
    clear e1 e2
    cases hw : wlB n m
    · have E := Lib.hid (ta_out h1 h2 hw)
      have FW := Lib.hid hw
      clear h1 h2 hw
      rw [C.out] at E
      go_enter Try.func20, Try.ntmps20
      go_wp2_with fail
      rw [← HW.out]
      refine (CK.out _ _ hWs.symm).mono ?_
      rw [C.out]
      rintro e w1 ⟨rfl, hb⟩
      have B1 := Lib.hid (HB.out.trans (hb.mono HB.out.size))
      obtain ⟨lt, x0, x1, x2⟩ := X.out.keep hb
      clear hb
      go_wp2_with (go_at_call 53; refine (isBelow_any _ _ _).mono ?_; rw [FW.out]; rintro e w' ⟨rfl, rfl⟩)
      go_ret2
      exact ⟨C.out ▸ E.out, B1.out⟩
    · have E := Lib.hid (ta_ok h1 h2 hw)
      have FW := Lib.hid hw
      have hm0 : 0 ≤ m := by simp [wlB] at hw; omega
      have hm1 : m ≤ 30 := by simp [wlB] at hw; omega
      clear hw
      obtain ⟨f1, -, -⟩ := toFm_of h2
      obtain ⟨b2, off, rfl, hF⟩ := HN.out.formula h2 hc1 hc2
      have HF := Lib.hid hF
      have T := Lib.hid (truth_any (toFm zs) f1)
      have MO := Lib.hid (Mo.of h1 H.out H'.out)
      clear h1 h2 hF f1
      rw [C.out] at E
      go_enter Try.func20, Try.ntmps20
      go_wp2_with fail
      rw [← HW.out]
      refine (CK.out _ _ hWs.symm).mono ?_
      rw [C.out]
      rintro e w1 ⟨rfl, hb⟩
      have B1 := Lib.hid (HB.out.trans (hb.mono HB.out.size))
      have M1 := Lib.hid (MO.out.keep hb)
      have HF1 := Lib.hid (HF.out.keep hb (Nat.le_refl _))
      obtain ⟨lt, x0, x1, x2⟩ := X.out.keep hb
      clear hb
      go_wp2_with (go_at_call 53; refine (isBelow_any _ _ _).mono ?_; rw [FW.out]; rintro e w' ⟨rfl, rfl⟩)
      refine (T.out n xs ys a cap b d _ _ _ _ _ hz M1.out HF1.out).mono ?_
      rintro e w2 ⟨rfl, hb⟩
      have B2 := Lib.hid (B1.out.trans (hb.mono B1.out.size))
      clear hb x0 x1 x2
      go_wp2_with (go_at_call 54; refine (hasMember_any _ _ _ hm0 hm1).mono ?_; rintro e w' ⟨rfl, rfl⟩)
      go_ret2
      exact ⟨C.out ▸ E.out, B2.out⟩

end Go.Proofs.Ytomldealpmohhaa
