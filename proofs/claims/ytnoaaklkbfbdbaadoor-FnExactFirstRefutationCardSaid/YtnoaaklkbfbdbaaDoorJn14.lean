/- 2 texts in one: TrV, VaS. -/
import Derived.Test.YtnoaaklkbfbdbaaDoorTrP
import Derived.Test.YtnoaaklkbfbdbaaDoorJn13
import Derived.Test.YtnoaaklkbfbdbaaDoorVlS
import Derived.Test.YtnoaaklkbfbdbaaDoorJn12
/- Contracts of TruthSet, IsTrueAt and IsTrueIn of the model and of the program, at every argument. Conditions: those in the theorems. -/
namespace Go.Proofs.YtnoaaklkbfbdbaaDoor
open Go.RowKit

def mdC (b1 b2 : Bool) : Int := if b1 && b2 then 0 else 1

set_option maxHeartbeats 400000 in
theorem truth_any (f : Fm) (hf : f.ok) (n : Int) (xs ys : List Int) (a : Option Addr) (cap : Nat) (a' : Option Addr) (cap' : Nat) (b off len cp : Nat) (w : World) (hl : len ≤ 1048576) (hm : Mo w n a a' xs ys) (h : AtF w b off len cp f) :
    Calls Tryd.prog 46 #[.agg #[.int .i64 n, .slice a xs.length cap, .slice a' ys.length cap'], .slice (some ⟨b, off, none⟩) len cp] w fun e w' => e = .returned (.int .i64 (f.tr xs ys)) ∧ Below w.heap.size w w' := by
  obtain ⟨W, hW, hb0, hx, hWs⟩ := boxM (w := w) n a xs.length cap a' ys.length cap' 59
  have HB := Lib.hid hb0
  have T := truthAt_any f hf n xs ys a cap a' cap' f.enc b off len cp 0 [] W hl (hm.keep hb0) (h.1.keep hb0 (Nat.le_refl _)) (by simp)
  obtain ⟨en, hen⟩ : ∃ en : Int, en = ((0 + f.sz : Nat) : Int) := ⟨_, rfl⟩
  rw [← hen] at T
  have T1 := Lib.hid T
  have HW := Lib.hid hW
  clear h hm hb0 hx hW T hen
  go_enter Tryd.func46, Tryd.ntmps46
  go_wp2_with fail
  rw [← HW.out]
  refine T1.out.mono ?_
  rintro e w1 ⟨rfl, hb⟩
  have B1 := Lib.hid (HB.out.trans (hb.mono HB.out.size))
  clear hb
  go_wp2
  go_ret
  exact ⟨rfl, B1.out⟩

set_option maxHeartbeats 2000000 in
set_option maxRecDepth 100000 in
theorem falsity_any (f : Fm) (hf : f.ok) (n : Int) (xs ys : List Int) (a : Option Addr) (cap : Nat) (a' : Option Addr) (cap' : Nat) (b off len cp : Nat) (w : World) (hl : len ≤ 1048576) (hm : Mo w n a a' xs ys) (h : AtF w b off len cp f) :
    Calls Tryd.prog 29 #[.agg #[.int .i64 n, .slice a xs.length cap, .slice a' ys.length cap'], .slice (some ⟨b, off, none⟩) len cp] w fun e w' => e = .returned (.int .i64 (bits .andNot .i64 (full n) (f.tr xs ys))) ∧ Below w.heap.size w w' := by
  obtain ⟨W, hW, hb0, hx, hWs⟩ := boxM (w := w) n a xs.length cap a' ys.length cap' 59
  have HB := Lib.hid hb0
  have X := Lib.hid hx
  have T := Lib.hid (show ∀ w1 : World, Below W.heap.size W w1 → _ from fun w1 hw => truth_any f hf n xs ys a cap a' cap' b off len cp w1 hl ((hm.keep hb0).keep hw) ((h.keep hb0 (Nat.le_refl _)).keep hw (Nat.le_refl _)))
  obtain ⟨hn, h8, -⟩ := hm
  have hn0 : 0 ≤ n := by omega
  have hn30 : n ≤ 30 := by omega
  obtain ⟨lt, x0, x1, x2⟩ := hx
  have HW := Lib.hid hW
  clear h hb0 hW hn h8
  go_enter Tryd.func29, Tryd.ntmps29
  go_wp2
  rw [← HW.out]
  go_region_held3 (fun w' => w'.cell? ⟨w.heap.size, 0, none⟩ = some (.int .i64 n) ∧ w'.cell? ⟨w.heap.size, 1, none⟩ = some (.slice a xs.length cap) ∧ w'.cell? ⟨w.heap.size, 2, none⟩ = some (.slice a' ys.length cap')) (first | exact ⟨z0, z1, z2⟩ | exact ⟨y0, y1, y2⟩ | exact ⟨x0, x1, x2⟩ | go_keep) (first | (go_at_call 45; refine (allWorlds_any n _ _ _ _ hn0 hn30).mono ?_; rintro e w1 ⟨rfl, hb⟩; have T1 := Lib.hid (show Below W.heap.size W w1 from below_of_drew hb); clear hb; obtain ⟨ly, y0, y1, y2⟩ := X.out.keep T1.out) | (go_at_call 46; refine (T.out _ T1.out).mono ?_; rintro e w2 ⟨rfl, hb⟩; have T2 := Lib.hid (show Below W.heap.size W w2 from T1.out.trans (hb.mono T1.out.size)); clear hb; obtain ⟨lz, z0, z1, z2⟩ := X.out.keep T2.out))
  all_goals
    go_wp2
    go_ret
    exact ⟨rfl, HB.out.trans (T2.out.mono HB.out.size)⟩

/-! TruthSet -/
noncomputable def tsV (n : Int) (xs ys : List Int) (zs : List Nd) : Int := if mdC (isM n xs ys) (isB zs zs.length) = 0 then (toFm zs).tr xs ys else 0
theorem ts_ok {n : Int} {xs ys : List Int} {zs : List Nd} (h1 : isM n xs ys = true) (h2 : isB zs zs.length = true) : Ending.returned (.tuple #[.int .i64 ((toFm zs).tr xs ys), .int .i64 0]) = .returned (.tuple #[.int .i64 (tsV n xs ys zs), .int .i64 (mdC (isM n xs ys) (isB zs zs.length))]) := by rw [tsV, h1, h2]; rfl
theorem ts_no {n : Int} {xs ys : List Int} {zs : List Nd} {b1 b2 : Bool} (h : isM n xs ys = b1) (h' : isB zs zs.length = b2) (hb : (b1 && b2) = false) : Ending.returned (.tuple #[.int .i64 0, .int .i64 1]) = .returned (.tuple #[.int .i64 (tsV n xs ys zs), .int .i64 (mdC (isM n xs ys) (isB zs zs.length))]) := by rw [tsV, h, h', mdC, hb]; rfl

end Go.Proofs.YtnoaaklkbfbdbaaDoor

/- The model's variables of some formulas, and the errors of a search over them. Conditions: those in the theorems. -/
namespace Go.Proofs.YtnoaaklkbfbdbaaDoor
open Go.RowKit

/-- The variables of the first j lists, as a mask. -/
def mkL (xss : List (List Nd)) : Nat → Nat
  | 0 => 0
  | j + 1 => mkL xss j ||| mkTo (nthL xss j) (nthL xss j).length
/-- A mask with the first k numbers of a list beside. -/
def muN (p : Nat) (vs : List Int) : Nat → Nat
  | 0 => p
  | k + 1 => muN p vs k ||| 2 ^ (nth vs k).toNat
theorem mkL_lt {xss : List (List Nd)} {l : Nat} (h : okAll xss l = true) : ∀ j, j ≤ l → mkL xss j < 64
  | 0, _ => by show 0 < 64; omega
  | j + 1, hj => by
    have h1 := mkL_lt h j (by omega)
    have h2 := mkTo_lt (is_tree (okAll_at h (show j < l by omega))).1 _ (Nat.le_refl _)
    rw [mkL]
    exact Nat.or_lt_two_pow (n := 6) h1 h2
theorem muN_lt {p : Nat} {vs : List Int} (hp : p < 64) (hv : Vs vs) : ∀ k, k ≤ vs.length → muN p vs k < 64
  | 0, _ => hp
  | k + 1, hk => by
    obtain ⟨q, hq, hq6⟩ := hv.lt k (by omega)
    rw [muN, hq, Int.toNat_natCast]
    exact Nat.or_lt_two_pow (n := 6) (muN_lt hp hv k (by omega)) (Nat.pow_lt_pow_right (by decide) hq6)
theorem bitN_tb (m i : Nat) : bitN m i = m.testBit i := by rw [Nat.testBit_eq_decide_div_mod_eq]; rfl
theorem muN_tb {p : Nat} {vs : List Int} (i : Nat) : ∀ k, (muN p vs k).testBit i = true ↔ p.testBit i = true ∨ ∃ j, j < k ∧ (nth vs j).toNat = i
  | 0 => by simp [muN]
  | k + 1 => by
    rw [muN, Nat.testBit_or, Bool.or_eq_true, muN_tb i k, Nat.testBit_two_pow, decide_eq_true_eq]
    constructor
    · rintro ((h | ⟨j, a, b⟩) | h)
      · exact .inl h
      · exact .inr ⟨j, by omega, b⟩
      · exact .inr ⟨k, by omega, h⟩
    · rintro (h | ⟨j, a, b⟩)
      · exact .inl (.inl h)
      · by_cases e : j = k
        · subst e; exact .inr b
        · exact .inl (.inr ⟨j, by omega, b⟩)
theorem muN_mem {p q : Nat} (hq : q < 64) : muN p (memTo q 30) (memTo q 30).length = p ||| q := by
  refine Nat.eq_of_testBit_eq fun i => ?_
  rw [Bool.eq_iff_iff, muN_tb, Nat.testBit_or, Bool.or_eq_true]
  refine or_congr Iff.rfl ?_
  constructor
  · rintro ⟨j, hj, he⟩
    have e : nth (memTo q 30) j = (memTo q 30)[j] := by show ((memTo q 30)[j]?).getD 0 = _; rw [List.getElem?_eq_getElem hj]; rfl
    have hm : (memTo q 30)[j] ∈ memTo q 30 := List.getElem_mem hj
    obtain ⟨i', h1, h2, h3⟩ := (mem_bit q _ 30).1 hm
    rw [e, h3, Int.toNat_natCast] at he
    subst he
    rw [← bitN_tb]; exact h2
  · intro h
    have hi : i < 30 := by
      by_cases e : i < 30
      · exact e
      · rw [Nat.testBit_lt_two_pow (Nat.lt_of_lt_of_le hq (show 64 ≤ 2 ^ i from Nat.le_trans (show 64 ≤ 2 ^ 30 by decide) (Nat.pow_le_pow_right (by decide) (by omega))))] at h
        cases h
    have hm := (mem_bit q (i : Int) 30).2 ⟨i, hi, by rw [bitN_tb]; exact h, rfl⟩
    obtain ⟨j, hj, e⟩ := List.getElem_of_mem hm
    refine ⟨j, hj, ?_⟩
    have e2 : nth (memTo q 30) j = (memTo q 30)[j] := by show ((memTo q 30)[j]?).getD 0 = _; rw [List.getElem?_eq_getElem hj]; rfl
    rw [e2, e, Int.toNat_natCast]

set_option maxHeartbeats 2000000 in
theorem l06Variables_any (xss : List (List Nd)) (a : Option Addr) (l cap : Nat) (w : World) (hl : l ≤ 2097152) (hok : okAll xss l = true) (h : AtNN w a l xss) :
    Calls Tryd.prog 51 #[.slice a l cap] w fun e w' => ∃ v, e = .returned v ∧ Own w' w.heap.size v (memTo (mkL xss l) 30) ∧ Below w.heap.size w w' := by
  have H := Lib.hid h
  have OK := Lib.hid hok
  clear h hok
  go_enter Tryd.func51, Tryd.ntmps51
  go_wp2
  go_loopw [3, 4] (fun m i wr => ∃ j : Nat, j ≤ l ∧ i = .int .i64 j ∧ m = .int .i64 (mkL xss j) ∧ Hid (Below w.heap.size w wr)) (fun _ i _ => l - (intOf i).toNat)
  case atStart => exact ⟨0, Nat.zero_le _, rfl, rfl, Lib.hid (Below.refl _ _)⟩
  case round =>
    obtain ⟨j, hj, rfl, rfl, B⟩ := hrel
    by_cases hlt : j < l
    · obtain ⟨b, o, rfl, hb, hc⟩ := (H.out.keep B.out (Nat.le_refl _)).2.resolve_left (by omega)
      obtain ⟨a2, c2, g, hz⟩ := hc j hlt
      have hbj := okAll_at OK.out hlt
      obtain ⟨ht, h40⟩ := is_tree hbj
      obtain ⟨zs, hzs⟩ : ∃ zs, zs = nthL xss j := ⟨_, rfl⟩
      have ZZ := Lib.hid hzs
      rw [← hzs] at g hz ht h40 hbj
      obtain ⟨q, hq⟩ : ∃ q, q = mkTo zs zs.length := ⟨_, rfl⟩
      have LV := Lib.hid (by have z := l02Variables_any zs a2 zs.length c2 wr h40 ht hz; rw [← hq] at z; exact z)
      have hq64 : q < 64 := by rw [hq]; exact mkTo_lt ht _ (Nat.le_refl _)
      have hp64 := mkL_lt OK.out j (by omega)
      obtain ⟨p, hp⟩ : ∃ p, p = mkL xss j := ⟨_, rfl⟩
      have NX := Lib.hid (show mkL xss (j + 1) = p ||| q by rw [mkL, ← hp, ← hzs, hq])
      have VS := Lib.hid (mem_vs hq64)
      have MU := Lib.hid (muN_mem (p := p) hq64)
      rw [← hp] at hp64 ⊢
      obtain ⟨vs, hvs⟩ : ∃ vs, vs = memTo q 30 := ⟨_, rfl⟩
      rw [← hvs] at LV VS MU
      have v6 := VS.out.l6
      clear hc hz hbj ht h40 hzs hq hp hvs
      go_wp2_with fail
      clear g
      refine LV.out.mono ?_
      rintro e w1 ⟨v, rfl, ho, hb1⟩
      obtain ⟨av, cv, rfl, hat, -⟩ := ho.at
      have A := Lib.hid hat
      have B1 := Lib.hid (B.out.trans (hb1.mono B.out.size))
      clear ho hat hb1
      go_wp2
      go_loop [3, 6] (fun m i => ∃ k s : Nat, k ≤ vs.length ∧ i = .int .i64 k ∧ m = .int .i64 s ∧ Hid (s = muN p vs k)) (fun _ i => vs.length - (intOf i).toNat)
      case atStart => exact ⟨0, p, Nat.zero_le _, rfl, rfl, Lib.hid rfl⟩
      case round =>
        obtain ⟨k, s, hk, rfl, rfl, S⟩ := hrel
        by_cases hkt : k < vs.length
        · obtain ⟨b3, o3, rfl, hb3, hc3⟩ := A.out.2.resolve_left (by omega)
          have g3 := hc3 k hkt
          obtain ⟨x, hx, hx6⟩ := VS.out.lt k hkt
          rw [hx] at g3
          have hs64 : s < 64 := by rw [S.out]; exact muN_lt hp64 VS.out k hk
          have hpow : 2 ^ x < 2 ^ 6 := Nat.pow_lt_pow_right (by decide) hx6
          obtain ⟨r, hr⟩ : ∃ r, r = 2 ^ x := ⟨_, rfl⟩
          have h1 : one (x : Int) = (r : Int) := by rw [one_eq _ (by omega) (by omega), Int.toNat_natCast, hr]; simp
          rw [← hr] at hpow
          have hor : bits .or .i64 (s : Int) (r : Int) = ((s ||| r : Nat) : Int) := ior s r (Nat.lt_of_lt_of_le hs64 (Nat.pow_le_pow_right (n := 2) (i := 6) (j := 63) (by decide) (by decide))) (Nat.lt_of_lt_of_le hpow (Nat.pow_le_pow_right (by decide) (by decide)))
          have HS : Hid (s ||| r = muN p vs (k + 1)) := by show s ||| r = _; rw [muN, ← S.out, hx, Int.toNat_natCast, hr]
          have HH1 := Lib.hid h1
          obtain ⟨t, ht⟩ : ∃ t, t = s ||| r := ⟨_, rfl⟩
          rw [← ht] at hor HS
          clear hc3 hx hr h1 ht hpow
          go_wp2_with (go_at_call 37; refine (l01One_any _ _ (by omega) (by omega)).mono ?_; rw [HH1.out]; rintro e w' ⟨rfl, rfl⟩)
          go_round
          case rel => exact ⟨k + 1, t, hkt, by go_num, by rw [← hor], HS⟩
          case measure => simp [intOf]; omega
        · obtain rfl : k = vs.length := by omega
          have E := Lib.hid (show s = mkL xss (j + 1) by rw [S.out, MU.out, NX.out])
          go_wp2
          go_roundw
          case rel => exact ⟨j + 1, hlt, by go_num, by rw [E.out], B1⟩
          case measure => simp [intOf]; omega
    · obtain rfl : j = l := by omega
      have h64 := mkL_lt OK.out j (Nat.le_refl _)
      go_wp2_with fail
      refine (l01List_any _ (by omega) _).mono ?_
      rintro e w1 ⟨v, rfl, ho, hb⟩
      have O := Lib.hid (ho.mono B.out.size)
      have B1 := Lib.hid (B.out.trans (hb.mono B.out.size))
      clear ho hb
      go_wp2
      go_ret
      exact ⟨_, rfl, O.out, B1.out⟩

end Go.Proofs.YtnoaaklkbfbdbaaDoor
