/- 3 texts in one: IsMo, Sum, Prt2. -/
import Derived.Test.YtomldealpmohhaaMo
import Derived.Test.YtomldealpmohhaaJn09
/- Contracts of what asks whether a model is one, of the model and of the program. Conditions: those in the theorems. -/
namespace Go.Proofs.Ytomldealpmohhaa
open Go.RowKit

def isM (n : Int) (xs ys : List Int) : Bool := frB n xs && decide ((ys.length : Int) = 6) && mksTo n ys ys.length
theorem isM_no1 {n : Int} {xs ys : List Int} (h : frB n xs = false) : isM n xs ys = false := by rw [isM, h]; rfl
theorem isM_no2 {n : Int} {xs ys : List Int} (h : ¬ (ys.length : Int) = 6) : isM n xs ys = false := by rw [isM, decide_eq_false h, Bool.and_false]; rfl
theorem isM_eq {n : Int} {xs ys : List Int} {b : Bool} (h1 : frB n xs = true) (h2 : (ys.length : Int) = 6) (h3 : mksTo n ys ys.length = b) : isM n xs ys = b := by rw [isM, h1, decide_eq_true h2, h3]; rfl
theorem isM_ok {n : Int} {xs ys : List Int} (h : isM n xs ys = true) : frB n xs = true ∧ n = xs.length ∧ xs.length ≤ 8 ∧ mksTo xs.length xs xs.length = true ∧ ys.length = 6 ∧ mksTo xs.length ys ys.length = true := by
  unfold isM at h
  rw [Bool.and_eq_true, Bool.and_eq_true, decide_eq_true_eq] at h
  obtain ⟨⟨h1, h2⟩, h3⟩ := h
  obtain ⟨h4, h5, h6, -⟩ := frB_ok h1
  exact ⟨h1, h4, h5, h6, by omega, by rw [← h4]; exact h3⟩

set_option maxHeartbeats 400000 in
theorem l06Is_any (n : Int) (xs ys : List Int) (a : Option Addr) (len cap : Nat) (b : Option Addr) (m d : Nat) (w : World) (hl : len ≤ 1048576) (hm : m ≤ 1048576) (h : At w a len xs) (h' : At w b m ys) :
    Calls Try.prog 44 #[.agg #[.int .i64 n, .slice a len cap, .slice b m d]] w fun e w' => e = .returned (.bool (isM n xs ys)) ∧ Below w.heap.size w w' := by
  obtain ⟨W, hW, hb0, hx, hWs⟩ := boxM (w := w) n a len cap b m d 34
  have HB := Lib.hid hb0
  have X := Lib.hid hx
  have H := Lib.hid (h.keep hb0 (Nat.le_refl _))
  have H' := Lib.hid (h'.keep hb0 (Nat.le_refl _))
  obtain rfl := h.1
  obtain rfl := h'.1
  have HW := Lib.hid hW
  clear h h' hb0 hx hW
  cases h1 : frB n xs
  · have F := Lib.hid (isM_no1 (ys := ys) h1)
    have F1 := Lib.hid h1
    clear h1
    go_enter Try.func44, Try.ntmps44
    go_wp2_with fail
    rw [← HW.out]
    refine (l05Is_any n xs _ _ _ _ hl H.out).mono ?_
    rw [F1.out]
    rintro e w1 ⟨rfl, hb⟩
    have B1 := Lib.hid (HB.out.trans (hb.mono HB.out.size))
    clear hb
    go_wp2
    go_ret
    exact ⟨ret_bool F.out.symm, B1.out⟩
  · have F1 := Lib.hid h1
    by_cases h2 : (ys.length : Int) = 6
    · have hn : 0 ≤ n ∧ n ≤ 8 := by obtain ⟨h4, h5, -, -⟩ := frB_ok h1; omega
      obtain ⟨hn1, hn2⟩ := hn
      cases h3 : mksTo n ys ys.length
      all_goals
        have F := Lib.hid (isM_eq h1 h2 h3)
        have F3 := Lib.hid h3
        have h2' : ((ys.length : Int) == 6) = true := by simpa using h2
        clear h3 h2
        go_enter Try.func44, Try.ntmps44
        go_wp2_with fail
        rw [← HW.out]
        refine (l05Is_any n xs _ _ _ _ hl H.out).mono ?_
        rw [F1.out]
        rintro e w1 ⟨rfl, hb⟩
        have B1 := Lib.hid (HB.out.trans (hb.mono HB.out.size))
        have H1 := Lib.hid (H'.out.keep hb (Nat.le_refl _))
        obtain ⟨lt, x0, x1, x2⟩ := X.out.keep hb
        clear hb
        go_wp2_with fail
        refine (l01Masks_any _ ys _ _ _ _ (by omega) (by omega) hm H1.out).mono ?_
        rw [F3.out]
        rintro e w2 ⟨rfl, q, rfl⟩
        clear x0 x1 x2
        go_wp2
        go_ret
        exact ⟨ret_bool F.out.symm, below_drewN B1.out q⟩
    · have F := Lib.hid (isM_no2 (n := n) (xs := xs) h2)
      have h2' : ((ys.length : Int) == 6) = false := by simpa using h2
      clear h1 h2
      go_enter Try.func44, Try.ntmps44
      go_wp2_with fail
      rw [← HW.out]
      refine (l05Is_any n xs _ _ _ _ hl H.out).mono ?_
      rw [F1.out]
      rintro e w1 ⟨rfl, hb⟩
      have B1 := Lib.hid (HB.out.trans (hb.mono HB.out.size))
      obtain ⟨lt, x0, x1, x2⟩ := X.out.keep hb
      clear hb
      go_wp2
      go_ret
      exact ⟨ret_bool F.out.symm, B1.out⟩

theorem mks_no {n : Int} {xs : List Int} {k l : Nat} (hk : k < l) (h : mskB n (nth xs k) = false) : mksTo n xs l = false := by
  induction l with
  | zero => omega
  | succ l ih =>
    rw [mksTo]
    by_cases e : k = l
    · subst e; rw [h, Bool.and_false]
    · rw [ih (by omega)]; rfl

set_option maxHeartbeats 400000 in
theorem implIsModel_any (n : Int) (xs ys : List Int) (a : Option Addr) (len cap : Nat) (b : Option Addr) (m d : Nat) (w : World) (hl : len ≤ 1048576) (hm : m ≤ 1048576) (h : At w a len xs) (h' : At w b m ys) :
    Calls Try.prog 70 #[.agg #[.int .i64 n, .slice a len cap, .slice b m d]] w fun e w' => e = .returned (.bool (isM n xs ys)) ∧ Below w.heap.size w w' := by
  obtain ⟨W, hW, hb0, hx, hWs⟩ := boxM (w := w) n a len cap b m d 34
  have HB := Lib.hid hb0
  have X := Lib.hid hx
  have H := Lib.hid (h.keep hb0 (Nat.le_refl _))
  have H' := Lib.hid (h'.keep hb0 (Nat.le_refl _))
  obtain rfl := h.1
  obtain rfl := h'.1
  have HW := Lib.hid hW
  clear h h' hb0 hx hW
  cases h1 : frB n xs
  · have F := Lib.hid (isM_no1 (ys := ys) h1)
    have F1 := Lib.hid h1
    clear h1
    go_enter Try.func70, Try.ntmps70
    go_wp2_with fail
    rw [← HW.out]
    refine (implIsFrame_any n xs _ _ _ _ hl H.out).mono ?_
    rw [F1.out]
    rintro e w1 ⟨rfl, hb⟩
    have B1 := Lib.hid (HB.out.trans (hb.mono HB.out.size))
    clear hb
    go_wp2
    go_ret
    exact ⟨ret_bool F.out.symm, B1.out⟩
  · have F1 := Lib.hid h1
    by_cases h2 : (ys.length : Int) = 6
    · have hn : 0 ≤ n ∧ n ≤ 8 := by obtain ⟨h4, h5, -, -⟩ := frB_ok h1; omega
      obtain ⟨hn1, hn2⟩ := hn
      have FE := Lib.hid (fun b hb => isM_eq (b := b) h1 h2 hb)
      have h2' : ((ys.length : Int) != 6) = false := by simpa using h2
      have HY6 := Lib.hid (show ys.length = 6 by omega)
      clear h2 h1
      go_enter Try.func70, Try.ntmps70
      go_wp2_with fail
      rw [← HW.out]
      refine (implIsFrame_any n xs _ _ _ _ hl H.out).mono ?_
      rw [F1.out]
      rintro e w1 ⟨rfl, hb⟩
      have B1 := Lib.hid (HB.out.trans (hb.mono HB.out.size))
      have H1 := Lib.hid (H'.out.keep hb (Nat.le_refl _))
      obtain ⟨lt, x0, x1, x2⟩ := X.out.keep hb
      clear hb
      obtain ⟨b', off, rfl, hb', hc'⟩ := H1.out.2.resolve_left (by have := HY6.out; omega)
      have HC := Lib.hid hc'
      clear hc'
      go_wp2
      clear x1 x2
      go_loop [18] (fun i => ∃ k : Nat, k ≤ ys.length ∧ i = .int .i64 k ∧ mksTo n ys k = true) (fun i => ys.length - (intOf i).toNat)
      case atStart => exact ⟨0, Nat.zero_le _, rfl, rfl⟩
      case round =>
        obtain ⟨k, hk, rfl, hmk⟩ := hrel
        have M := Lib.hid hmk
        clear hmk
        by_cases hlt : k < ys.length
        · have hcell := HC.out k hlt
          cases hms : mskB n (nth ys k)
          · have G := Lib.hid (FE.out false (mks_no hlt hms))
            have MS := Lib.hid hms
            clear hms
            go_wp2_with (go_at_call 61; refine (isMaskWithin_any n _ _ (by omega) (by omega)).mono ?_; rw [MS.out]; rintro e w' ⟨rfl, rfl⟩)
            go_ret
            exact ⟨ret_bool G.out.symm, B1.out⟩
          · have MS := Lib.hid hms
            clear hms
            go_wp2_with (go_at_call 61; refine (isMaskWithin_any n _ _ (by omega) (by omega)).mono ?_; rw [MS.out]; rintro e w' ⟨rfl, rfl⟩)
            go_round
            case rel => exact ⟨k + 1, hlt, by go_num, by rw [mksTo, M.out, MS.out]; rfl⟩
            case measure => simp [intOf]; omega
        · obtain rfl : k = ys.length := by omega
          have G := Lib.hid (FE.out true M.out)
          go_wp2
          go_ret
          exact ⟨ret_bool G.out.symm, B1.out⟩
    · have F := Lib.hid (isM_no2 (n := n) (xs := xs) h2)
      have h2' : ((ys.length : Int) != 6) = true := by simpa using h2
      clear h1 h2
      go_enter Try.func70, Try.ntmps70
      go_wp2_with fail
      rw [← HW.out]
      refine (implIsFrame_any n xs _ _ _ _ hl H.out).mono ?_
      rw [F1.out]
      rintro e w1 ⟨rfl, hb⟩
      have B1 := Lib.hid (HB.out.trans (hb.mono HB.out.size))
      obtain ⟨lt, x0, x1, x2⟩ := X.out.keep hb
      clear hb
      go_wp2
      go_ret
      exact ⟨ret_bool F.out.symm, B1.out⟩

end Go.Proofs.Ytomldealpmohhaa

/- Contracts of SumFrames, of the model and of the program. Conditions: those in the theorems. -/
namespace Go.Proofs.Ytomldealpmohhaa
open Go.RowKit

theorem boxFF (w : World) (n0 n1 : Int) (a0 a1 : Option Addr) (l0 c0 l1 c1 : Nat) : ∃ W : World, W = ((w.alloc (.cells #[.int .i64 n0, .slice a0 l0 c0] 32)).alloc (.cells #[.int .i64 n1, .slice a1 l1 c1] 32)).alloc (.cells #[.int .i64 0, .slice none 0 0] 32) ∧
    Hid (Below w.heap.size w W) ∧ Hid (Bx W w.heap.size n0 a0 l0 c0) ∧ Hid (Bx W (w.heap.size + 1) n1 a1 l1 c1) ∧ Hid (Bz W (w.heap.size + 1 + 1)) ∧ W.heap.size = w.heap.size + 1 + 1 + 1 := by
  refine ⟨_, rfl, Lib.hid ((((Below.refl w.heap.size w).alloc (Nat.le_refl _) _).alloc (by simp) _).alloc (by simp; omega) _), Lib.hid (((Bx.new w n0 a0 l0 c0 _).keep (alloc_keep _ _).1).keep (alloc_keep _ _).1), ?_, ?_, by simp⟩
  · have := (Bx.new (w.alloc (.cells #[.int .i64 n0, .slice a0 l0 c0] 32)) n1 a1 l1 c1 32).keep (alloc_keep _ (.cells #[.int .i64 0, .slice none 0 0] 32)).1
    exact Lib.hid (by simpa using this)
  · have := Bz.new ((w.alloc (.cells #[.int .i64 n0, .slice a0 l0 c0] 32)).alloc (.cells #[.int .i64 n1, .slice a1 l1 c1] 32))
    exact Lib.hid (by simpa using this)

def smTo (xs ys : List Int) (k : Int) : Nat → List Int
  | 0 => xs
  | j + 1 => smTo xs ys k j ++ [wrap64 (nth ys j * 2 ^ k.toNat)]
theorem smTo_len (xs ys : List Int) (k : Int) (j : Nat) : (smTo xs ys k j).length = xs.length + j := by
  induction j with
  | zero => rfl
  | succ j ih => simp [smTo, ih]; omega

theorem shl_spell {n : Int} (h0 : 0 ≤ n) (h1 : n ≤ 8) (y : Int) : IntKind.i64.wrap (y * 2 ^ min (IntKind.u64.wrap n).toNat 64) = wrap64 (y * 2 ^ n.toNat) := by
  rw [IntWalk.u64_in n (by omega), Nat.min_eq_left (by omega)]
  unfold wrap64
  exact IntKind.wrap_i64 _
theorem own_sm {w : World} {B k : Nat} {v : Value} {xs ys : List Int} {n : Int} (h : w.ownsRow B 2 1 v (xs.length + k) ((smTo xs ys n k).map (Value.int .i64))) : Own w B v (smTo xs ys n k) := by
  unfold Own; rw [smTo_len]; exact h
theorem sm_next {w : World} {B m : Nat} {v : Value} {xs ys : List Int} {n z : Int} {k : Nat} (hz : z = wrap64 (nth ys k * 2 ^ n.toNat)) (h : w.ownsRow B 2 1 v (m + k + 1) ((smTo xs ys n k).map (Value.int .i64) ++ [.int .i64 z])) :
    w.ownsRow B 2 1 v (m + (k + 1)) ((smTo xs ys n (k + 1)).map (Value.int .i64)) := by
  rw [smTo, List.map_append, ← hz, ← Nat.add_assoc]; exact h

def smC (n0 : Int) (x0 : List Int) (n1 : Int) (x1 : List Int) : Int := if frB n0 x0 && frB n1 x1 then (if 8 < n0 + n1 then 3 else 0) else 1
def smL (n0 : Int) (x0 : List Int) (n1 : Int) (x1 : List Int) : List Int := if smC n0 x0 n1 x1 = 0 then smTo x0 x1 n0 x1.length else []
theorem smC_1 {n0 n1 : Int} {x0 x1 : List Int} (h : (frB n0 x0 && frB n1 x1) = false) : smC n0 x0 n1 x1 = 1 := by rw [smC, h]; rfl
theorem smC_3 {n0 n1 : Int} {x0 x1 : List Int} (h : (frB n0 x0 && frB n1 x1) = true) (h2 : 8 < n0 + n1) : smC n0 x0 n1 x1 = 3 := by rw [smC, h, if_pos rfl, if_pos h2]
theorem smC_0 {n0 n1 : Int} {x0 x1 : List Int} (h : (frB n0 x0 && frB n1 x1) = true) (h2 : ¬ 8 < n0 + n1) : smC n0 x0 n1 x1 = 0 := by rw [smC, h, if_pos rfl, if_neg h2]
/-- A result that is a frame and a code. -/
def RF (w : World) (B : Nat) (n c : Int) (xs : List Int) (e : Ending) : Prop := ∃ v, e = .returned (.tuple #[v, .int .i64 c]) ∧ OwnF w B v n xs
theorem RF.bad {w : World} {B : Nat} {c c' n : Int} {xs : List Int} (h : c = c') (hn : n = 0) (hx : xs = []) : RF w B n c xs (.returned (.tuple #[.agg #[.int .i64 0, .slice none 0 0], .int .i64 c'])) := by
  subst h hn hx
  exact ⟨_, rfl, OwnF.mk (World.ownsRow_nil _ _ _ _)⟩
theorem RF.good {w : World} {B B' : Nat} {c n n' : Int} {v : Value} {xs xs' : List Int} (h : c = 0) (hn : n = n') (hx : xs = xs') (ho : OwnF w B' v n' xs') (hB : B ≤ B') : RF w B n c xs (.returned (.tuple #[v, .int .i64 0])) := by
  subst h hn hx
  exact ⟨_, rfl, ho.mono hB⟩

set_option maxHeartbeats 1000000 in
theorem areFrames2_any (n0 n1 : Int) (xs ys : List Int) (a0 a1 : Option Addr) (l0 c0 l1 c1 b : Nat) (w : World) (hl0 : l0 ≤ 1048576) (hl1 : l1 ≤ 1048576) (h0 : At w a0 l0 xs) (h1 : At w a1 l1 ys) (hb0 : b < w.heap.size)
    (d0 : w.cell? ⟨b, 0, none⟩ = some (.int .i64 n0)) (d1 : w.cell? ⟨b, 1, none⟩ = some (.slice a0 l0 c0)) (d2 : w.cell? ⟨b, 2, none⟩ = some (.int .i64 n1)) (d3 : w.cell? ⟨b, 3, none⟩ = some (.slice a1 l1 c1)) :
    Calls Try.prog 117 #[.slice (some ⟨b, 0, none⟩) 2 2] w fun e w' => e = .returned (.bool (frB n0 xs && frB n1 ys)) ∧ Below w.heap.size w w' := by
  have HB := Lib.hid (boxF (w := w) n0 a0 l0 c0)
  have H0 := Lib.hid (h0.keep HB.out (Nat.le_refl _))
  have H1 := Lib.hid (h1.keep HB.out (Nat.le_refl _))
  have E2 := Lib.hid ((HB.out.cell (p := ⟨b, 2, none⟩) hb0).trans d2)
  have E3 := Lib.hid ((HB.out.cell (p := ⟨b, 3, none⟩) hb0).trans d3)
  have hsz := HB.out.size
  cases hf0 : frB n0 xs
  · have F0 := Lib.hid hf0
    go_enter Try.func117, Try.ntmps117
    go_wp2
    refine wp_loop_rounds 3 ?_
    rw [rounds_succ]
    go_wp2_with fail
    refine (implIsFrame_any n0 xs _ _ _ _ hl0 H0.out).mono ?_
    rw [F0.out]
    rintro e w1 ⟨rfl, hb⟩
    have B1 := Lib.hid (HB.out.trans (hb.mono HB.out.size))
    clear hb
    go_wp2
    go_ret
    exact ⟨rfl, B1.out⟩
  · have F0 := Lib.hid hf0
    cases hf1 : frB n1 ys
    all_goals
      have F1 := Lib.hid hf1
      clear hf0 hf1
      go_enter Try.func117, Try.ntmps117
      go_wp2
      refine wp_loop_rounds 3 ?_
      rw [rounds_succ]
      go_wp2_with fail
      refine (implIsFrame_any n0 xs _ _ _ _ hl0 H0.out).mono ?_
      rw [F0.out]
      rintro e w1 ⟨rfl, hb⟩
      have B1 := Lib.hid (HB.out.trans (hb.mono HB.out.size))
      have e2 := (hb.cell (p := ⟨b, 2, none⟩) (Nat.lt_of_lt_of_le hb0 hsz)).trans E2.out
      have e3 := (hb.cell (p := ⟨b, 3, none⟩) (Nat.lt_of_lt_of_le hb0 hsz)).trans E3.out
      have H11 := Lib.hid ((H1.out.keep hb (Nat.le_refl _)).keep (boxF (w := w1) n1 a1 l1 c1) (Nat.le_refl _))
      have B1' := Lib.hid (B1.out.trans ((boxF (w := w1) n1 a1 l1 c1).mono B1.out.size))
      clear hb d0 d1 d2 d3
      go_wp2
      rw [rounds_succ]
      go_wp2_with fail
      clear e2 e3
      refine (implIsFrame_any n1 ys _ _ _ _ hl1 H11.out).mono ?_
      rw [F1.out]
      rintro e w2 ⟨rfl, hb⟩
      have B2 := Lib.hid (B1'.out.trans (hb.mono B1'.out.size))
      clear hb
      go_wp2
      first | (rw [rounds_succ]; go_wp2; go_ret; exact ⟨rfl, B2.out⟩) | (go_ret; exact ⟨rfl, B2.out⟩)

theorem cells4 (W : World) (n0 n1 : Int) (a0 a1 : Option Addr) (l0 c0 l1 c1 : Nat) : ∃ W' : World, W' = W.alloc (.cells #[.int .i64 n0, .slice a0 l0 c0, .int .i64 n1, .slice a1 l1 c1] 32) ∧ Below W.heap.size W W' ∧ W.heap.size < W'.heap.size ∧
    W'.cell? ⟨W.heap.size, 0, none⟩ = some (.int .i64 n0) ∧ W'.cell? ⟨W.heap.size, 1, none⟩ = some (.slice a0 l0 c0) ∧ W'.cell? ⟨W.heap.size, 2, none⟩ = some (.int .i64 n1) ∧ W'.cell? ⟨W.heap.size, 3, none⟩ = some (.slice a1 l1 c1) :=
  ⟨_, rfl, (alloc_keep _ _).1, by simp, World.cell?_alloc_at _ _ _ _ rfl, World.cell?_alloc_at _ _ _ _ rfl, World.cell?_alloc_at _ _ _ _ rfl, World.cell?_alloc_at _ _ _ _ rfl⟩

end Go.Proofs.Ytomldealpmohhaa

/- Contracts of arranged of the program and of PartOfFrame of both. Conditions: those in the theorems. -/
namespace Go.Proofs.Ytomldealpmohhaa
open Go.RowKit

/-- The row under way: entries below i are done. -/
def arS (xs ls : List Int) (i t : Nat) : Int := if t < i then arF xs ls t else 0
theorem arS_start (xs ls : List Int) (t : Nat) : arS xs ls 0 t = 0 := by unfold arS; rw [if_neg (by omega)]
theorem arS_all {xs ls : List Int} {n t : Nat} (h : t < n) : arS xs ls n t = arF xs ls t := by unfold arS; rw [if_pos h]
theorem arS_set {xs ls : List Int} {k : Nat} {z : Int} (hz : z = arF xs ls k) (t : Nat) : (if t = k then z else arS xs ls k t) = arS xs ls (k + 1) t := by
  unfold arS
  by_cases e : t = k
  · subst e; rw [if_pos rfl, if_pos (by omega), hz]
  · rw [if_neg e]
    by_cases h2 : t < k
    · rw [if_pos h2, if_pos (by omega)]
    · rw [if_neg h2, if_neg (by omega)]

set_option maxHeartbeats 400000 in
theorem placesIn_any (ls : List Int) (x : Int) (n : Nat) (a : Option Addr) (len cap : Nat) (w : World) (hl : len ≤ 30) (hn : n ≤ 30) (hok : LsOk n ls) (h : At w a len ls) :
    Calls Try.prog 100 #[.slice a len cap, .int .i64 x] w fun e w' => e = .returned (.int .i64 (sqTo ls x len)) ∧ w = w' := by
  obtain rfl := h.1
  have H := Lib.hid h
  have OK := Lib.hid hok
  clear h hok
  go_enter Try.func100, Try.ntmps100
  go_wp2
  go_loop [5, 10] (fun s i => ∃ k : Nat, k ≤ ls.length ∧ i = .int .i64 k ∧ s = .int .i64 (sqTo ls x k)) (fun _ i => ls.length - (intOf i).toNat)
  case atStart => exact ⟨0, Nat.zero_le _, rfl, rfl⟩
  case round =>
    obtain ⟨k, hk, rfl, rfl⟩ := hrel
    by_cases hlt : k < ls.length
    · obtain ⟨b, off, rfl, -, hc⟩ := H.out.2.resolve_left (by omega)
      obtain ⟨p, hp, hpn⟩ := OK.out k hlt
      have hcell := hc k hlt
      rw [hp] at hcell
      have HP := Lib.hid hp
      clear hc hp
      cases hb : bitB x (p : Int)
      all_goals
        have HB := Lib.hid hb
        go_wp2_with (go_at_call 54; refine (hasMember_any _ _ _ (by omega) (by omega)).mono ?_; rw [HB.out]; rintro e w' ⟨rfl, rfl⟩)
        go_round
        case rel => exact ⟨k + 1, hlt, by go_num, by simp [sqTo, HP.out, HB.out, one]⟩
        case measure => simp [intOf]; omega
    · obtain rfl : k = ls.length := by omega
      go_wp2
      go_ret
      exact ⟨rfl, rfl⟩

set_option maxHeartbeats 2000000 in
set_option maxRecDepth 100000 in
theorem arranged_any (n : Int) (xs ls : List Int) (a al : Option Addr) (len cap ll cl : Nat) (w : World) (hl : len ≤ 30) (hll : ll ≤ 30) (hok : LsOk len ls) (h : At w a len xs) (h' : At w al ll ls) :
    Calls Try.prog 101 #[.agg #[.int .i64 n, .slice a len cap], .slice al ll cl] w fun e w' => ∃ v, e = .returned v ∧ OwnF w' w.heap.size v (arV xs ls).length (arV xs ls) ∧ Below w.heap.size w w' := by
  obtain ⟨W, hW, HB, X, Z, hWs⟩ := boxF1 w n a len cap
  have H := Lib.hid (h.keep HB.out (Nat.le_refl _))
  have H' := Lib.hid (h'.keep HB.out (Nat.le_refl _))
  have hmk := fun (W : World) => run_make_row' (P := Try.prog) 87 2 (.int .i64 0) 8 Try.underlying87 info64 rfl .i64 .i64 ll (by omega) (by omega) W
  have hr0 := World.rowIs_made W (.int .i64 0) ll 2
  rw [hWs] at hr0
  have HR0 := Lib.hid hr0
  have HBV := Lib.hid ((Below.refl (w.heap.size + 1 + 1) W).alloc (by omega) (.cells (madeCells #[.int .i64 0] ll) 2))
  have hz0 : w.heap.size + 1 + 1 ≤ W.heap.size := by omega
  have hz1 : W.heap.size ≤ w.heap.size + 1 + 1 := by omega
  obtain rfl := h.1
  obtain rfl := h'.1
  have OK := Lib.hid hok
  have HW := Lib.hid hW
  clear h h' hr0 hW hWs hok
  go_enter Try.func101, Try.ntmps101
  go_wp2
  clear hmk
  go_loopw [13] (fun i wr => ∃ k : Nat, k ≤ ls.length ∧ i = .int .i64 k ∧ wr.rowIs (w.heap.size + 1 + 1) 2 ls.length (fun t => .int .i64 (arS xs ls k t)) ∧ Hid (Below (w.heap.size + 1 + 1) W wr)) (fun i _ => ls.length - (intOf i).toNat)
  case atStart =>
    rw [← HW.out]
    exact ⟨0, Nat.zero_le _, rfl, HR0.out.congr fun t _ => by rw [arS_start], HBV⟩
  case round =>
    obtain ⟨k, hk, rfl, hrow, B⟩ := hrel
    have hsz := B.out.size
    by_cases hlt : k < ls.length
    · obtain ⟨p, hp, hpn⟩ := OK.out k hlt
      have HL := Lib.hid (H'.out.keep B.out (by omega))
      obtain ⟨b', off', rfl, hb', hc'⟩ := H'.out.2.resolve_left (by omega)
      obtain ⟨b, off, rfl, hb, hc⟩ := H.out.2.resolve_left (by omega)
      have hcell' : wr.cell? ⟨b', off' + k, none⟩ = some (.int .i64 (p : Int)) := (B.out.cell (p := ⟨b', off' + k, none⟩) (Nat.lt_of_lt_of_le hb' hz1)).trans (by rw [hc' k hlt, hp])
      have hcx : wr.cell? ⟨b, off + p, none⟩ = some (.int .i64 (nth xs p)) := (B.out.cell (p := ⟨b, off + p, none⟩) (Nat.lt_of_lt_of_le hb hz1)).trans (hc p hpn)
      have hcg : wr.cell? ⟨w.heap.size + 1 + 1, k, none⟩ = some (.int .i64 (arS xs ls k k)) := hrow.cell hlt
      have hfg : wr.frozen? ⟨w.heap.size + 1 + 1, k, none⟩ = false := hrow.frozen k
      obtain ⟨lt0, x0, x0'⟩ := X.out.below B.out (by omega)
      have EF := Lib.hid (show sqTo ls (nth xs p) ls.length = arF xs ls k by rw [arF, hp, Int.toNat_natCast])
      have HROW := Lib.hid hrow
      clear hc hc' hp hrow
      go_wp2_with (go_at_call 100; refine (placesIn_any ls _ xs.length _ _ _ _ (by omega) (by omega) OK.out HL.out).mono ?_; rw [EF.out]; rintro e w' ⟨rfl, rfl⟩)
      go_roundw
      case rel => exact ⟨k + 1, hlt, by go_num, row_setI HROW.out (fun t => arS_set rfl t), Lib.hid (B.out.setCell (p := ⟨w.heap.size + 1 + 1, k, none⟩) (Nat.le_refl _) _)⟩
      case measure => simp [intOf]; omega
    · obtain rfl : k = ls.length := by omega
      have O5 := Lib.hid (own_of_row (B := w.heap.size + 1 + 1) (Nat.le_refl _) (by omega) (hrow.congr fun t ht => by rw [arS_all ht]))
      have Z1 := Lib.hid (Z.out.below B.out (by omega))
      have B2 := Lib.hid (HB.out.trans (B.out.mono (by omega)))
      clear hrow
      go_wp2_with fail
      refine (frameOf_any _ _ _ _ (by omega)).mono ?_
      rintro e w2 ⟨rfl, hb⟩
      obtain ⟨lt2, z0, z1, z2, z3⟩ := Z1.out.keep hb
      have B3 := Lib.hid (B2.out.trans (hb.mono B2.out.size))
      have O6 := Lib.hid (O5.out.keep hb (Nat.le_refl _))
      clear hb O5
      go_wp2
      refine bodyPost_ret (v := .agg #[.int .i64 ls.length, .slice (some ⟨w.heap.size + 1 + 1, 0, none⟩) ls.length ls.length]) (by simp [results, Try.results101, go_sem, z0, z1]) rfl ⟨_, rfl, ?_, (B3.out.setCell (by show _ ≤ _; simp) _).setCell (by show _ ≤ _; simp) _⟩
      have e6 : ((arV xs ls).length : Int) = ls.length := by rw [arV, tab_len]
      rw [e6]
      exact ((OwnF.mk (n := ls.length) O6.out).out2 (by omega)).mono (by omega)

def prL (n : Int) (xs : List Int) (m : Int) : List Int := if cwV n xs m = 0 then arV xs (memTo m.toNat xs.length) else []
theorem pr_ok {n m : Int} {xs : List Int} (h : cwV n xs m = 0) : prL n xs m = arV xs (memTo m.toNat xs.length) := if_pos h
theorem pr_bad {n m : Int} {xs : List Int} (h : ¬ cwV n xs m = 0) : prL n xs m = [] := if_neg h
theorem RF.bad' {w : World} {B : Nat} {c c' n : Int} {xs : List Int} (h : c = c') (hn : n = 0) (hx : xs = []) : RF w B n c' xs (.returned (.tuple #[.agg #[.int .i64 0, .slice none 0 0], .int .i64 c])) := by
  subst h hn hx
  exact ⟨_, rfl, OwnF.mk (World.ownsRow_nil _ _ _ _)⟩

end Go.Proofs.Ytomldealpmohhaa
