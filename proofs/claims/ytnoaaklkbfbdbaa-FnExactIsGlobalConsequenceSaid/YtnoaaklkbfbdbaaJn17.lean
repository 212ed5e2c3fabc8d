/- 4 texts in one: LcM, LcC, LcD, LcE. -/
import Derived.Test.YtnoaaklkbfbdbaaTrV
import Derived.Test.YtnoaaklkbfbdbaaJn12
import Derived.Test.YtnoaaklkbfbdbaaSh
import Derived.Test.YtnoaaklkbfbdbaaJn05
import Derived.Test.YtnoaaklkbfbdbaaRwP
import Derived.Test.YtnoaaklkbfbdbaaConcat
/- The worlds at which all formulas of a list are true, by the program. Conditions: those in the theorems. -/
namespace Go.Proofs.Ytnoaaklkbfbdbaa
open Go.RowKit

/-- The worlds at which the first k formulas are true. -/
noncomputable def ctF (xs ys : List Int) (xss : List (List Nd)) : Nat → Int
  | 0 => full xs.length
  | k + 1 => bits .and .i64 (ctF xs ys xss k) ((toFm (nthL xss k)).tr xs ys)
theorem AtNC.fm {w : World} {b off len : Nat} {xss : List (List Nd)} (h : AtNC w (some ⟨b, off, none⟩) len xss) {j : Nat} (hj : j < len) (hb : isB (nthL xss j) (nthL xss j).length = true) :
    ∃ b' o' c, w.cell? ⟨b, off + j, none⟩ = some (.slice (some ⟨b', o', none⟩) (nthL xss j).length c) ∧ AtF w b' o' (nthL xss j).length c (toFm (nthL xss j)) := by
  obtain ⟨-, a, c, h1, h2, h3, h4⟩ := h.at hj
  obtain ⟨b', o', rfl, h5⟩ := AtN.fm' h2 h3 h4 hb
  exact ⟨b', o', c, h1, h5⟩

set_option maxHeartbeats 2000000 in
set_option maxRecDepth 100000 in
theorem commonTruth_any (n : Int) (xs ys : List Int) (xss : List (List Nd)) (a : Option Addr) (cap : Nat) (a' : Option Addr) (cap' : Nat) (p : Option Addr) (l c : Nat) (w : World) (hl : l ≤ 1048576) (hi : ∀ j, j < l → (nthL xss j).length ≤ 1048576) (hok : okAll xss l = true) (hm : Mo w n a a' xs ys) (h : AtNC w p l xss) :
    Calls Try.prog 52 #[.agg #[.int .i64 n, .slice a xs.length cap, .slice a' ys.length cap'], .slice p l c] w fun e w' => e = .returned (.int .i64 (ctF xs ys xss l)) ∧ Below w.heap.size w w' := by
  obtain ⟨W, hW, hb0, hx, hWs⟩ := boxM (w := w) n a xs.length cap a' ys.length cap' 65
  have HB := Lib.hid hb0
  have X := Lib.hid hx
  have M := Lib.hid (hm.keep hb0)
  have H := Lib.hid (h.keep hb0 (Nat.le_refl _))
  have HI := Lib.hid hi
  have OK := Lib.hid hok
  have HW := Lib.hid hW
  have HE := Lib.hid hm.1
  obtain ⟨hn, h8, -, -, -, -⟩ := hm
  have n0 : 0 ≤ n := by omega
  have n30 : n ≤ 30 := by omega
  have FU := Lib.hid (show full n = ctF xs ys xss 0 by rw [hn]; rfl)
  obtain ⟨lt, x0, x1, x2⟩ := hx
  clear hi hok h hb0 hW hn h8
  go_enter Try.func52, Try.ntmps52
  go_wp2_with fail
  rw [← HW.out]
  refine (allWorlds_any n _ _ _ _ n0 n30).mono ?_
  rintro e w1 ⟨rfl, hb⟩
  rw [FU.out]
  have T1 := Lib.hid hb
  clear hb lt x0 x1 x2
  go_wp2
  go_loopw [5, 13] (fun s i wr => ∃ k : Nat, k ≤ l ∧ i = .int .i64 k ∧ s = .int .i64 (ctF xs ys xss k) ∧ Hid (Below W.heap.size W wr)) (fun _ i _ => l - (intOf i).toNat)
  case atStart => exact ⟨0, Nat.zero_le _, rfl, rfl, T1⟩
  case round =>
    obtain ⟨k, hk, rfl, rfl, B⟩ := hrel
    by_cases hlt : k < l
    · have A := Lib.hid (H.out.keep B.out (Nat.le_refl _))
      obtain ⟨b, o, rfl⟩ : ∃ b o, p = some ⟨b, o, none⟩ := by
        obtain ⟨-, us, -, h3⟩ := A.out
        obtain ⟨b, o, e, -⟩ := h3.resolve_left (by omega)
        exact ⟨b, o, e⟩
      have hb := (A.out.at hlt).1
      obtain ⟨b', o', c', hcell, hF⟩ := A.out.fm hlt (okAll_at OK.out hlt)
      have F := Lib.hid hF
      have hki := HI.out k hlt
      obtain ⟨y, hy⟩ : ∃ y, y = (toFm (nthL xss k)).tr xs ys := ⟨_, rfl⟩
      have TR := Lib.hid (fun w' (hw : Below wr.heap.size wr w') => show Calls Try.prog 86 #[.agg #[.int .i64 n, .slice a xs.length cap, .slice a' ys.length cap'], .slice (some ⟨b', o', none⟩) (nthL xss k).length c'] w' fun e w'' => e = .returned (.int .i64 y) ∧ Below w'.heap.size w' w'' by
        rw [hy]; exact truth_any (toFm (nthL xss k)) (toFm_of (okAll_at OK.out hlt)).1 n xs ys a cap a' cap' b' o' _ c' w' hki ((M.out.keep B.out).keep hw) (F.out.keep hw (Nat.le_refl _)))
      have NX := Lib.hid (show bits .and .i64 (ctF xs ys xss k) y = ctF xs ys xss (k + 1) by rw [ctF, hy])
      obtain ⟨z, hz⟩ : ∃ z, z = ctF xs ys xss k := ⟨_, rfl⟩
      rw [← hz] at NX
      obtain ⟨m, hmm⟩ : ∃ m, m = (nthL xss k).length := ⟨_, rfl⟩
      rw [← hmm] at hcell TR
      rw [← hz]
      obtain ⟨lt, x0, x1, x2⟩ := X.out.keep B.out
      clear hF hy hz hmm hki
      go_wp2_with fail
      refine (TR.out _ (Below.refl _ _)).mono ?_
      rintro e w2 ⟨rfl, hb2⟩
      have T2 := Lib.hid (B.out.trans (hb2.mono B.out.size))
      clear hb2 x0 x1 x2 lt hcell
      go_wp2
      go_roundw
      case rel => exact ⟨k + 1, hlt, by go_num, by rw [← NX.out], T2⟩
      case measure => simp [intOf]; omega
    · obtain rfl : k = l := by omega
      go_wp2
      go_ret
      exact ⟨rfl, HB.out.trans (B.out.mono HB.out.size)⟩

end Go.Proofs.Ytnoaaklkbfbdbaa

/- slices.Concat of a list of formulas and one formula more. Conditions: those in the theorems. -/
namespace Go.Proofs.Ytnoaaklkbfbdbaa
open Go.RowKit

theorem list_appZL {ops : Array Oper} {rest : List Oper} {o : Oper} {a : Act} {w : World} {Q : Exit → Act → World → Prop} (hgd : o.guard = none) (s x : Operand)
    (ho : o.op = .call { callee := .builtin .append, args := #[s, x], argTypes := #[41, 3] })
    (n : Nat) (hs : a.eval s = .slice none 0 0) (hx : a.eval x = .int .i64 n) (hn : 0 < n) (hn2 : n ≤ 8388608)
    (h : ∀ (cap : Nat) (cs : Array Value), n ≤ cap → cap ≤ maxLen → cs.size = cap * 1 → wpList Try.prog ops Q rest (a.put o.dst (.slice (some ⟨w.heap.size, 0, none⟩) n cap)) (w.drew.alloc (.cells cs 32))) : wpList Try.prog ops Q (o :: rest) a w := by
  obtain ⟨i0, hi, hz0, hz1, hz2⟩ := info_parts infoNN
  refine wpList_plain hgd fun K hK => ?_
  have hr := Lib.run_append_grow_zeros (P := Try.prog) w 41 3 o.type 32 i0 (.slice none 0 0) .i64 .i64 Try.underlying41 Try.underlying3 hi hz0 none 0 0 [] (run_firstCells_none w.drew i0.size 0 0 0) n hn (by omega) (by omega) (by omega) (by rw [hz2]; omega) (growslice_fits (by omega) (by rw [hz2]; omega))
  simp only [Nat.zero_add] at hr
  unfold Oper.wp execOp
  simp only [ho, resolve, invoke, builtin, Sem.run_bind, Sem.run_pure, Result.andThen_ok, List.map_toArray, List.map_cons, List.map_nil, hs, hx, hr]
  have hg := grownCap_ge w n 0 32
  refine hK _ _ (h _ _ hg (grownCap_le_maxLen w n 0 _ (by unfold maxLen; omega)) ?_)
  have e : (Value.slice none 0 0).cells.size = 1 := rfl
  rw [Array.size_append, Array.size_append, size_zeroCells, size_zeroCells, e]
  simp
  omega

set_option maxHeartbeats 400000 in
theorem growL_any (n : Nat) (w : World) (hn : 0 < n) (hn2 : n ≤ 8388608) :
    Calls Try.prog 115 #[.slice none 0 0, .int .i64 n] w fun e w' => ∃ g c, e = .returned (.slice (some ⟨g, 0, none⟩) 0 c) ∧ w'.ownsRow w.heap.size 32 1 (.slice (some ⟨g, 0, none⟩) 0 c) 0 [] ∧ Below w.heap.size w w' := by
  go_enter Try.func115, Try.ntmps115
  go_wp2_with (at_builtin; refine list_appZL rfl _ _ rfl n rfl rfl hn hn2 ?_)
  intro cap cs h1 h2 h3
  go_wp2
  go_ret
  exact ⟨_, _, rfl, World.ownsRow_made w.drew cs cap (Nat.le_refl _) h2 (by omega), ((Below.refl _ _).drew).alloc (Nat.le_refl _) _⟩

set_option maxHeartbeats 1000000 in
set_option maxRecDepth 100000 in
theorem concatL_any (xss : List (List Nd)) (zs : List Nd) (p : Option Addr) (l c C E : Nat) (a1 : Option Addr) (c1 : Nat) (w : World) (hl : l ≤ 1048576) (h : AtNC w p l xss) (hz : AtN w a1 zs.length zs) (hc1 : zs.length ≤ c1) (hc2 : c1 ≤ maxLen)
    (g0 : w.cell? ⟨C, 0, none⟩ = some (.slice p l c)) (g1 : w.cell? ⟨C, 1, none⟩ = some (.slice (some ⟨E, 0, none⟩) 1 1)) (g2 : w.cell? ⟨E, 0, none⟩ = some (.slice a1 zs.length c1)) :
    Calls Try.prog 88 #[.slice (some ⟨C, 0, none⟩) 2 2] w fun e w' => ∃ a2 c2, e = .returned (.slice a2 (l + 1) c2) ∧ AtNC w' a2 (l + 1) (xss ++ [zs]) ∧ Below w.heap.size w w' := by
  have H := Lib.hid h
  have HZ := Lib.hid hz
  have G0 := Lib.hid g0
  have G1 := Lib.hid g1
  have G2 := Lib.hid g2
  have LX := Lib.hid (show l = xss.length from h.1)
  clear h hz
  go_enter Try.func88, Try.ntmps88
  go_wp2
  go_loop [3, 11] (fun s i => (i = .int .i64 0 ∧ s = .int .i64 0) ∨ (i = .int .i64 1 ∧ s = .int .i64 l) ∨ (i = .int .i64 2 ∧ s = .int .i64 (l + 1 : Nat))) (fun _ i => 2 - (intOf i).toNat)
  case atStart => exact .inl ⟨rfl, rfl⟩
  case round =>
    rcases hrel with ⟨rfl, rfl⟩ | ⟨rfl, rfl⟩ | ⟨rfl, rfl⟩
    · go_wp2
      go_round
      case rel => exact .inr (.inl ⟨rfl, by go_num⟩)
      case measure => simp [intOf]
    · go_wp2
      go_round
      case rel => exact .inr (.inr ⟨rfl, by go_num⟩)
      case measure => simp [intOf]
    · go_wp2_with fail
      refine (growL_any (l + 1) w (by omega) (by omega)).mono ?_
      rintro e w1 ⟨g, k, rfl, ho, hb⟩
      have O1 := Lib.hid ho
      have B1 := Lib.hid hb
      clear ho hb g0 g1 g2
      go_wp2
      go_loopw [6, 27] (fun v i wr => (i = .int .i64 0 ∧ v = .slice (some ⟨g, 0, none⟩) 0 k ∧ wr = w1) ∨ (i = .int .i64 1 ∧ ∃ u us, v = u ∧ Hid (wr.ownsRow w.heap.size 32 1 u l us) ∧ Hid (ShC w us xss) ∧ Hid (Below w.heap.size w wr)) ∨ (i = .int .i64 2 ∧ ∃ a2 c2, v = .slice a2 (l + 1) c2 ∧ Hid (AtNC wr a2 (l + 1) (xss ++ [zs])) ∧ Hid (Below w.heap.size w wr))) (fun _ i _ => 2 - (intOf i).toNat)
      case atStart => exact .inl ⟨rfl, rfl, rfl⟩
      case round =>
        rcases hrel with ⟨rfl, rfl, rfl⟩ | ⟨rfl, u, us, hu, R, S, B⟩ | ⟨rfl, a2, c2, rfl, A, B⟩
        · have g0 := (B1.out.cell (p := ⟨C, 0, none⟩) (World.block_lt_of_cell? _ _ G0.out)).trans G0.out
          go_wp2_with (at_builtin; refine list_appSh (wr := w) rfl _ _ rfl w.heap.size g k rfl O1.out xss p l c rfl H.out (Nat.le_refl _) B1.out hl B1.out.size ?_)
          intro v1 w2 us hr1 hsh1 hb1 hs1
          have R := Lib.hid hr1
          have S := Lib.hid hsh1
          have B := Lib.hid hb1
          clear hr1 hsh1 hb1 hs1
          go_wp2
          go_roundw
          case rel => exact .inr (.inl ⟨by go_num, v1, us, rfl, R, S, B⟩)
          case measure => simp [intOf]
        · have hu2 := hu.symm
          subst hu2
          have g1 := (B.out.cell (p := ⟨C, 1, none⟩) (World.block_lt_of_cell? _ _ G1.out)).trans G1.out
          have g2 := (B.out.cell (p := ⟨E, 0, none⟩) (World.block_lt_of_cell? _ _ G2.out)).trans G2.out
          have hw := B.out.size
          go_wp2_with (at_builtin; go_loud (refine list_appL rfl _ _ rfl w.heap.size u l us rfl R.out ⟨E, 0, none⟩ 1 (.slice a1 zs.length c1) rfl g2 rfl (by omega) hw ?_))
          intro v2 w2 e1 e2
          have hb2 : Below w.heap.size w w2 := B.out.grown e2 hw (fun k hk => (World.ownsRow.lt R.out k hk).1)
          obtain ⟨a2, c2, rfl, hat2⟩ := ((S.out.snoc HZ.out hc1 hc2).keep hb2 (Nat.le_refl _)).at e1 (by rw [LX.out]; simp)
          have A := Lib.hid (show AtNC w2 a2 (l + 1) (xss ++ [zs]) by have q := hat2; rw [List.length_append, List.length_singleton, ← LX.out] at q; exact q)
          have B2 := Lib.hid hb2
          have LL := Lib.hid (show (xss ++ [zs]).length = l + 1 by rw [LX.out]; simp)
          clear hb2 e1 e2 hat2 hw
          rw [LL.out]
          go_wp2
          go_roundw
          case rel => exact .inr (.inr ⟨by go_num, a2, c2, rfl, A, B2⟩)
          case measure => simp [intOf]
        · go_wp2
          go_ret
          exact ⟨a2, c2, rfl, A.out, B.out⟩

end Go.Proofs.Ytnoaaklkbfbdbaa

/- The tests of a counter-model to a consequence, by the program: the two function literals. Conditions: those in the theorems. -/
namespace Go.Proofs.Ytnoaaklkbfbdbaa
open Go.RowKit

/-- A model tells against a local consequence; against a global one. -/
noncomputable def loB (xs ys : List Int) (xss : List (List Nd)) (l : Nat) (zs : List Nd) : Bool := bits .and .i64 (ctF xs ys xss l) (bits .andNot .i64 (full xs.length) ((toFm zs).tr xs ys)) != 0
noncomputable def glB (xs ys : List Int) (xss : List (List Nd)) (l : Nat) (zs : List Nd) : Bool := (ctF xs ys xss l == full xs.length) && (bits .andNot .i64 (full xs.length) ((toFm zs).tr xs ys) != 0)

set_option maxHeartbeats 2000000 in
set_option maxRecDepth 100000 in
theorem loc1_any (n : Int) (xs ys : List Int) (xss : List (List Nd)) (zs : List Nd) (a : Option Addr) (cap : Nat) (a' : Option Addr) (cap' : Nat) (p : Option Addr) (l c b1 o1 c1 P A : Nat) (w : World) (hl : l ≤ 1048576) (hi : ∀ j, j < l → (nthL xss j).length ≤ 1048576) (hok : okAll xss l = true) (hb : isB zs zs.length = true) (hzl : zs.length ≤ 1048576) (hm : Mo w n a a' xs ys) (h : AtNC w p l xss) (hf : AtF w b1 o1 zs.length c1 (toFm zs))
    (gp : w.cell? ⟨P, 0, none⟩ = some (.slice p l c)) (ga : w.cell? ⟨A, 0, none⟩ = some (.slice (some ⟨b1, o1, none⟩) zs.length c1)) :
    Calls Try.prog 51 #[.agg #[.int .i64 n, .slice a xs.length cap, .slice a' ys.length cap'], .pointer (some ⟨P, 0, none⟩), .pointer (some ⟨A, 0, none⟩)] w fun e w' => e = .returned (.bool (loB xs ys xss l zs)) ∧ Below w.heap.size w w' := by
  obtain ⟨W, hW, hb0, hx, hWs⟩ := boxM (w := w) n a xs.length cap a' ys.length cap' 65
  have HB := Lib.hid hb0
  have X := Lib.hid hx
  obtain ⟨t, ht⟩ : ∃ t, t = ctF xs ys xss l := ⟨_, rfl⟩
  obtain ⟨y, hy⟩ : ∃ y, y = bits .andNot .i64 (full xs.length) ((toFm zs).tr xs ys) := ⟨_, rfl⟩
  have R := Lib.hid (show (bits .and .i64 t y != 0) = loB xs ys xss l zs by rw [loB, ht, hy])
  have CT := Lib.hid (fun w' (hw : Below W.heap.size W w') => show Calls Try.prog 52 #[.agg #[.int .i64 n, .slice a xs.length cap, .slice a' ys.length cap'], .slice p l c] w' fun e w'' => e = .returned (.int .i64 t) ∧ Below w'.heap.size w' w'' by
    rw [ht]; exact commonTruth_any n xs ys xss a cap a' cap' p l c w' hl hi hok ((hm.keep hb0).keep hw) ((h.keep hb0 (Nat.le_refl _)).keep hw (Nat.le_refl _)))
  have FA := Lib.hid (fun w' (hw : Below W.heap.size W w') => show Calls Try.prog 46 #[.agg #[.int .i64 n, .slice a xs.length cap, .slice a' ys.length cap'], .slice (some ⟨b1, o1, none⟩) zs.length c1] w' fun e w'' => e = .returned (.int .i64 y) ∧ Below w'.heap.size w' w'' by
    have q := falsity_any (toFm zs) (toFm_of hb).1 n xs ys a cap a' cap' b1 o1 zs.length c1 w' hzl ((hm.keep hb0).keep hw) ((hf.keep hb0 (Nat.le_refl _)).keep hw (Nat.le_refl _))
    rw [hm.1, ← hy] at q
    rw [hm.1]
    exact q)
  have GP := Lib.hid ((hb0.cell (p := ⟨P, 0, none⟩) (World.block_lt_of_cell? _ _ gp)).trans gp)
  have GA := Lib.hid ((hb0.cell (p := ⟨A, 0, none⟩) (World.block_lt_of_cell? _ _ ga)).trans ga)
  have KP := Lib.hid (fun w' (hw : Below W.heap.size W w') => (hw.cell (p := ⟨P, 0, none⟩) (World.block_lt_of_cell? _ _ GP.out)).trans GP.out)
  have KA := Lib.hid (fun w' (hw : Below W.heap.size W w') => (hw.cell (p := ⟨A, 0, none⟩) (World.block_lt_of_cell? _ _ GA.out)).trans GA.out)
  have HW := Lib.hid hW
  obtain ⟨lt, x0, x1, x2⟩ := hx
  have x3 := GP.out
  have x4 := GA.out
  clear hm hi hok h hf hb hb0 hW gp ga ht hy
  go_enter Try.func51, Try.ntmps51
  go_wp2_with fail
  rw [← HW.out]
  go_region_held3 (fun w' => w'.cell? ⟨w.heap.size, 0, none⟩ = some (.int .i64 n) ∧ w'.cell? ⟨w.heap.size, 1, none⟩ = some (.slice a xs.length cap) ∧ w'.cell? ⟨w.heap.size, 2, none⟩ = some (.slice a' ys.length cap') ∧ w'.cell? ⟨P, 0, none⟩ = some (.slice p l c) ∧ w'.cell? ⟨A, 0, none⟩ = some (.slice (some ⟨b1, o1, none⟩) zs.length c1)) (first | exact ⟨z0, z1, z2, z3, z4⟩ | exact ⟨y0, y1, y2, y3, y4⟩ | exact ⟨x0, x1, x2, x3, x4⟩ | go_keep) (first | (go_at_call 52; refine (CT.out _ (Below.refl _ _).drew).mono ?_; rintro e w1 ⟨rfl, hb⟩; have T1 := Lib.hid (show Below W.heap.size W w1 from below_of_drew hb); clear hb; obtain ⟨ly, y0, y1, y2⟩ := X.out.keep T1.out; have y3 := KP.out _ T1.out; have y4 := KA.out _ T1.out) | (go_at_call 46; refine (FA.out _ T1.out).mono ?_; rintro e w2 ⟨rfl, hb⟩; have T2 := Lib.hid (T1.out.trans (hb.mono T1.out.size)); clear hb; obtain ⟨lz, z0, z1, z2⟩ := X.out.keep T2.out; have z3 := KP.out _ T2.out; have z4 := KA.out _ T2.out))
  all_goals
    go_wp2
    go_ret
    exact ⟨ret_bool R.out, HB.out.trans (T2.out.mono HB.out.size)⟩

end Go.Proofs.Ytnoaaklkbfbdbaa

/- The test of a counter-model to a global consequence, by the program (3 minutes to build). Conditions: those in the theorems. -/
namespace Go.Proofs.Ytnoaaklkbfbdbaa
open Go.RowKit

set_option maxHeartbeats 2000000 in
set_option maxRecDepth 100000 in
theorem glo1_any (n : Int) (xs ys : List Int) (xss : List (List Nd)) (zs : List Nd) (a : Option Addr) (cap : Nat) (a' : Option Addr) (cap' : Nat) (p : Option Addr) (l c b1 o1 c1 P A F : Nat) (af : Option Addr) (lf cf : Nat) (w : World) (hl : l ≤ 1048576) (hi : ∀ j, j < l → (nthL xss j).length ≤ 1048576) (hok : okAll xss l = true) (hb : isB zs zs.length = true) (hzl : zs.length ≤ 1048576) (hm : Mo w n a a' xs ys) (h : AtNC w p l xss) (hf : AtF w b1 o1 zs.length c1 (toFm zs))
    (gp : w.cell? ⟨P, 0, none⟩ = some (.slice p l c)) (ga : w.cell? ⟨A, 0, none⟩ = some (.slice (some ⟨b1, o1, none⟩) zs.length c1)) (gf : w.cell? ⟨F, 0, none⟩ = some (.int .i64 n)) (gf' : w.cell? ⟨F, 1, none⟩ = some (.slice af lf cf)) :
    Calls Try.prog 53 #[.agg #[.int .i64 n, .slice a xs.length cap, .slice a' ys.length cap'], .pointer (some ⟨P, 0, none⟩), .pointer (some ⟨F, 0, none⟩), .pointer (some ⟨A, 0, none⟩)] w fun e w' => e = .returned (.bool (glB xs ys xss l zs)) ∧ Below w.heap.size w w' := by
  obtain ⟨W, hW, hb0, hx, hWs⟩ := boxM (w := w) n a xs.length cap a' ys.length cap' 65
  have HB := Lib.hid hb0
  have X := Lib.hid hx
  obtain ⟨t, ht⟩ : ∃ t, t = ctF xs ys xss l := ⟨_, rfl⟩
  obtain ⟨y, hy⟩ : ∃ y, y = bits .andNot .i64 (full xs.length) ((toFm zs).tr xs ys) := ⟨_, rfl⟩
  have CT := Lib.hid (fun w' (hw : Below W.heap.size W w') => show Calls Try.prog 52 #[.agg #[.int .i64 n, .slice a xs.length cap, .slice a' ys.length cap'], .slice p l c] w' fun e w'' => e = .returned (.int .i64 t) ∧ Below w'.heap.size w' w'' by
    rw [ht]; exact commonTruth_any n xs ys xss a cap a' cap' p l c w' hl hi hok ((hm.keep hb0).keep hw) ((h.keep hb0 (Nat.le_refl _)).keep hw (Nat.le_refl _)))
  have FA := Lib.hid (fun w' (hw : Below W.heap.size W w') => show Calls Try.prog 46 #[.agg #[.int .i64 n, .slice a xs.length cap, .slice a' ys.length cap'], .slice (some ⟨b1, o1, none⟩) zs.length c1] w' fun e w'' => e = .returned (.int .i64 y) ∧ Below w'.heap.size w' w'' by
    have q := falsity_any (toFm zs) (toFm_of hb).1 n xs ys a cap a' cap' b1 o1 zs.length c1 w' hzl ((hm.keep hb0).keep hw) ((hf.keep hb0 (Nat.le_refl _)).keep hw (Nat.le_refl _))
    rw [hm.1, ← hy] at q
    rw [hm.1]
    exact q)
  have GP := Lib.hid ((hb0.cell (p := ⟨P, 0, none⟩) (World.block_lt_of_cell? _ _ gp)).trans gp)
  have GA := Lib.hid ((hb0.cell (p := ⟨A, 0, none⟩) (World.block_lt_of_cell? _ _ ga)).trans ga)
  have KP := Lib.hid (fun w' (hw : Below W.heap.size W w') => (hw.cell (p := ⟨P, 0, none⟩) (World.block_lt_of_cell? _ _ GP.out)).trans GP.out)
  have KA := Lib.hid (fun w' (hw : Below W.heap.size W w') => (hw.cell (p := ⟨A, 0, none⟩) (World.block_lt_of_cell? _ _ GA.out)).trans GA.out)
  have GF := Lib.hid ((hb0.cell (p := ⟨F, 0, none⟩) (World.block_lt_of_cell? _ _ gf)).trans gf)
  have GE := Lib.hid ((hb0.cell (p := ⟨F, 1, none⟩) (World.block_lt_of_cell? _ _ gf')).trans gf')
  have KF := Lib.hid (fun w' (hw : Below W.heap.size W w') => (hw.cell (p := ⟨F, 0, none⟩) (World.block_lt_of_cell? _ _ GF.out)).trans GF.out)
  have KE := Lib.hid (fun w' (hw : Below W.heap.size W w') => (hw.cell (p := ⟨F, 1, none⟩) (World.block_lt_of_cell? _ _ GE.out)).trans GE.out)
  have HW := Lib.hid hW
  obtain ⟨hn, h8, -, -, -, -⟩ := hm
  have n0 : 0 ≤ n := by omega
  have n30 : n ≤ 30 := by omega
  have AL := Lib.hid (fun w' => allWorlds_any n af lf cf w' n0 n30)
  obtain ⟨lt, x0, x1, x2⟩ := hx
  have x3 := GP.out
  have x4 := GA.out
  have x5 := GF.out
  have x6 := GE.out
  have FE := Lib.hid (show full n = full xs.length by rw [hn])
  cases hq : (t == full n)
  all_goals
    have R := Lib.hid (show ((t == full n) && (y != 0)) = glB xs ys xss l zs by rw [FE.out, glB, ht, hy])
    rw [hq] at R
    have Q := Lib.hid hq
  all_goals clear hi hok h hf hb hb0 hW gp ga gf gf' ht hy hn h8
  all_goals
    go_enter Try.func53, Try.ntmps53
    go_wp2_with fail
    rw [← HW.out]
    go_region_with (first | (go_at_call 52; refine (CT.out _ (by first | exact Below.refl _ _ | exact (Below.refl _ _).drew)).mono ?_; rintro e w1 ⟨rfl, hb⟩; have T1 := Lib.hid (show Below W.heap.size W w1 from by first | exact hb | exact below_of_drew hb); clear hb; obtain ⟨ly, y0, y1, y2⟩ := X.out.keep T1.out; have y3 := KP.out _ T1.out; have y4 := KA.out _ T1.out; have y5 := KF.out _ T1.out; have y6 := KE.out _ T1.out) | (go_at_call 54; refine (AL.out _).mono ?_; rintro e w2 ⟨rfl, hb⟩; have T2 := Lib.hid (T1.out.trans (hb.mono T1.out.size)); clear hb; obtain ⟨lz, z0, z1, z2⟩ := X.out.keep T2.out; have z3 := KP.out _ T2.out; have z4 := KA.out _ T2.out; have z5 := KF.out _ T2.out; have z6 := KE.out _ T2.out) | (go_at_call 46; refine (FA.out _ T2.out).mono ?_; rintro e w3 ⟨rfl, hb⟩; have T3 := Lib.hid (T2.out.trans (hb.mono T2.out.size)); clear hb))
  all_goals
    go_wp2
    go_ret
    first
    | exact ⟨ret_bool R.out, HB.out.trans (T3.out.mono HB.out.size)⟩
    | exact ⟨ret_bool R.out, HB.out.trans (T2.out.mono HB.out.size)⟩

end Go.Proofs.Ytnoaaklkbfbdbaa
