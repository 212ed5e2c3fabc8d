/- 5 texts in one: TrP, TrV, SiA, SiB, SiT. -/
import Derived.Test.YtckilaeolkgnkaaJn08
import Derived.Test.YtckilaeolkgnkaaJn07
import Derived.Test.YtckilaeolkgnkaaJn11
import Derived.Test.YtckilaeolkgnkaaJn09
import Derived.Test.YtckilaeolkgnkaaPmA
/- What the program answers for the truth set of a formula in a model. Conditions: those in the theorems. -/
namespace Go.Proofs.Ytckilaeolkgnkaa
open Go.RowKit

set_option maxHeartbeats 400000 in
theorem allWorlds_any (n : Int) (a : Option Addr) (len cap : Nat) (w : World) (hn : 0 ≤ n) (hn2 : n ≤ 30) :
    Calls Try.prog 101 #[.agg #[.int .i64 n, .slice a len cap]] w fun e w' => e = .returned (.int .i64 (full n)) ∧ Below w.heap.size w w' := by
  have HB := Lib.hid (boxF (w := w) n a len cap)
  go_enter Try.func101, Try.ntmps101
  go_wp2
  go_ret
  exact ⟨rfl, HB.out⟩

end Go.Proofs.Ytckilaeolkgnkaa

/- Contracts of TruthSet, IsTrueAt and IsTrueIn of the model and of the program, at every argument. Conditions: those in the theorems. -/
namespace Go.Proofs.Ytckilaeolkgnkaa
open Go.RowKit

def mdC (b1 b2 : Bool) : Int := if b1 && b2 then 0 else 1

set_option maxHeartbeats 1000000 in
theorem checkModel_any (n : Int) (xs ys : List Int) (a : Option Addr) (len cap : Nat) (b : Option Addr) (m d : Nat) (zss : List (List Nd)) (c : Option Addr) (l cl : Nat) (w : World) (hl : len ≤ 1048576) (hm : m ≤ 1048576) (hz : l ≤ 2097152) (hi : ∀ j, j < l → (nthL zss j).length ≤ 1048576) (h : At w a len xs) (h' : At w b m ys) (h'' : AtNN w c l zss) :
    Calls Try.prog 88 #[.agg #[.int .i64 n, .slice a len cap, .slice b m d], .slice c l cl] w fun e w' => e = .returned (.int .i64 (mdC (isM n xs ys) (okAll zss l))) ∧ Below w.heap.size w w' := by
  obtain ⟨W, hW, hb0, hx, hWs⟩ := boxM (w := w) n a len cap b m d 48
  have HB := Lib.hid hb0
  have H := Lib.hid (h.keep hb0 (Nat.le_refl _))
  have H' := Lib.hid (h'.keep hb0 (Nat.le_refl _))
  have H2 := Lib.hid (h''.keep hb0 (Nat.le_refl _))
  have HI := Lib.hid hi
  have HW := Lib.hid hW
  clear h h' h'' hb0 hx hW hi
  cases h1 : isM n xs ys
  · have F := Lib.hid h1
    clear h1
    go_enter Try.func88, Try.ntmps88
    go_wp2_with fail
    rw [← HW.out]
    refine (implIsModel_any n xs ys _ _ _ _ _ _ _ hl hm H.out H'.out).mono ?_
    rw [F.out]
    rintro e w1 ⟨rfl, hb⟩
    have B1 := Lib.hid (HB.out.trans (hb.mono HB.out.size))
    clear hb
    go_wp2
    go_ret
    exact ⟨rfl, B1.out⟩
  · have F := Lib.hid h1
    cases h2 : okAll zss l
    all_goals
      have F2 := Lib.hid h2
      clear h2
      go_enter Try.func88, Try.ntmps88
      go_wp2_with fail
      rw [← HW.out]
      refine (implIsModel_any n xs ys _ _ _ _ _ _ _ hl hm H.out H'.out).mono ?_
      rw [F.out]
      rintro e w1 ⟨rfl, hb⟩
      have B1 := Lib.hid (HB.out.trans (hb.mono HB.out.size))
      have A1 := Lib.hid (H2.out.keep hb (Nat.le_refl _))
      clear hb
      go_wp2_with fail
      refine (areF_any zss _ _ _ _ hz HI.out A1.out).mono ?_
      rw [F2.out]
      rintro e w2 ⟨rfl, hb⟩
      have B2 := Lib.hid (B1.out.trans (hb.mono B1.out.size))
      clear hb
      go_wp2
      go_ret
      exact ⟨rfl, B2.out⟩

/-! TruthSet -/
noncomputable def tsV (n : Int) (xs ys : List Int) (zs : List Nd) : Int := if mdC (isM n xs ys) (isB zs zs.length) = 0 then (toFm zs).tr xs ys else 0
theorem ts_ok {n : Int} {xs ys : List Int} {zs : List Nd} (h1 : isM n xs ys = true) (h2 : isB zs zs.length = true) : Ending.returned (.tuple #[.int .i64 ((toFm zs).tr xs ys), .int .i64 0]) = .returned (.tuple #[.int .i64 (tsV n xs ys zs), .int .i64 (mdC (isM n xs ys) (isB zs zs.length))]) := by rw [tsV, h1, h2]; rfl
theorem ts_no {n : Int} {xs ys : List Int} {zs : List Nd} {b1 b2 : Bool} (h : isM n xs ys = b1) (h' : isB zs zs.length = b2) (hb : (b1 && b2) = false) : Ending.returned (.tuple #[.int .i64 0, .int .i64 1]) = .returned (.tuple #[.int .i64 (tsV n xs ys zs), .int .i64 (mdC (isM n xs ys) (isB zs zs.length))]) := by rw [tsV, h, h', mdC, hb]; rfl
theorem Mo.of {w : World} {n : Int} {xs ys : List Int} {a a' : Option Addr} (h : isM n xs ys = true) (h1 : At w a xs.length xs) (h2 : At w a' ys.length ys) : Mo w n a a' xs ys := by
  obtain ⟨-, e1, e2, e3, e4, e5⟩ := isM_ok h
  exact ⟨e1, e2, ⟨e3, e5⟩, e4, h1, h2⟩

end Go.Proofs.Ytckilaeolkgnkaa

/- Contracts of the model's functions of chapter 7 over two models: what asks for the same variables, for the way back, for two models and a link. Conditions: those in the theorems. -/
namespace Go.Proofs.Ytckilaeolkgnkaa
open Go.RowKit

theorem boxTw (w : World) (n0 : Int) (a0 : Option Addr) (l0 c0 : Nat) (b0 : Option Addr) (m0 d0 : Nat) (n1 : Int) (a1 : Option Addr) (l1 c1 : Nat) (b1 : Option Addr) (m1 d1 : Nat) : ∃ W : World, W = (w.alloc (.cells #[.int .i64 n0, .slice a0 l0 c0, .slice b0 m0 d0] 48)).alloc (.cells #[.int .i64 n1, .slice a1 l1 c1, .slice b1 m1 d1] 48) ∧
    Hid (Below w.heap.size w W) ∧ Hid (Bm W w.heap.size n0 a0 l0 c0 b0 m0 d0) ∧ Hid (Bm W (w.heap.size + 1) n1 a1 l1 c1 b1 m1 d1) ∧ W.heap.size = w.heap.size + 1 + 1 := by
  refine ⟨_, rfl, Lib.hid (((Below.refl w.heap.size w).alloc (Nat.le_refl _) _).alloc (by simp) _), Lib.hid ((Bm.new w n0 a0 l0 c0 b0 m0 d0 _).keep (alloc_keep _ _).1), ?_, by simp⟩
  have := Bm.new (w.alloc (.cells #[.int .i64 n0, .slice a0 l0 c0, .slice b0 m0 d0] 48)) n1 a1 l1 c1 b1 m1 d1 48
  exact Lib.hid (by simpa using this)

def atB (ys zs : List Int) (x y : Int) : Nat → Bool
  | 0 => true
  | v + 1 => atB ys zs x y v && (bitB (nth ys v) x == bitB (nth zs v) y)
theorem atB_false {ys zs : List Int} {x y : Int} {k l : Nat} (hk : k ≤ l) (h : atB ys zs x y k = false) : atB ys zs x y l = false := by
  induction l with
  | zero => simp at hk; subst hk; exact h
  | succ l ih =>
    by_cases e : k = l + 1
    · subst e; exact h
    · rw [atB, ih (by omega)]; rfl

set_option maxHeartbeats 2000000 in
theorem l07Atoms_any (n0 n1 : Int) (xs ys ps zs : List Int) (x y : Int) (a0 : Option Addr) (c0 : Nat) (b0 : Option Addr) (d0 : Nat) (a1 : Option Addr) (c1 : Nat) (b1 : Option Addr) (d1 : Nat) (w : World) (hx0 : 0 ≤ x) (hx1 : x ≤ 30) (hy0 : 0 ≤ y) (hy1 : y ≤ 30) (h0 : Mo w n0 a0 b0 xs ys) (h1 : Mo w n1 a1 b1 ps zs) :
    Calls Try.prog 113 #[.agg #[.int .i64 n0, .slice a0 xs.length c0, .slice b0 ys.length d0], .agg #[.int .i64 n1, .slice a1 ps.length c1, .slice b1 zs.length d1], .int .i64 x, .int .i64 y] w fun e w' => e = .returned (.bool (atB ys zs x y ys.length)) ∧ Below w.heap.size w w' := by
  obtain ⟨W, hW, HB, X0, X1, hWs⟩ := boxTw w n0 a0 xs.length c0 b0 ys.length d0 n1 a1 ps.length c1 b1 zs.length d1
  have M0 := Lib.hid (h0.keep HB.out)
  have M1 := Lib.hid (h1.keep HB.out)
  have HW := Lib.hid hW
  clear h0 h1 hW hWs
  go_enter Try.func113, Try.ntmps113
  go_wp2
  rw [← HW.out]
  go_loopw [9] (fun i wr => ∃ k q : Nat, k ≤ ys.length ∧ i = .int .i64 k ∧ atB ys zs x y k = true ∧ wr = W.drewN q) (fun i _ => ys.length - (intOf i).toNat)
  case atStart => exact ⟨0, 0, Nat.zero_le _, rfl, rfl, rfl⟩
  case round =>
    obtain ⟨k, q, hk, rfl, hm, rfl⟩ := hrel
    have HM := Lib.hid hm
    clear hm
    obtain ⟨-, -, -, y6, -, hy⟩ := M0.out
    obtain ⟨-, -, -, z6, -, hz⟩ := M1.out
    have hyl : ys.length ≤ 6 := by omega
    have Y6 := Lib.hid y6
    have Z6 := Lib.hid z6
    clear y6 z6
    obtain ⟨lt0, x0, x1, x2⟩ := X0.out
    obtain ⟨lt1, y0, y1, y2⟩ := X1.out
    by_cases hlt : k < ys.length
    · obtain ⟨b, off, rfl, hb, hc⟩ := hy.2.resolve_left (by omega)
      have hcell := hc k hlt
      have hlt2 : k < zs.length := by have := Y6.out; have := Z6.out; omega
      obtain ⟨b', off', rfl, hb', hc'⟩ := hz.2.resolve_left (by omega)
      have hcell2 := hc' k hlt2
      clear hc hc'
      cases hA : bitB (nth ys k) x
      all_goals
        cases hB : bitB (nth zs k) y
        all_goals
          have HA := Lib.hid hA
          have HC := Lib.hid hB
          go_wp2
          go_quiet ((first | (go_at_call_of 66 x; exact q_same (l01Bit_any _ x _ hx0 hx1) rfl) | (go_at_call_of 66 y; exact q_same (l01Bit_any _ y _ hy0 hy1) rfl)))
          go_wp2
          first
          | (go_ret
             exact ⟨ret_bool (atB_false (k := k + 1) hlt (by rw [atB, HM.out, HA.out, HC.out]; rfl)).symm, below_drewN (below_drewN HB.out _) _⟩)
          | (go_roundw
             case rel => exact ⟨k + 1, _, hlt, by go_num, by rw [atB, HM.out, HA.out, HC.out]; rfl, rfl⟩
             case measure => simp [intOf]; omega)
    · obtain rfl : k = ys.length := by omega
      go_wp2
      go_ret
      exact ⟨ret_bool HM.out.symm, below_drewN HB.out _⟩

set_option maxHeartbeats 400000 in
theorem l07Back_any (ls : List Int) (s o : Int) (a : Option Addr) (len cap : Nat) (w : World) (hl : len ≤ 30) (h : At w a len ls) :
    Calls Try.prog 115 #[.slice a len cap, .int .i64 s, .int .i64 o] w fun e w' => e = .returned (.bool (bits .andNot .i64 o (imgTo ls s len) == 0)) ∧ w = w' := by
  have H := Lib.hid h
  clear h
  go_enter Try.func115, Try.ntmps115
  go_wp2
  go_loop [7, 8] (fun m i => ∃ k : Nat, k ≤ len ∧ i = .int .i64 k ∧ m = .int .i64 (imgTo ls s k)) (fun _ i => len - (intOf i).toNat)
  case atStart => exact ⟨0, Nat.zero_le _, rfl, rfl⟩
  case round =>
    obtain ⟨k, hk, rfl, rfl⟩ := hrel
    by_cases hlt : k < len
    · obtain ⟨b, off, rfl, hb, hc⟩ := H.out.2.resolve_left (by omega)
      have hcell := hc k hlt
      clear hc
      cases hbit : bitB s k
      all_goals
        have HB := Lib.hid hbit
        go_wp2_with (go_at_call 66; refine (l01Bit_any _ _ _ (by omega) (by omega)).mono ?_; rintro e w' ⟨rfl, rfl⟩)
        go_round
        case rel => exact ⟨k + 1, hlt, by go_num, by simp only [imgTo, HB.out]; rfl⟩
        case measure => simp [intOf]; omega
    · obtain rfl : k = len := by omega
      go_wp2
      go_ret
      exact ⟨rfl, rfl⟩

def m2C (n0 : Int) (xs0 ys0 : List Int) (n1 : Int) (xs1 ys1 : List Int) : Int := if isM n0 xs0 ys0 && isM n1 xs1 ys1 then 0 else 1

end Go.Proofs.Ytckilaeolkgnkaa

/- The contract of the model's l07Below: what is linked under a link by what is true and what is seen. Conditions: those in the theorems. -/
namespace Go.Proofs.Ytckilaeolkgnkaa
open Go.RowKit

theorem bit_not {b : Bool} (h : b = false) : (!b) = true := by rw [h]; rfl

end Go.Proofs.Ytckilaeolkgnkaa

/- The contract of the model's l07Step: what is linked by a step under a link. Conditions: those in the theorems. -/
namespace Go.Proofs.Ytckilaeolkgnkaa
open Go.RowKit

def stB (xs ys ps zs ls : List Int) (x y : Nat) : Bool := atB ys zs x y ys.length && foB ls (nth xs x) (nth ps y) ls.length && (bits .andNot .i64 (nth ps y) (imgTo ls (nth xs x) ls.length) == 0)
def stV (xs ys ps zs ls : List Int) (x : Nat) : Int := mkT (stB xs ys ps zs ls x) ps.length
theorem own_down {w : World} {B k : Nat} {v : Value} {F : Nat → Int} (h : Own w B v (upTo F k)) : w.ownsRow B 2 1 v k ((upTo F k).map (Value.int .i64)) := by
  unfold Own at h; rw [upTo_len] at h; exact h

set_option maxHeartbeats 4000000 in
set_option maxRecDepth 100000 in
theorem l07Step_any (n0 n1 : Int) (xs ys ps zs ls : List Int) (a0 : Option Addr) (c0 : Nat) (b0 : Option Addr) (d0 : Nat) (a1 : Option Addr) (c1 : Nat) (b1 : Option Addr) (d1 : Nat) (al : Option Addr) (cl : Nat) (w : World) (h0 : Mo w n0 a0 b0 xs ys) (h1 : Mo w n1 a1 b1 ps zs) (hl : At w al ls.length ls) (hl8 : ls.length ≤ 8) :
    Calls Try.prog 110 #[.agg #[.int .i64 n0, .slice a0 xs.length c0, .slice b0 ys.length d0], .agg #[.int .i64 n1, .slice a1 ps.length c1, .slice b1 zs.length d1], .slice al ls.length cl] w fun e w' => ∃ v, e = .returned v ∧ Own w' w.heap.size v (tab xs.length (stV xs ys ps zs ls)) ∧ Below w.heap.size w w' := by
  obtain ⟨W, hW, HB, X0, X1, hWs⟩ := boxTw w n0 a0 xs.length c0 b0 ys.length d0 n1 a1 ps.length c1 b1 zs.length d1
  have M0 := Lib.hid (h0.keep HB.out)
  have M1 := Lib.hid (h1.keep HB.out)
  have HL := Lib.hid (hl.keep HB.out (Nat.le_refl _))
  have HW := Lib.hid hW
  have x8 := h0.2.1
  have p8 := h1.2.1
  have hws : w.heap.size ≤ W.heap.size := by omega
  have WS := Lib.hid hWs
  obtain rfl := h0.1
  obtain rfl := h1.1
  clear h0 h1 hl hW hWs
  obtain ⟨lt0, x0, x1, x2⟩ := X0.out
  obtain ⟨lt1, y0, y1, y2⟩ := X1.out
  go_enter Try.func110, Try.ntmps110
  go_wp2
  clear x0 x1 x2 y0 y1 y2
  rw [← HW.out]
  go_loopw [7, 8] (fun v i wr => ∃ t : Nat, t ≤ xs.length ∧ i = .int .i64 t ∧ Hid (Own wr W.heap.size v (upTo (stV xs ys ps zs ls) t)) ∧ Hid (Below W.heap.size W wr)) (fun _ i _ => xs.length - (intOf i).toNat)
  case atStart => exact ⟨0, Nat.zero_le _, rfl, Lib.hid (by rw [← WS.out]; exact World.ownsRow_lit W #[] 0 (Nat.le_refl _) (by unfold maxLen; omega) rfl), Lib.hid ((Below.refl _ _).alloc (Nat.le_refl _) _)⟩
  case round =>
    obtain ⟨t, ht, rfl, O, B⟩ := hrel
    have hsz := B.out.size
    obtain ⟨lt0, x0, x1, x2⟩ := X0.out.keep B.out
    obtain ⟨lt1, y0, y1, y2⟩ := X1.out.keep B.out
    by_cases hlt : t < xs.length
    · go_wp2
      clear x0 x1 x2 y0 y1 y2
      go_loopw [9, 10] (fun s i wr => ∃ y : Nat, y ≤ ps.length ∧ i = .int .i64 y ∧ s = .int .i64 (mkT (stB xs ys ps zs ls t) y) ∧ Hid (Own wr W.heap.size u7 (upTo (stV xs ys ps zs ls) t)) ∧ Hid (Below W.heap.size W wr)) (fun _ i _ => ps.length - (intOf i).toNat)
      case atStart => exact ⟨0, Nat.zero_le _, rfl, rfl, O, B⟩
      case round =>
        clear O B hsz
        obtain ⟨y, hy, rfl, rfl, O, B⟩ := hrel
        have hsz := B.out.size
        obtain ⟨lt0, x0, x1, x2⟩ := X0.out.keep B.out
        obtain ⟨lt1, y0, y1, y2⟩ := X1.out.keep B.out
        by_cases hly : y < ps.length
        · obtain ⟨-, -, -, -, hx, -⟩ := M0.out.keep B.out
          obtain ⟨-, -, -, -, hp, -⟩ := M1.out.keep B.out
          obtain ⟨xb, xo, rfl, hxb, hxc⟩ := hx.2.resolve_left (by omega)
          have hcx := hxc t hlt
          obtain ⟨pb, po, rfl, hpb, hpc⟩ := hp.2.resolve_left (by omega)
          have hcp := hpc y hly
          clear hpc hxc hx hp
          obtain ⟨A, hA⟩ : ∃ A, A = atB ys zs t y ys.length := ⟨_, rfl⟩
          obtain ⟨F, hF⟩ : ∃ F, F = foB ls (nth xs t) (nth ps y) ls.length := ⟨_, rfl⟩
          obtain ⟨G, hG⟩ : ∃ G, G = (bits .andNot .i64 (nth ps y) (imgTo ls (nth xs t) ls.length) == 0) := ⟨_, rfl⟩
          have CA := Lib.hid (show ∀ (w1 : World), Below W.heap.size W w1 → Calls Try.prog 113 #[.agg #[.int .i64 xs.length, .slice (some ⟨xb, xo, none⟩) xs.length c0, .slice b0 ys.length d0], .agg #[.int .i64 ps.length, .slice (some ⟨pb, po, none⟩) ps.length c1, .slice b1 zs.length d1], .int .i64 t, .int .i64 y] w1 fun e w' => e = .returned (.bool A) ∧ Below w1.heap.size w1 w' from
            fun w1 hw => by rw [hA]; exact l07Atoms_any _ _ xs ys ps zs t y _ _ _ _ _ _ _ _ w1 (by omega) (by omega) (by omega) (by omega) (M0.out.keep hw) (M1.out.keep hw))
          have CF := Lib.hid (show ∀ (w1 : World), Below W.heap.size W w1 → Calls Try.prog 114 #[.slice al ls.length cl, .int .i64 (nth xs t), .int .i64 (nth ps y)] w1 fun e w' => e = .returned (.bool F) ∧ w1 = w' from
            fun w1 hw => by rw [hF]; exact l07Forth_any ls _ _ _ _ _ w1 (by omega) (HL.out.keep hw (Nat.le_refl _)))
          have CG := Lib.hid (show ∀ (w1 : World), Below W.heap.size W w1 → Calls Try.prog 115 #[.slice al ls.length cl, .int .i64 (nth xs t), .int .i64 (nth ps y)] w1 fun e w' => e = .returned (.bool G) ∧ w1 = w' from
            fun w1 hw => by rw [hG]; exact l07Back_any ls _ _ _ _ _ w1 (by omega) (HL.out.keep hw (Nat.le_refl _)))
          have E := Lib.hid (show stB xs ys ps zs ls t y = (A && F && G) by rw [hA, hF, hG]; rfl)
          clear hA hF hG
          go_wp2
          go_quiet (fail)
          go_wp2_with fail
          clear x0 x1 x2 y0 y1 y2 hcx hcp
          refine (CA.out _ (below_drewN B.out _)).mono ?_
          rintro e w1 ⟨rfl, hb⟩
          have B1 := Lib.hid ((below_drewN B.out nq).trans (hb.mono (show W.heap.size ≤ _ from hsz)))
          have O1 := Lib.hid (Own.keep (show Own (World.drewN _ nq) _ _ _ from O.out) hb (Nat.le_refl _))
          clear hb
          cases A
          · go_wp2
            go_roundw
            case rel => exact ⟨y + 1, hly, by go_num, by rw [mkT, E.out]; rfl, O1, B1⟩
            case measure => simp [intOf]; omega
          · go_wp2_with fail
            refine (CF.out _ B1.out).mono ?_
            rintro e w' ⟨rfl, rfl⟩
            cases F
            · go_wp2
              go_roundw
              case rel => exact ⟨y + 1, hly, by go_num, by rw [mkT, E.out]; rfl, O1, B1⟩
              case measure => simp [intOf]; omega
            · go_wp2_with fail
              refine (CG.out _ B1.out).mono ?_
              rintro e w' ⟨rfl, rfl⟩
              cases G
              · go_wp2
                go_roundw
                case rel => exact ⟨y + 1, hly, by go_num, by rw [mkT, E.out]; rfl, O1, B1⟩
                case measure => simp [intOf]; omega
              · go_wp2_with (go_at_call 55; refine (l01One_any _ _ (by omega) (by omega)).mono ?_; rintro e w' ⟨rfl, rfl⟩)
                go_roundw
                case rel => exact ⟨y + 1, hly, by go_num, by rw [mkT, E.out]; rfl, O1, B1⟩
                case measure => simp [intOf]; omega
        · obtain rfl : y = ps.length := by omega
          go_wp2_with (at_builtin; refine list_app1 rfl _ _ rfl W.heap.size _ t _ rfl ((own_down O.out).alloc _) ⟨wr.heap.size, 0, none⟩ 1 _ rfl (World.cell?_alloc_at _ _ _ _ rfl) (by omega) (by simp; omega) ?_; intro v' w1' hown1 hgr1)
          have hbel := Lib.hid (below_app B.out ((Below.refl _ _).alloc hsz _) hsz (own_down O.out) hgr1)
          clear hgr1 x0 x1 x2 y0 y1 y2
          go_roundw
          case rel => exact ⟨t + 1, hlt, by go_num, Lib.hid (by unfold Own; rw [upTo_len, upTo, List.map_append]; exact hown1), hbel⟩
          case measure => simp [intOf]; omega
    · obtain rfl : t = xs.length := by omega
      go_wp2
      go_ret
      exact ⟨_, rfl, by rw [← upTo_tab]; exact O.out.mono hws, HB.out.trans (B.out.mono HB.out.size)⟩

end Go.Proofs.Ytckilaeolkgnkaa
