/- 2 texts in one: Prt, Sum. -/
import Derived.Test.YtecjmibnoldpgabJn07
import Derived.Test.YtecjmibnoldpgabJn05
/- Contracts of the frame of a list of worlds, of the model and of the program, and of PartOfFrame. Conditions: those in the theorems. -/
namespace Go.Proofs.Ytecjmibnoldpgab
open Go.RowKit

/-- The mask of the indices, in a list of worlds, of the members of x. -/
def sqTo (ls : List Int) (x : Int) : Nat → Int
  | 0 => 0
  | k + 1 => if bitB x (nth ls k) then bits .or .i64 (sqTo ls x k) (one k) else sqTo ls x k
def arF (xs ls : List Int) (i : Nat) : Int := sqTo ls (nth xs (nth ls i).toNat) ls.length
def arV (xs ls : List Int) : List Int := tab ls.length (arF xs ls)
def LsOk (n : Nat) (ls : List Int) : Prop := ∀ k, k < ls.length → ∃ p : Nat, nth ls k = p ∧ p < n
theorem memTo_ok (m k : Nat) : LsOk k (memTo m k) := by
  induction k with
  | zero => intro i hi; simp [memTo] at hi
  | succ k ih =>
    intro i hi
    rw [memTo] at hi ⊢
    split at hi
    · rename_i h
      rw [if_pos h]
      by_cases e : i < (memTo m k).length
      · obtain ⟨p, h1, h2⟩ := ih i e
        exact ⟨p, by rw [nth_left _ _ _ e]; exact h1, by omega⟩
      · have e2 : i = (memTo m k).length := by simp at hi; omega
        subst e2
        exact ⟨k, nth_snoc _ _ _ rfl, by omega⟩
    · rename_i h
      rw [if_neg h]
      obtain ⟨p, h1, h2⟩ := ih i hi
      exact ⟨p, h1, by omega⟩

theorem boxF1 (w : World) (n : Int) (a : Option Addr) (l c : Nat) : ∃ W : World, W = (w.alloc (.cells #[.int .i64 n, .slice a l c] 30)).alloc (.cells #[.int .i64 0, .slice none 0 0] 30) ∧
    Hid (Below w.heap.size w W) ∧ Hid (Bx W w.heap.size n a l c) ∧ Hid (Bz W (w.heap.size + 1)) ∧ W.heap.size = w.heap.size + 1 + 1 := by
  refine ⟨_, rfl, Lib.hid (((Below.refl w.heap.size w).alloc (Nat.le_refl _) _).alloc (by simp) _), Lib.hid ((Bx.new w n a l c _).keep (alloc_keep _ _).1), ?_, by simp⟩
  have := Bz.new (w.alloc (.cells #[.int .i64 n, .slice a l c] 30))
  exact Lib.hid (by simpa using this)

set_option maxHeartbeats 400000 in
theorem l05Squeeze_any (ls : List Int) (x : Int) (n : Nat) (a : Option Addr) (len cap : Nat) (w : World) (hl : len ≤ 30) (hn : n ≤ 30) (hok : LsOk n ls) (h : At w a len ls) :
    Calls Try.prog 84 #[.slice a len cap, .int .i64 x] w fun e w' => e = .returned (.int .i64 (sqTo ls x len)) ∧ w = w' := by
  obtain rfl := h.1
  have H := Lib.hid h
  have OK := Lib.hid hok
  clear h hok
  go_enter Try.func84, Try.ntmps84
  go_wp2
  go_loop [5, 6] (fun s i => ∃ k : Nat, k ≤ ls.length ∧ i = .int .i64 k ∧ s = .int .i64 (sqTo ls x k)) (fun _ i => ls.length - (intOf i).toNat)
  case atStart => exact ⟨0, Nat.zero_le _, rfl, rfl⟩
  case round =>
    obtain ⟨k, hk, rfl, rfl⟩ := hrel
    by_cases hlt : k < ls.length
    · obtain ⟨b, off, rfl, -, hc⟩ := H.out.2.resolve_left (by omega)
      obtain ⟨p, hp, hpn⟩ := OK.out k hlt
      have hcell := hc k hlt
      rw [hp] at hcell
      have HP := Lib.hid hp
      clear hc hp
      cases hb : bitB x (p : Int)
      all_goals
        have HB := Lib.hid hb
        go_wp2_with (first | (go_at_call 66; refine (l01Bit_any _ _ _ (by omega) (by omega)).mono ?_; rintro e w' ⟨rfl, rfl⟩) | (go_at_call 57; refine (l01One_any _ _ (by omega) (by omega)).mono ?_; rintro e w' ⟨rfl, rfl⟩))
        go_round
        case rel => exact ⟨k + 1, hlt, by go_num, by simp [sqTo, HP.out, HB.out]⟩
        case measure => simp [intOf]; omega
    · obtain rfl : k = ls.length := by omega
      go_wp2
      go_ret
      exact ⟨rfl, rfl⟩

def arTo (xs ls : List Int) : Nat → List Int
  | 0 => []
  | k + 1 => arTo xs ls k ++ [arF xs ls k]
theorem arTo_len (xs ls : List Int) (k : Nat) : (arTo xs ls k).length = k := by induction k with | zero => rfl | succ k ih => simp [arTo, ih]
theorem arTo_tab (xs ls : List Int) (k : Nat) : arTo xs ls k = tab k (arF xs ls) := by
  induction k with
  | zero => rfl
  | succ k ih => rw [arTo, ih]; unfold tab; rw [List.range_succ, List.map_append]; rfl
theorem own_ar {w : World} {B k : Nat} {v : Value} {xs ls : List Int} (h : w.ownsRow B 2 1 v k ((arTo xs ls k).map (Value.int .i64))) : Own w B v (arTo xs ls k) := by
  unfold Own; rw [arTo_len]; exact h

set_option maxHeartbeats 1000000 in
set_option maxRecDepth 100000 in
theorem l05Part_any (n : Int) (xs : List Int) (m : Nat) (a : Option Addr) (len cap : Nat) (w : World) (hl : len ≤ 8) (hm : m < 2 ^ len) (h : At w a len xs) :
    Calls Try.prog 85 #[.agg #[.int .i64 n, .slice a len cap], .int .i64 m] w fun e w' => ∃ v, e = .returned v ∧ OwnF w' w.heap.size v (arV xs (memTo m len)).length (arV xs (memTo m len)) ∧ Below w.heap.size w w' := by
  obtain ⟨W, hW, HB, X, Z, hWs⟩ := boxF1 w n a len cap
  have H := Lib.hid (h.keep HB.out (Nat.le_refl _))
  have hz0 : w.heap.size + 1 + 1 ≤ W.heap.size := by omega
  obtain rfl := h.1
  have hm30 : m < 1073741824 := by have : (2 : Nat) ^ xs.length ≤ 2 ^ 8 := Nat.pow_le_pow_right (by decide) hl; omega
  have M := Lib.hid (memTo_high hm 30 (by omega))
  obtain ⟨ls, hls⟩ : ∃ ls, ls = memTo m xs.length := ⟨_, rfl⟩
  have OK := Lib.hid (show LsOk xs.length ls by rw [hls]; exact memTo_ok m xs.length)
  have hll : ls.length ≤ 8 := by rw [hls]; exact Nat.le_trans (memTo_len m xs.length) hl
  rw [← hls] at M ⊢
  have HW := Lib.hid hW
  clear h hWs hm hls hW
  go_enter Try.func85, Try.ntmps85
  go_wp2_with fail
  rw [← HW.out]
  refine (l01List_any m hm30 _).mono ?_
  rw [M.out]
  rintro e w1 ⟨v1, rfl, ho, hb⟩
  obtain ⟨a1, k1, rfl, hat, -, -, -⟩ := ho.at
  have L1 := Lib.hid hat
  have B1 := Lib.hid hb
  clear ho hb hat
  go_wp2
  go_loopw [6, 7] (fun v i wr => ∃ k : Nat, k ≤ ls.length ∧ i = .int .i64 k ∧ wr.ownsRow w1.heap.size 2 1 v k ((arTo xs ls k).map (Value.int .i64)) ∧ Hid (Below w1.heap.size w1 wr)) (fun _ i _ => ls.length - (intOf i).toNat)
  case atStart => exact ⟨0, Nat.zero_le _, rfl, World.ownsRow_lit w1 #[] 0 (Nat.le_refl _) (by unfold maxLen; omega) rfl, Lib.hid ((Below.refl _ _).alloc (Nat.le_refl _) _)⟩
  case round =>
    obtain ⟨k, hk, rfl, hown, B⟩ := hrel
    have HO := Lib.hid hown
    clear hown
    have hs1 := B1.out.size
    have hsz := B.out.size
    have BW := Lib.hid (B1.out.trans (B.out.mono hs1))
    have HA := Lib.hid (H.out.keep BW.out (Nat.le_refl _))
    have LA := Lib.hid (L1.out.keep B.out (Nat.le_refl _))
    obtain ⟨lt0, x0, x0'⟩ := X.out.keep BW.out
    by_cases hlt : k < ls.length
    · obtain ⟨p, hp, hpn⟩ := OK.out k hlt
      obtain ⟨b', off', rfl, hb', hc'⟩ := LA.out.2.resolve_left (by omega)
      have hcell' := hc' k hlt
      rw [hp] at hcell'
      obtain ⟨b, off, rfl, hb, hc⟩ := HA.out.2.resolve_left (by omega)
      have hcell := hc p hpn
      have EL := Lib.hid (show sqTo ls (nth xs p) ls.length = arF xs ls k by rw [arF, hp, Int.toNat_natCast])
      clear hc hc' hp
      go_wp2
      go_region_law (first | (refine step_app1 rfl _ _ rfl w1.heap.size _ k _ rfl (HO.out.drew.alloc _) ⟨wr.heap.size, 0, none⟩ 1 _ rfl (World.cell?_alloc_at _ _ _ _ rfl) (by omega) (by simp; omega) ?_; intro v' w1' hown1 hgr1) | (go_simp; go_at_call 84; refine (l05Squeeze_any ls _ xs.length _ _ _ _ (by omega) (by omega) OK.out LA.out.drw).mono ?_; rintro e w' ⟨rfl, rfl⟩))
      all_goals
        have hbel := Lib.hid (below_app B.out (((Below.refl _ _).alloc hsz _).drew) hsz HO.out hgr1)
        rw [EL.out] at hown1
        clear hgr1 x0 x0' hcell hcell'
        go_wp2
        go_roundw
        case rel => exact ⟨k + 1, hlt, by go_num, by rw [arTo, List.map_append]; exact hown1, hbel⟩
        case measure => simp [intOf]; omega
    · obtain rfl : k = ls.length := by omega
      have O5 := Lib.hid (own_ar HO.out)
      obtain ⟨a5, k5, e5, hat5, -, hn5, -⟩ := O5.out.at
      rw [arTo_len] at e5 hat5
      subst e5
      have H5 := Lib.hid hat5
      have N5 := Lib.hid hn5
      have Z1 := Lib.hid (Z.out.keep BW.out)
      have B2 := Lib.hid (HB.out.trans (BW.out.mono HB.out.size))
      have E5 := Lib.hid (arTo_tab xs ls ls.length)
      clear hat5 hn5 x0 x0'
      go_wp2_with fail
      refine (l05Make_any _ _ _ _ _ (by omega) H5.out N5.out).mono ?_
      rintro e w2 ⟨v2, rfl, ho, hb⟩
      obtain ⟨a2, k2, rfl⟩ := ho.form
      obtain ⟨lt2, z0, z1, z2, z3⟩ := Z1.out.keep hb
      have B3 := Lib.hid (B2.out.trans (hb.mono B2.out.size))
      have O2 := Lib.hid ho
      clear ho hb
      go_wp2
      refine bodyPost_ret (v := .agg #[.int .i64 (arTo xs ls ls.length).length, .slice a2 (arTo xs ls ls.length).length k2]) (by simp [results, Try.results85, go_sem, z0, z1]) rfl ⟨_, rfl, ?_, (B3.out.setCell (by show _ ≤ _; simp) _).setCell (by show _ ≤ _; simp) _⟩
      have e6 : arV xs ls = arTo xs ls ls.length := E5.out.symm
      rw [e6]
      exact (O2.out.out2 (by omega)).mono (by omega)

end Go.Proofs.Ytecjmibnoldpgab

/- Contracts of SumFrames, of the model and of the program. Conditions: those in the theorems. -/
namespace Go.Proofs.Ytecjmibnoldpgab
open Go.RowKit

theorem boxFF (w : World) (n0 n1 : Int) (a0 a1 : Option Addr) (l0 c0 l1 c1 : Nat) : ∃ W : World, W = ((w.alloc (.cells #[.int .i64 n0, .slice a0 l0 c0] 30)).alloc (.cells #[.int .i64 n1, .slice a1 l1 c1] 30)).alloc (.cells #[.int .i64 0, .slice none 0 0] 30) ∧
    Hid (Below w.heap.size w W) ∧ Hid (Bx W w.heap.size n0 a0 l0 c0) ∧ Hid (Bx W (w.heap.size + 1) n1 a1 l1 c1) ∧ Hid (Bz W (w.heap.size + 1 + 1)) ∧ W.heap.size = w.heap.size + 1 + 1 + 1 := by
  refine ⟨_, rfl, Lib.hid ((((Below.refl w.heap.size w).alloc (Nat.le_refl _) _).alloc (by simp) _).alloc (by simp; omega) _), Lib.hid (((Bx.new w n0 a0 l0 c0 _).keep (alloc_keep _ _).1).keep (alloc_keep _ _).1), ?_, ?_, by simp⟩
  · have := (Bx.new (w.alloc (.cells #[.int .i64 n0, .slice a0 l0 c0] 30)) n1 a1 l1 c1 30).keep (alloc_keep _ (.cells #[.int .i64 0, .slice none 0 0] 30)).1
    exact Lib.hid (by simpa using this)
  · have := Bz.new ((w.alloc (.cells #[.int .i64 n0, .slice a0 l0 c0] 30)).alloc (.cells #[.int .i64 n1, .slice a1 l1 c1] 30))
    exact Lib.hid (by simpa using this)

def smTo (xs ys : List Int) (k : Int) : Nat → List Int
  | 0 => xs
  | j + 1 => smTo xs ys k j ++ [wrap64 (nth ys j * 2 ^ k.toNat)]
theorem smTo_len (xs ys : List Int) (k : Int) (j : Nat) : (smTo xs ys k j).length = xs.length + j := by
  induction j with
  | zero => rfl
  | succ j ih => simp [smTo, ih]; omega

theorem shl_spell {n : Int} (h0 : 0 ≤ n) (h1 : n ≤ 8) (y : Int) : IntKind.i64.wrap (y * 2 ^ min (IntKind.u64.wrap n).toNat 64) = wrap64 (y * 2 ^ n.toNat) := by
  rw [IntWalk.u64_in n (by omega), Nat.min_eq_left (by omega)]
  unfold wrap64
  exact IntKind.wrap_i64 _
theorem own_sm {w : World} {B k : Nat} {v : Value} {xs ys : List Int} {n : Int} (h : w.ownsRow B 2 1 v (xs.length + k) ((smTo xs ys n k).map (Value.int .i64))) : Own w B v (smTo xs ys n k) := by
  unfold Own; rw [smTo_len]; exact h
theorem sm_next {w : World} {B m : Nat} {v : Value} {xs ys : List Int} {n z : Int} {k : Nat} (hz : z = wrap64 (nth ys k * 2 ^ n.toNat)) (h : w.ownsRow B 2 1 v (m + k + 1) ((smTo xs ys n k).map (Value.int .i64) ++ [.int .i64 z])) :
    w.ownsRow B 2 1 v (m + (k + 1)) ((smTo xs ys n (k + 1)).map (Value.int .i64)) := by
  rw [smTo, List.map_append, ← hz, ← Nat.add_assoc]; exact h

def smC (n0 : Int) (x0 : List Int) (n1 : Int) (x1 : List Int) : Int := if frB n0 x0 && frB n1 x1 then (if 8 < n0 + n1 then 3 else 0) else 1
def smL (n0 : Int) (x0 : List Int) (n1 : Int) (x1 : List Int) : List Int := if smC n0 x0 n1 x1 = 0 then smTo x0 x1 n0 x1.length else []
theorem smC_1 {n0 n1 : Int} {x0 x1 : List Int} (h : (frB n0 x0 && frB n1 x1) = false) : smC n0 x0 n1 x1 = 1 := by rw [smC, h]; rfl
theorem smC_3 {n0 n1 : Int} {x0 x1 : List Int} (h : (frB n0 x0 && frB n1 x1) = true) (h2 : 8 < n0 + n1) : smC n0 x0 n1 x1 = 3 := by rw [smC, h, if_pos rfl, if_pos h2]
theorem smC_0 {n0 n1 : Int} {x0 x1 : List Int} (h : (frB n0 x0 && frB n1 x1) = true) (h2 : ¬ 8 < n0 + n1) : smC n0 x0 n1 x1 = 0 := by rw [smC, h, if_pos rfl, if_neg h2]
/-- A result that is a frame and a code. -/
def RF (w : World) (B : Nat) (n c : Int) (xs : List Int) (e : Ending) : Prop := ∃ v, e = .returned (.tuple #[v, .int .i64 c]) ∧ OwnF w B v n xs
theorem RF.bad {w : World} {B : Nat} {c c' n : Int} {xs : List Int} (h : c = c') (hn : n = 0) (hx : xs = []) : RF w B n c xs (.returned (.tuple #[.agg #[.int .i64 0, .slice none 0 0], .int .i64 c'])) := by
  subst h hn hx
  exact ⟨_, rfl, OwnF.mk (World.ownsRow_nil _ _ _ _)⟩
theorem RF.good {w : World} {B B' : Nat} {c n n' : Int} {v : Value} {xs xs' : List Int} (h : c = 0) (hn : n = n') (hx : xs = xs') (ho : OwnF w B' v n' xs') (hB : B ≤ B') : RF w B n c xs (.returned (.tuple #[v, .int .i64 0])) := by
  subst h hn hx
  exact ⟨_, rfl, ho.mono hB⟩

theorem cells4 (W : World) (n0 n1 : Int) (a0 a1 : Option Addr) (l0 c0 l1 c1 : Nat) : ∃ W' : World, W' = W.alloc (.cells #[.int .i64 n0, .slice a0 l0 c0, .int .i64 n1, .slice a1 l1 c1] 30) ∧ Below W.heap.size W W' ∧ W.heap.size < W'.heap.size ∧
    W'.cell? ⟨W.heap.size, 0, none⟩ = some (.int .i64 n0) ∧ W'.cell? ⟨W.heap.size, 1, none⟩ = some (.slice a0 l0 c0) ∧ W'.cell? ⟨W.heap.size, 2, none⟩ = some (.int .i64 n1) ∧ W'.cell? ⟨W.heap.size, 3, none⟩ = some (.slice a1 l1 c1) :=
  ⟨_, rfl, (alloc_keep _ _).1, by simp, World.cell?_alloc_at _ _ _ _ rfl, World.cell?_alloc_at _ _ _ _ rfl, World.cell?_alloc_at _ _ _ _ rfl, World.cell?_alloc_at _ _ _ _ rfl⟩

set_option maxHeartbeats 1000000 in
set_option maxRecDepth 100000 in
theorem plusF_any (n0 n1 : Int) (xs ys : List Int) (a0 a1 : Option Addr) (c0 c1 : Nat) (w : World) (hn00 : 0 ≤ n0) (hn08 : n0 ≤ 8) (h80 : xs.length ≤ 8) (h81 : ys.length ≤ 8) (h0 : At w a0 xs.length xs) (h1 : At w a1 ys.length ys) :
    Calls Try.prog 78 #[.agg #[.int .i64 n0, .slice a0 xs.length c0], .agg #[.int .i64 n1, .slice a1 ys.length c1]] w fun e w' => ∃ v, e = .returned v ∧ OwnF w' w.heap.size v (smTo xs ys n0 ys.length).length (smTo xs ys n0 ys.length) ∧ Below w.heap.size w w' := by
  obtain ⟨W, hW, HB, X0, X1, Z, hWs⟩ := boxFF w n0 n1 a0 a1 xs.length c0 ys.length c1
  have hz0 : w.heap.size + 1 + 1 + 1 ≤ W.heap.size := by omega
  have H0 := Lib.hid (h0.keep HB.out (Nat.le_refl _))
  have H1 := Lib.hid (h1.keep HB.out (Nat.le_refl _))
  have HW := Lib.hid hW
  have hl0 : xs.length ≤ 1048576 := by omega
  clear h0 h1 hWs hW
  obtain ⟨lt, x0, x0'⟩ := X0.out
  obtain ⟨lt', x1, x1'⟩ := X1.out
  go_enter Try.func78, Try.ntmps78
  go_wp2_with fail
  clear x0 x0' x1 x1'
  rw [← HW.out]
  refine (slCloneI_any xs _ _ _ _ hl0 H0.out).mono ?_
  rintro e w2 ⟨v2, rfl, ho, hb⟩
  have B2 := Lib.hid hb
  have O2 := Lib.hid ho
  have H12 := Lib.hid (H1.out.keep hb (Nat.le_refl _))
  obtain ⟨lt, x0, x0'⟩ := X0.out.keep hb
  obtain ⟨lt', x1, x1'⟩ := X1.out.keep hb
  clear hb ho
  go_wp2
  clear x0 x0' x1 x1'
  go_loopw [5, 14] (fun v i wr => ∃ k : Nat, k ≤ ys.length ∧ i = .int .i64 k ∧ wr.ownsRow W.heap.size 2 1 v (xs.length + k) ((smTo xs ys n0 k).map (Value.int .i64)) ∧ Hid (Below W.heap.size W wr)) (fun _ i _ => ys.length - (intOf i).toNat)
  case atStart => exact ⟨0, Nat.zero_le _, rfl, O2.out, B2⟩
  case round =>
    obtain ⟨k, hk, rfl, hown, B⟩ := hrel
    have HO := Lib.hid hown
    clear hown
    have HY := Lib.hid (H1.out.keep B.out (Nat.le_refl _))
    obtain ⟨lt0, x0, x0'⟩ := X0.out.keep B.out
    have hsz := B.out.size
    by_cases hlt : k < ys.length
    · obtain ⟨b, off, rfl, hb, hc⟩ := HY.out.2.resolve_left (by omega)
      have hcell := hc k hlt
      clear hc
      go_wp2_with (at_builtin; refine list_app1 rfl _ _ rfl W.heap.size _ (xs.length + k) _ rfl (HO.out.alloc _) ⟨wr.heap.size, 0, none⟩ 1 _ rfl (World.cell?_alloc_at _ _ _ _ rfl) (by omega) (by simp; omega) ?_; intro v' w1' hown1 hgr1)
      have hbel := Lib.hid (below_app B.out ((Below.refl _ _).alloc hsz _) hsz HO.out hgr1)
      clear hgr1 x0 x0' hcell
      go_roundw
      case rel => exact ⟨k + 1, hlt, by go_num, sm_next rfl hown1, hbel⟩
      case measure => simp [intOf]; omega
    · obtain rfl : k = ys.length := by omega
      have O5 := Lib.hid (own_sm HO.out)
      obtain ⟨a5, k5, e5, -, -, -, -⟩ := O5.out.at
      subst e5
      have Z5 := Lib.hid (Z.out.keep B.out)
      have hl5 : (smTo xs ys n0 ys.length).length ≤ 1048576 := by rw [smTo_len]; omega
      have B5 := Lib.hid (HB.out.trans (B.out.mono HB.out.size))
      clear x0 x0'
      go_wp2_with fail
      refine (frameOf_any _ _ _ _ hl5).mono ?_
      rintro e w3 ⟨rfl, hb⟩
      obtain ⟨lt, z0, z1, z2, z3⟩ := Z5.out.keep hb
      have B6 := Lib.hid (B5.out.trans (hb.mono B5.out.size))
      have O6 := Lib.hid (OwnF.mk (n := (smTo xs ys n0 ys.length).length) (O5.out.keep hb (Nat.le_refl _)))
      clear hb O5
      go_wp2
      exact bodyPost_ret (v := .agg #[.int .i64 (smTo xs ys n0 ys.length).length, .slice a5 (smTo xs ys n0 ys.length).length k5]) (by simp [results, Try.results78, go_sem, z0, z1]) rfl ⟨_, rfl, (O6.out.out2 (by omega)).mono (by omega), (B6.out.setCell (by show _ ≤ _; simp; omega) _).setCell (by show _ ≤ _; simp; omega) _⟩

end Go.Proofs.Ytecjmibnoldpgab
