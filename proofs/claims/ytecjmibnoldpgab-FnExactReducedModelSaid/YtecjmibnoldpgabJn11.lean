/- 4 texts in one: Sum, Prt2, PmA, Wl. -/
import Derived.Test.YtecjmibnoldpgabJn08
import Derived.Test.YtecjmibnoldpgabJn09
import Derived.Test.YtecjmibnoldpgabIsMo
import Derived.Test.YtecjmibnoldpgabJn04
/- Contracts of SumFrames, of the model and of the program. Conditions: those in the theorems. -/
namespace Go.Proofs.Ytecjmibnoldpgab
open Go.RowKit

theorem boxFF (w : World) (n0 n1 : Int) (a0 a1 : Option Addr) (l0 c0 l1 c1 : Nat) : ∃ W : World, W = ((w.alloc (.cells #[.int .i64 n0, .slice a0 l0 c0] 30)).alloc (.cells #[.int .i64 n1, .slice a1 l1 c1] 30)).alloc (.cells #[.int .i64 0, .slice none 0 0] 30) ∧
    Hid (Below w.heap.size w W) ∧ Hid (Bx W w.heap.size n0 a0 l0 c0) ∧ Hid (Bx W (w.heap.size + 1) n1 a1 l1 c1) ∧ Hid (Bz W (w.heap.size + 1 + 1)) ∧ W.heap.size = w.heap.size + 1 + 1 + 1 := by
  refine ⟨_, rfl, Lib.hid ((((Below.refl w.heap.size w).alloc (Nat.le_refl _) _).alloc (by simp) _).alloc (by simp; omega) _), Lib.hid (((Bx.new w n0 a0 l0 c0 _).keep (alloc_keep _ _).1).keep (alloc_keep _ _).1), ?_, ?_, by simp⟩
  · have := (Bx.new (w.alloc (.cells #[.int .i64 n0, .slice a0 l0 c0] 30)) n1 a1 l1 c1 30).keep (alloc_keep _ (.cells #[.int .i64 0, .slice none 0 0] 30)).1
    exact Lib.hid (by simpa using this)
  · have := Bz.new ((w.alloc (.cells #[.int .i64 n0, .slice a0 l0 c0] 30)).alloc (.cells #[.int .i64 n1, .slice a1 l1 c1] 30))
    exact Lib.hid (by simpa using this)

def smTo (xs ys : List Int) (k : Int) : Nat → List Int
  | 0 => xs
  | j + 1 => smTo xs ys k j ++ [wrap64 (nth ys j * 2 ^ k.toNat)]
theorem smTo_len (xs ys : List Int) (k : Int) (j : Nat) : (smTo xs ys k j).length = xs.length + j := by
  induction j with
  | zero => rfl
  | succ j ih => simp [smTo, ih]; omega

theorem shl_spell {n : Int} (h0 : 0 ≤ n) (h1 : n ≤ 8) (y : Int) : IntKind.i64.wrap (y * 2 ^ min (IntKind.u64.wrap n).toNat 64) = wrap64 (y * 2 ^ n.toNat) := by
  rw [IntWalk.u64_in n (by omega), Nat.min_eq_left (by omega)]
  unfold wrap64
  exact IntKind.wrap_i64 _
theorem own_sm {w : World} {B k : Nat} {v : Value} {xs ys : List Int} {n : Int} (h : w.ownsRow B 2 1 v (xs.length + k) ((smTo xs ys n k).map (Value.int .i64))) : Own w B v (smTo xs ys n k) := by
  unfold Own; rw [smTo_len]; exact h
theorem sm_next {w : World} {B m : Nat} {v : Value} {xs ys : List Int} {n z : Int} {k : Nat} (hz : z = wrap64 (nth ys k * 2 ^ n.toNat)) (h : w.ownsRow B 2 1 v (m + k + 1) ((smTo xs ys n k).map (Value.int .i64) ++ [.int .i64 z])) :
    w.ownsRow B 2 1 v (m + (k + 1)) ((smTo xs ys n (k + 1)).map (Value.int .i64)) := by
  rw [smTo, List.map_append, ← hz, ← Nat.add_assoc]; exact h

def smC (n0 : Int) (x0 : List Int) (n1 : Int) (x1 : List Int) : Int := if frB n0 x0 && frB n1 x1 then (if 8 < n0 + n1 then 3 else 0) else 1
def smL (n0 : Int) (x0 : List Int) (n1 : Int) (x1 : List Int) : List Int := if smC n0 x0 n1 x1 = 0 then smTo x0 x1 n0 x1.length else []
theorem smC_1 {n0 n1 : Int} {x0 x1 : List Int} (h : (frB n0 x0 && frB n1 x1) = false) : smC n0 x0 n1 x1 = 1 := by rw [smC, h]; rfl
theorem smC_3 {n0 n1 : Int} {x0 x1 : List Int} (h : (frB n0 x0 && frB n1 x1) = true) (h2 : 8 < n0 + n1) : smC n0 x0 n1 x1 = 3 := by rw [smC, h, if_pos rfl, if_pos h2]
theorem smC_0 {n0 n1 : Int} {x0 x1 : List Int} (h : (frB n0 x0 && frB n1 x1) = true) (h2 : ¬ 8 < n0 + n1) : smC n0 x0 n1 x1 = 0 := by rw [smC, h, if_pos rfl, if_neg h2]
/-- A result that is a frame and a code. -/
def RF (w : World) (B : Nat) (n c : Int) (xs : List Int) (e : Ending) : Prop := ∃ v, e = .returned (.tuple #[v, .int .i64 c]) ∧ OwnF w B v n xs
theorem RF.bad {w : World} {B : Nat} {c c' n : Int} {xs : List Int} (h : c = c') (hn : n = 0) (hx : xs = []) : RF w B n c xs (.returned (.tuple #[.agg #[.int .i64 0, .slice none 0 0], .int .i64 c'])) := by
  subst h hn hx
  exact ⟨_, rfl, OwnF.mk (World.ownsRow_nil _ _ _ _)⟩
theorem RF.good {w : World} {B B' : Nat} {c n n' : Int} {v : Value} {xs xs' : List Int} (h : c = 0) (hn : n = n') (hx : xs = xs') (ho : OwnF w B' v n' xs') (hB : B ≤ B') : RF w B n c xs (.returned (.tuple #[v, .int .i64 0])) := by
  subst h hn hx
  exact ⟨_, rfl, ho.mono hB⟩

theorem cells4 (W : World) (n0 n1 : Int) (a0 a1 : Option Addr) (l0 c0 l1 c1 : Nat) : ∃ W' : World, W' = W.alloc (.cells #[.int .i64 n0, .slice a0 l0 c0, .int .i64 n1, .slice a1 l1 c1] 30) ∧ Below W.heap.size W W' ∧ W.heap.size < W'.heap.size ∧
    W'.cell? ⟨W.heap.size, 0, none⟩ = some (.int .i64 n0) ∧ W'.cell? ⟨W.heap.size, 1, none⟩ = some (.slice a0 l0 c0) ∧ W'.cell? ⟨W.heap.size, 2, none⟩ = some (.int .i64 n1) ∧ W'.cell? ⟨W.heap.size, 3, none⟩ = some (.slice a1 l1 c1) :=
  ⟨_, rfl, (alloc_keep _ _).1, by simp, World.cell?_alloc_at _ _ _ _ rfl, World.cell?_alloc_at _ _ _ _ rfl, World.cell?_alloc_at _ _ _ _ rfl, World.cell?_alloc_at _ _ _ _ rfl⟩

set_option maxHeartbeats 1000000 in
set_option maxRecDepth 100000 in
theorem plusF_any (n0 n1 : Int) (xs ys : List Int) (a0 a1 : Option Addr) (c0 c1 : Nat) (w : World) (hn00 : 0 ≤ n0) (hn08 : n0 ≤ 8) (h80 : xs.length ≤ 8) (h81 : ys.length ≤ 8) (h0 : At w a0 xs.length xs) (h1 : At w a1 ys.length ys) :
    Calls Try.prog 78 #[.agg #[.int .i64 n0, .slice a0 xs.length c0], .agg #[.int .i64 n1, .slice a1 ys.length c1]] w fun e w' => ∃ v, e = .returned v ∧ OwnF w' w.heap.size v (smTo xs ys n0 ys.length).length (smTo xs ys n0 ys.length) ∧ Below w.heap.size w w' := by
  obtain ⟨W, hW, HB, X0, X1, Z, hWs⟩ := boxFF w n0 n1 a0 a1 xs.length c0 ys.length c1
  have hz0 : w.heap.size + 1 + 1 + 1 ≤ W.heap.size := by omega
  have H0 := Lib.hid (h0.keep HB.out (Nat.le_refl _))
  have H1 := Lib.hid (h1.keep HB.out (Nat.le_refl _))
  have HW := Lib.hid hW
  have hl0 : xs.length ≤ 1048576 := by omega
  clear h0 h1 hWs hW
  obtain ⟨lt, x0, x0'⟩ := X0.out
  obtain ⟨lt', x1, x1'⟩ := X1.out
  go_enter Try.func78, Try.ntmps78
  go_wp2_with fail
  clear x0 x0' x1 x1'
  rw [← HW.out]
  refine (slCloneI_any xs _ _ _ _ hl0 H0.out).mono ?_
  rintro e w2 ⟨v2, rfl, ho, hb⟩
  have B2 := Lib.hid hb
  have O2 := Lib.hid ho
  have H12 := Lib.hid (H1.out.keep hb (Nat.le_refl _))
  obtain ⟨lt, x0, x0'⟩ := X0.out.keep hb
  obtain ⟨lt', x1, x1'⟩ := X1.out.keep hb
  clear hb ho
  go_wp2
  clear x0 x0' x1 x1'
  go_loopw [5, 14] (fun v i wr => ∃ k : Nat, k ≤ ys.length ∧ i = .int .i64 k ∧ wr.ownsRow W.heap.size 2 1 v (xs.length + k) ((smTo xs ys n0 k).map (Value.int .i64)) ∧ Hid (Below W.heap.size W wr)) (fun _ i _ => ys.length - (intOf i).toNat)
  case atStart => exact ⟨0, Nat.zero_le _, rfl, O2.out, B2⟩
  case round =>
    obtain ⟨k, hk, rfl, hown, B⟩ := hrel
    have HO := Lib.hid hown
    clear hown
    have HY := Lib.hid (H1.out.keep B.out (Nat.le_refl _))
    obtain ⟨lt0, x0, x0'⟩ := X0.out.keep B.out
    have hsz := B.out.size
    by_cases hlt : k < ys.length
    · obtain ⟨b, off, rfl, hb, hc⟩ := HY.out.2.resolve_left (by omega)
      have hcell := hc k hlt
      clear hc
      go_wp2_with (at_builtin; refine list_app1 rfl _ _ rfl W.heap.size _ (xs.length + k) _ rfl (HO.out.alloc _) ⟨wr.heap.size, 0, none⟩ 1 _ rfl (World.cell?_alloc_at _ _ _ _ rfl) (by omega) (by simp; omega) ?_; intro v' w1' hown1 hgr1)
      have hbel := Lib.hid (below_app B.out ((Below.refl _ _).alloc hsz _) hsz HO.out hgr1)
      clear hgr1 x0 x0' hcell
      go_roundw
      case rel => exact ⟨k + 1, hlt, by go_num, sm_next rfl hown1, hbel⟩
      case measure => simp [intOf]; omega
    · obtain rfl : k = ys.length := by omega
      have O5 := Lib.hid (own_sm HO.out)
      obtain ⟨a5, k5, e5, -, -, -, -⟩ := O5.out.at
      subst e5
      have Z5 := Lib.hid (Z.out.keep B.out)
      have hl5 : (smTo xs ys n0 ys.length).length ≤ 1048576 := by rw [smTo_len]; omega
      have B5 := Lib.hid (HB.out.trans (B.out.mono HB.out.size))
      clear x0 x0'
      go_wp2_with fail
      refine (frameOf_any _ _ _ _ hl5).mono ?_
      rintro e w3 ⟨rfl, hb⟩
      obtain ⟨lt, z0, z1, z2, z3⟩ := Z5.out.keep hb
      have B6 := Lib.hid (B5.out.trans (hb.mono B5.out.size))
      have O6 := Lib.hid (OwnF.mk (n := (smTo xs ys n0 ys.length).length) (O5.out.keep hb (Nat.le_refl _)))
      clear hb O5
      go_wp2
      exact bodyPost_ret (v := .agg #[.int .i64 (smTo xs ys n0 ys.length).length, .slice a5 (smTo xs ys n0 ys.length).length k5]) (by simp [results, Try.results78, go_sem, z0, z1]) rfl ⟨_, rfl, (O6.out.out2 (by omega)).mono (by omega), (B6.out.setCell (by show _ ≤ _; simp; omega) _).setCell (by show _ ≤ _; simp; omega) _⟩

end Go.Proofs.Ytecjmibnoldpgab

/- Contracts of arranged of the program and of PartOfFrame of both. Conditions: those in the theorems. -/
namespace Go.Proofs.Ytecjmibnoldpgab
open Go.RowKit

/-- The row under way: entries below i are done. -/
def arS (xs ls : List Int) (i t : Nat) : Int := if t < i then arF xs ls t else 0
theorem arS_start (xs ls : List Int) (t : Nat) : arS xs ls 0 t = 0 := by unfold arS; rw [if_neg (by omega)]
theorem arS_all {xs ls : List Int} {n t : Nat} (h : t < n) : arS xs ls n t = arF xs ls t := by unfold arS; rw [if_pos h]
theorem arS_set {xs ls : List Int} {k : Nat} {z : Int} (hz : z = arF xs ls k) (t : Nat) : (if t = k then z else arS xs ls k t) = arS xs ls (k + 1) t := by
  unfold arS
  by_cases e : t = k
  · subst e; rw [if_pos rfl, if_pos (by omega), hz]
  · rw [if_neg e]
    by_cases h2 : t < k
    · rw [if_pos h2, if_pos (by omega)]
    · rw [if_neg h2, if_neg (by omega)]

set_option maxHeartbeats 400000 in
theorem placesIn_any (ls : List Int) (x : Int) (n : Nat) (a : Option Addr) (len cap : Nat) (w : World) (hl : len ≤ 30) (hn : n ≤ 30) (hok : LsOk n ls) (h : At w a len ls) :
    Calls Try.prog 106 #[.slice a len cap, .int .i64 x] w fun e w' => e = .returned (.int .i64 (sqTo ls x len)) ∧ w = w' := by
  obtain rfl := h.1
  have H := Lib.hid h
  have OK := Lib.hid hok
  clear h hok
  go_enter Try.func106, Try.ntmps106
  go_wp2
  go_loop [5, 10] (fun s i => ∃ k : Nat, k ≤ ls.length ∧ i = .int .i64 k ∧ s = .int .i64 (sqTo ls x k)) (fun _ i => ls.length - (intOf i).toNat)
  case atStart => exact ⟨0, Nat.zero_le _, rfl, rfl⟩
  case round =>
    obtain ⟨k, hk, rfl, rfl⟩ := hrel
    by_cases hlt : k < ls.length
    · obtain ⟨b, off, rfl, -, hc⟩ := H.out.2.resolve_left (by omega)
      obtain ⟨p, hp, hpn⟩ := OK.out k hlt
      have hcell := hc k hlt
      rw [hp] at hcell
      have HP := Lib.hid hp
      clear hc hp
      cases hb : bitB x (p : Int)
      all_goals
        have HB := Lib.hid hb
        go_wp2_with (go_at_call 71; refine (hasMember_any _ _ _ (by omega) (by omega)).mono ?_; rw [HB.out]; rintro e w' ⟨rfl, rfl⟩)
        go_round
        case rel => exact ⟨k + 1, hlt, by go_num, by simp [sqTo, HP.out, HB.out, one]⟩
        case measure => simp [intOf]; omega
    · obtain rfl : k = ls.length := by omega
      go_wp2
      go_ret
      exact ⟨rfl, rfl⟩

set_option maxHeartbeats 2000000 in
set_option maxRecDepth 100000 in
theorem arranged_any (n : Int) (xs ls : List Int) (a al : Option Addr) (len cap ll cl : Nat) (w : World) (hl : len ≤ 30) (hll : ll ≤ 30) (hok : LsOk len ls) (h : At w a len xs) (h' : At w al ll ls) :
    Calls Try.prog 107 #[.agg #[.int .i64 n, .slice a len cap], .slice al ll cl] w fun e w' => ∃ v, e = .returned v ∧ OwnF w' w.heap.size v (arV xs ls).length (arV xs ls) ∧ Below w.heap.size w w' := by
  obtain ⟨W, hW, HB, X, Z, hWs⟩ := boxF1 w n a len cap
  have H := Lib.hid (h.keep HB.out (Nat.le_refl _))
  have H' := Lib.hid (h'.keep HB.out (Nat.le_refl _))
  have hmk := fun (W : World) => run_make_row' (P := Try.prog) 85 2 (.int .i64 0) 8 Try.underlying85 info64 rfl .i64 .i64 ll (by omega) (by omega) W
  have hr0 := World.rowIs_made W (.int .i64 0) ll 2
  rw [hWs] at hr0
  have HR0 := Lib.hid hr0
  have HBV := Lib.hid ((Below.refl (w.heap.size + 1 + 1) W).alloc (by omega) (.cells (madeCells #[.int .i64 0] ll) 2))
  have hz0 : w.heap.size + 1 + 1 ≤ W.heap.size := by omega
  have hz1 : W.heap.size ≤ w.heap.size + 1 + 1 := by omega
  obtain rfl := h.1
  obtain rfl := h'.1
  have OK := Lib.hid hok
  have HW := Lib.hid hW
  clear h h' hr0 hW hWs hok
  go_enter Try.func107, Try.ntmps107
  go_wp2
  clear hmk
  go_loopw [13] (fun i wr => ∃ k : Nat, k ≤ ls.length ∧ i = .int .i64 k ∧ wr.rowIs (w.heap.size + 1 + 1) 2 ls.length (fun t => .int .i64 (arS xs ls k t)) ∧ Hid (Below (w.heap.size + 1 + 1) W wr)) (fun i _ => ls.length - (intOf i).toNat)
  case atStart =>
    rw [← HW.out]
    exact ⟨0, Nat.zero_le _, rfl, HR0.out.congr fun t _ => by rw [arS_start], HBV⟩
  case round =>
    obtain ⟨k, hk, rfl, hrow, B⟩ := hrel
    have hsz := B.out.size
    by_cases hlt : k < ls.length
    · obtain ⟨p, hp, hpn⟩ := OK.out k hlt
      have HL := Lib.hid (H'.out.keep B.out (by omega))
      obtain ⟨b', off', rfl, hb', hc'⟩ := H'.out.2.resolve_left (by omega)
      obtain ⟨b, off, rfl, hb, hc⟩ := H.out.2.resolve_left (by omega)
      have hcell' : wr.cell? ⟨b', off' + k, none⟩ = some (.int .i64 (p : Int)) := (B.out.cell (p := ⟨b', off' + k, none⟩) (Nat.lt_of_lt_of_le hb' hz1)).trans (by rw [hc' k hlt, hp])
      have hcx : wr.cell? ⟨b, off + p, none⟩ = some (.int .i64 (nth xs p)) := (B.out.cell (p := ⟨b, off + p, none⟩) (Nat.lt_of_lt_of_le hb hz1)).trans (hc p hpn)
      have hcg : wr.cell? ⟨w.heap.size + 1 + 1, k, none⟩ = some (.int .i64 (arS xs ls k k)) := hrow.cell hlt
      have hfg : wr.frozen? ⟨w.heap.size + 1 + 1, k, none⟩ = false := hrow.frozen k
      obtain ⟨lt0, x0, x0'⟩ := X.out.below B.out (by omega)
      have EF := Lib.hid (show sqTo ls (nth xs p) ls.length = arF xs ls k by rw [arF, hp, Int.toNat_natCast])
      have HROW := Lib.hid hrow
      clear hc hc' hp hrow
      go_wp2_with (go_at_call 106; refine (placesIn_any ls _ xs.length _ _ _ _ (by omega) (by omega) OK.out HL.out).mono ?_; rw [EF.out]; rintro e w' ⟨rfl, rfl⟩)
      go_roundw
      case rel => exact ⟨k + 1, hlt, by go_num, row_setI HROW.out (fun t => arS_set rfl t), Lib.hid (B.out.setCell (p := ⟨w.heap.size + 1 + 1, k, none⟩) (Nat.le_refl _) _)⟩
      case measure => simp [intOf]; omega
    · obtain rfl : k = ls.length := by omega
      have O5 := Lib.hid (own_of_row (B := w.heap.size + 1 + 1) (Nat.le_refl _) (by omega) (hrow.congr fun t ht => by rw [arS_all ht]))
      have Z1 := Lib.hid (Z.out.below B.out (by omega))
      have B2 := Lib.hid (HB.out.trans (B.out.mono (by omega)))
      clear hrow
      go_wp2_with fail
      refine (frameOf_any _ _ _ _ (by omega)).mono ?_
      rintro e w2 ⟨rfl, hb⟩
      obtain ⟨lt2, z0, z1, z2, z3⟩ := Z1.out.keep hb
      have B3 := Lib.hid (B2.out.trans (hb.mono B2.out.size))
      have O6 := Lib.hid (O5.out.keep hb (Nat.le_refl _))
      clear hb O5
      go_wp2
      refine bodyPost_ret (v := .agg #[.int .i64 ls.length, .slice (some ⟨w.heap.size + 1 + 1, 0, none⟩) ls.length ls.length]) (by simp [results, Try.results107, go_sem, z0, z1]) rfl ⟨_, rfl, ?_, (B3.out.setCell (by show _ ≤ _; simp) _).setCell (by show _ ≤ _; simp) _⟩
      have e6 : ((arV xs ls).length : Int) = ls.length := by rw [arV, tab_len]
      rw [e6]
      exact ((OwnF.mk (n := ls.length) O6.out).out2 (by omega)).mono (by omega)

def prL (n : Int) (xs : List Int) (m : Int) : List Int := if cwV n xs m = 0 then arV xs (memTo m.toNat xs.length) else []
theorem pr_ok {n m : Int} {xs : List Int} (h : cwV n xs m = 0) : prL n xs m = arV xs (memTo m.toNat xs.length) := if_pos h
theorem pr_bad {n m : Int} {xs : List Int} (h : ¬ cwV n xs m = 0) : prL n xs m = [] := if_neg h
theorem RF.bad' {w : World} {B : Nat} {c c' n : Int} {xs : List Int} (h : c = c') (hn : n = 0) (hx : xs = []) : RF w B n c' xs (.returned (.tuple #[.agg #[.int .i64 0, .slice none 0 0], .int .i64 c])) := by
  subst h hn hx
  exact ⟨_, rfl, OwnF.mk (World.ownsRow_nil _ _ _ _)⟩

end Go.Proofs.Ytecjmibnoldpgab

/- The arranged model of the program, with what serves it. Conditions: those in the theorems. -/
namespace Go.Proofs.Ytecjmibnoldpgab
open Go.RowKit

/-- The values of the arranged model. -/
def mvF (ys ls : List Int) (t : Nat) : Int := sqTo ls (nth ys t) ls.length
def mvV (ys ls : List Int) : List Int := tab ys.length (mvF ys ls)
theorem mvV_len (ys ls : List Int) : (mvV ys ls).length = ys.length := tab_len _ _

/-- The cells of a result that is a model, before it is stored. -/
def BzM (w : World) (b : Nat) : Prop := Bm w b 0 none 0 0 none 0 0 ∧ w.frozen? ⟨b, 0, none⟩ = false ∧ w.frozen? ⟨b, 1, none⟩ = false ∧ w.frozen? ⟨b, 2, none⟩ = false
theorem BzM.below {w w' : World} {C b : Nat} (h : BzM w b) (hb : Below C w w') (hC : b < C) : BzM w' b :=
  ⟨h.1.below hb hC, (hb.frozen (p := ⟨b, 0, none⟩) hC).trans h.2.1, (hb.frozen (p := ⟨b, 1, none⟩) hC).trans h.2.2.1, (hb.frozen (p := ⟨b, 2, none⟩) hC).trans h.2.2.2⟩
theorem BzM.keep {w w' : World} {b : Nat} (h : BzM w b) (hb : Below w.heap.size w w') : BzM w' b := h.below hb h.1.1
theorem BzM.new (w : World) : BzM (w.alloc (.cells #[.int .i64 0, .slice none 0 0, .slice none 0 0] 32)) w.heap.size := ⟨Bm.new _ _ _ _ _ _ _ _ _, by simp, by simp, by simp⟩
theorem BzM.all {w : World} {b : Nat} (h : BzM w b) : b < w.heap.size ∧ w.cell? ⟨b, 0, none⟩ = some (.int .i64 0) ∧ w.cell? ⟨b, 1, none⟩ = some (.slice none 0 0) ∧ w.cell? ⟨b, 2, none⟩ = some (.slice none 0 0) ∧ w.frozen? ⟨b, 0, none⟩ = false ∧ w.frozen? ⟨b, 1, none⟩ = false ∧ w.frozen? ⟨b, 2, none⟩ = false := ⟨h.1.1, h.1.2.1, h.1.2.2.1, h.1.2.2.2, h.2.1, h.2.2.1, h.2.2.2⟩
theorem boxM2 (w : World) (n : Int) (a : Option Addr) (l c : Nat) (b : Option Addr) (m d : Nat) : ∃ W : World, W = (w.alloc (.cells #[.int .i64 n, .slice a l c, .slice b m d] 32)).alloc (.cells #[.int .i64 0, .slice none 0 0, .slice none 0 0] 32) ∧
    Hid (Below w.heap.size w W) ∧ Hid (Bm W w.heap.size n a l c b m d) ∧ Hid (BzM W (w.heap.size + 1)) ∧ W.heap.size = w.heap.size + 1 + 1 := by
  refine ⟨_, rfl, Lib.hid (((Below.refl w.heap.size w).alloc (Nat.le_refl _) _).alloc (by simp) _), Lib.hid ((Bm.new w n a l c b m d _).keep (alloc_keep _ _).1), ?_, by simp⟩
  have := BzM.new (w.alloc (.cells #[.int .i64 n, .slice a l c, .slice b m d] 32))
  exact Lib.hid (by simpa using this)
theorem OwnM.out3 {w : World} {B R o o' o'' : Nat} {v z z' z'' : Value} {n : Int} {xs ys : List Int} (h : OwnM w B v n xs ys) (hR : R < B) : OwnM (((w.setCell ⟨R, o, none⟩ z).setCell ⟨R, o', none⟩ z').setCell ⟨R, o'', none⟩ z'') B v n xs ys :=
  ⟨h.1, (((h.2.1.inn.setOut (.inl hR)).setOut (.inl hR)).setOut (.inl hR)).1, (((h.2.2.1.inn.setOut (.inl hR)).setOut (.inl hR)).setOut (.inl hR)).1, h.2.2.2⟩

set_option maxHeartbeats 2000000 in
set_option maxRecDepth 100000 in
theorem marr_any (n : Int) (xs ys ls : List Int) (a : Option Addr) (cap : Nat) (b : Option Addr) (d : Nat) (al : Option Addr) (ll cl : Nat) (w : World) (hl : xs.length ≤ 30) (hy : ys.length ≤ 30) (hll : ll ≤ 30) (hok : LsOk xs.length ls) (h : At w a xs.length xs) (h' : At w b ys.length ys) (h'' : At w al ll ls) :
    Calls Try.prog 91 #[.agg #[.int .i64 n, .slice a xs.length cap, .slice b ys.length d], .slice al ll cl] w fun e w' => ∃ v, e = .returned v ∧ OwnM w' w.heap.size v (arV xs ls).length (arV xs ls) (mvV ys ls) ∧ Below w.heap.size w w' := by
  obtain ⟨W, hW, HB, X, Z, hWs⟩ := boxM2 w n a xs.length cap b ys.length d
  have H := Lib.hid (h.keep HB.out (Nat.le_refl _))
  have H' := Lib.hid (h'.keep HB.out (Nat.le_refl _))
  have H2 := Lib.hid (h''.keep HB.out (Nat.le_refl _))
  have hmk := fun (W : World) => run_make_row' (P := Try.prog) 22 2 (.int .i64 0) 8 Try.underlying22 info64 rfl .i64 .i64 ys.length (by omega) (by omega) W
  have hr0 := World.rowIs_made W (.int .i64 0) ys.length 2
  rw [hWs] at hr0
  have HR0 := Lib.hid hr0
  have HBV := Lib.hid ((Below.refl (w.heap.size + 1 + 1) W).alloc (by omega) (.cells (madeCells #[.int .i64 0] ys.length) 2))
  have hz0 : w.heap.size + 1 + 1 ≤ W.heap.size := by omega
  have hz1 : W.heap.size ≤ w.heap.size + 1 + 1 := by omega
  obtain rfl := h''.1
  have OK := Lib.hid hok
  have HW := Lib.hid hW
  obtain ⟨lt, x0, x1, x2⟩ := X.out
  rw [HW.out] at x2
  clear h h' h'' hr0 hW hWs hok x0 x1
  go_enter Try.func91, Try.ntmps91
  go_wp2
  clear hmk x2
  go_loopw [15] (fun i wr => ∃ k : Nat, k ≤ ys.length ∧ i = .int .i64 k ∧ wr.rowIs (w.heap.size + 1 + 1) 2 ys.length (fun t => .int .i64 (upS (mvF ys ls) k t)) ∧ Hid (Below (w.heap.size + 1 + 1) W wr)) (fun i _ => ys.length - (intOf i).toNat)
  case atStart =>
    rw [← HW.out]
    exact ⟨0, Nat.zero_le _, rfl, HR0.out.congr fun t _ => by rw [upS_start], HBV⟩
  case round =>
    obtain ⟨k, hk, rfl, hrow, B⟩ := hrel
    have hsz := B.out.size
    by_cases hlt : k < ys.length
    · have HL := Lib.hid (H2.out.keep B.out (by omega))
      obtain ⟨b', off', rfl, hb', hc'⟩ := H'.out.2.resolve_left (by omega)
      have hcell' : wr.cell? ⟨b', off' + k, none⟩ = some (.int .i64 (nth ys k)) := (B.out.cell (p := ⟨b', off' + k, none⟩) (Nat.lt_of_lt_of_le hb' hz1)).trans (hc' k hlt)
      have hcg : wr.cell? ⟨w.heap.size + 1 + 1, k, none⟩ = some (.int .i64 (upS (mvF ys ls) k k)) := hrow.cell hlt
      have hfg : wr.frozen? ⟨w.heap.size + 1 + 1, k, none⟩ = false := hrow.frozen k
      have EF := Lib.hid (show sqTo ls (nth ys k) ls.length = mvF ys ls k from rfl)
      have HROW := Lib.hid hrow
      clear hc' hrow
      go_wp2_with (go_at_call 106; refine (placesIn_any ls _ xs.length _ _ _ _ (by omega) (by omega) OK.out HL.out).mono ?_; rw [EF.out]; rintro e w' ⟨rfl, rfl⟩)
      go_roundw
      case rel => exact ⟨k + 1, hlt, by go_num, row_setI HROW.out (fun t => upS_set rfl t), Lib.hid (B.out.setCell (p := ⟨w.heap.size + 1 + 1, k, none⟩) (Nat.le_refl _) _)⟩
      case measure => simp [intOf]; omega
    · obtain rfl : k = ys.length := by omega
      have O5 := Lib.hid (own_of_row (B := w.heap.size + 1 + 1) (Nat.le_refl _) (by omega) (hrow.congr fun t ht => by rw [upS_all ht]))
      have Z1 := Lib.hid (Z.out.below B.out (by omega))
      have X1 := Lib.hid (X.out.below B.out (by omega))
      have B2 := Lib.hid (HB.out.trans (B.out.mono (by omega)))
      have H5 := Lib.hid (H.out.keep B.out (by omega))
      have L5 := Lib.hid (H2.out.keep B.out (by omega))
      obtain ⟨lt1, x0, x1, x2⟩ := X1.out
      clear hrow
      go_wp2_with fail
      clear x0 x1 x2
      refine (arranged_any n xs ls _ _ _ _ _ _ _ hl (by omega) OK.out H5.out L5.out).mono ?_
      rintro e w2 ⟨v2, rfl, ho, hb⟩
      obtain ⟨a2, c2, rfl⟩ := ho.form
      obtain ⟨lt2, z0, z1, z2, z3, z4, z5⟩ := (Z1.out.keep hb).all
      have B3 := Lib.hid (B2.out.trans (hb.mono B2.out.size))
      have O6 := Lib.hid (O5.out.inn.below hb (Nat.le_refl _))
      have O7 := Lib.hid ho
      have hlr : w.heap.size + 1 + 1 ≤ wr.heap.size := by omega
      clear hb O5 ho
      go_wp2
      refine bodyPost_ret (v := .agg #[.int .i64 (arV xs ls).length, .slice a2 (arV xs ls).length c2, .slice (some ⟨w.heap.size + 1 + 1, 0, none⟩) ys.length ys.length]) (by simp [results, Try.results91, go_sem, z0, z1, z2]) rfl ⟨_, rfl, ?_, ((B3.out.setCell (by show _ ≤ _; simp) _).setCell (by show _ ≤ _; simp) _).setCell (by show _ ≤ _; simp) _⟩
      exact ((OwnM.two' (n := (arV xs ls).length) O7.out.2 (show OwnIn _ (w.heap.size + 1 + 1) wr.heap.size _ (mvV ys ls) from O6.out) hlr).out3 (by omega)).mono (by omega)

end Go.Proofs.Ytecjmibnoldpgab

/- Is a number one of a world: contracts of both sides. Conditions: those in the theorems. -/
namespace Go.Proofs.Ytecjmibnoldpgab
open Go.RowKit

def wlB (n m : Int) : Bool := decide (0 ≤ m) && decide (m < n)

set_option maxHeartbeats 400000 in
theorem l05World_any (n m : Int) (a : Option Addr) (len cap : Nat) (w : World) (hn : 0 ≤ n) (hn2 : n ≤ 30) :
    Calls Try.prog 55 #[.agg #[.int .i64 n, .slice a len cap], .int .i64 m] w fun e w' => e = .returned (.bool (wlB n m)) ∧ Below w.heap.size w w' := by
  have HB := Lib.hid (boxF (w := w) n a len cap)
  have E := Lib.hid (show inB m 0 (n - 1) = wlB n m by rw [inB, wlB, Bool.eq_iff_iff]; simp; omega)
  go_enter Try.func55, Try.ntmps55
  go_wp2_with (go_at_call 41; refine (l01In_any _ _ _ _).mono ?_; rintro e w' ⟨rfl, rfl⟩)
  go_ret
  exact ⟨ret_bool E.out, HB.out⟩

theorem isBelow_any (m n : Int) (w : World) : Calls Try.prog 44 #[.int .i64 m, .int .i64 n] w fun e w' => e = .returned (.bool (wlB n m)) ∧ w = w' := by
  by_cases h : 0 ≤ m
  all_goals
    go_enter Try.func44, Try.ntmps44
    go_wp2
    go_ret
    exact ⟨ret_bool (by first | (simp [wlB, h]; done) | (simp [wlB]; omega)), rfl⟩

end Go.Proofs.Ytecjmibnoldpgab
