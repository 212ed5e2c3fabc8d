/- 4 texts in one: FlP, Sum, FlG, FlA. -/
import Derived.Test.YtckilaeolkgnkaaFlQ
import Derived.Test.YtckilaeolkgnkaaMk
import Derived.Test.YtckilaeolkgnkaaFlM
/- Contracts of the program's isWithin, union, common and of slices.Contains at relations. Conditions: those in the theorems. -/
namespace Go.Proofs.Ytckilaeolkgnkaa
open Go.RowKit

set_option maxHeartbeats 400000 in
theorem common_any (xs ys : List Int) (n : Nat) (a a' : Option Addr) (cap cap' : Nat) (w : World) (hl : n ≤ 30) (h : At w a n xs) (h' : At w a' n ys) :
    Calls Try.prog 69 #[.slice a n cap, .slice a' n cap'] w fun e w' => ∃ v, e = .returned v ∧ Own w' w.heap.size v (opL .and xs ys n) ∧ Below w.heap.size w w' := by
  obtain ⟨i0, hi, hz0, hz1, hz2⟩ := info_parts info64
  have H := Lib.hid h
  have H' := Lib.hid h'
  clear h h'
  have HL := Lib.hid (opL_len .and xs ys n)
  have HN := Lib.hid (opL_nth .and xs ys n)
  go_enter Try.func69, Try.ntmps69
  go_wp2_with (at_make; refine wpList_make_full _ rfl _ _ 62 rfl w.heap.size 2 i0 (.int .i64 0) 1 Try.underlying62 hi hz0 hz1 _ _ _ _ n rfl rfl rfl rfl ?b2 ?b3 (Nat.le_refl _) ?_)
  case b2 => rw [hz2]; omega
  case b3 => unfold maxLen; omega
  intro w0 hown0 hgrow0
  clear hi hz0 hz1 hz2
  have HO0 := Lib.hid hown0
  clear hown0
  go_wp2
  go_loopw [13] (fun i wr => ∃ k : Nat, k ≤ n ∧ i = .int .i64 k ∧ wr.ownsRow w.heap.size 2 1 (.slice (some ⟨w.heap.size, 0, none⟩) n n) n ((cpl (opL .and xs ys n) n k).map (Value.int .i64)) ∧ Below w.heap.size w wr) (fun i _ => n - (intOf i).toNat)
  case atStart => exact ⟨0, Nat.zero_le _, rfl, by rw [← cpl_zero]; exact HO0.out, (Below.refl _ _).grown hgrow0 (Nat.le_refl _) (fun k h => by cases h)⟩
  case round =>
    obtain ⟨k, hk, rfl, hown, hbel⟩ := hrel
    clear hgrow0
    by_cases hlt : k < n
    · obtain ⟨b, off, rfl, hb, hc⟩ := H.out.2.resolve_left (by omega)
      obtain ⟨b', off', rfl, hb', hc'⟩ := H'.out.2.resolve_left (by omega)
      have hcell : wr.cell? ⟨b, off + k, none⟩ = some (.int .i64 (nth xs k)) := (hbel.cell (p := ⟨b, off + k, none⟩) hb).trans (hc k hlt)
      have hcell' : wr.cell? ⟨b', off' + k, none⟩ = some (.int .i64 (nth ys k)) := (hbel.cell (p := ⟨b', off' + k, none⟩) hb').trans (hc' k hlt)
      obtain ⟨u, hu⟩ : ∃ u, ((cpl (opL .and xs ys n) n k).map (Value.int .i64))[k]? = some u := ⟨_, List.getElem?_eq_getElem (by simp [cpl_len _ n k HL.out.symm hk, hlt])⟩
      have hcg : wr.cell? ⟨w.heap.size, k, none⟩ = some u := (hown.cellAt k (by omega)).trans hu
      have hfg : wr.frozen? ⟨w.heap.size, k, none⟩ = false := hown.frozenAt k
      have hs := (hown.stored k (.int .i64 (nth (opL .and xs ys n) k))).1
      have hbs := hbel.setCell (p := ⟨w.heap.size, k, none⟩) (Nat.le_refl _) (.int .i64 (nth (opL .and xs ys n) k))
      rw [cpl_set _ n k HL.out.symm hlt] at hs
      rw [HN.out k hlt] at hs hbs
      have HS := Lib.hid hs
      have HBS := Lib.hid hbs
      clear hown hu hc hc' hs hbs
      go_wp2
      go_roundw
      case rel => exact ⟨k + 1, hlt, by go_num, HS.out, HBS.out⟩
      case measure => simp [intOf]; omega
    · obtain rfl : k = n := by omega
      have HO := Lib.hid hown
      clear hown
      go_wp2
      go_ret
      exact ⟨_, rfl, (by have ho := HO.out; rw [cpl_all _ k HL.out.symm] at ho; unfold Own; rw [HL.out]; exact ho), hbel⟩

end Go.Proofs.Ytckilaeolkgnkaa

/- Contracts of SumFrames, of the model and of the program. Conditions: those in the theorems. -/
namespace Go.Proofs.Ytckilaeolkgnkaa
open Go.RowKit

theorem boxFF (w : World) (n0 n1 : Int) (a0 a1 : Option Addr) (l0 c0 l1 c1 : Nat) : ∃ W : World, W = ((w.alloc (.cells #[.int .i64 n0, .slice a0 l0 c0] 28)).alloc (.cells #[.int .i64 n1, .slice a1 l1 c1] 28)).alloc (.cells #[.int .i64 0, .slice none 0 0] 28) ∧
    Hid (Below w.heap.size w W) ∧ Hid (Bx W w.heap.size n0 a0 l0 c0) ∧ Hid (Bx W (w.heap.size + 1) n1 a1 l1 c1) ∧ Hid (Bz W (w.heap.size + 1 + 1)) ∧ W.heap.size = w.heap.size + 1 + 1 + 1 := by
  refine ⟨_, rfl, Lib.hid ((((Below.refl w.heap.size w).alloc (Nat.le_refl _) _).alloc (by simp) _).alloc (by simp; omega) _), Lib.hid (((Bx.new w n0 a0 l0 c0 _).keep (alloc_keep _ _).1).keep (alloc_keep _ _).1), ?_, ?_, by simp⟩
  · have := (Bx.new (w.alloc (.cells #[.int .i64 n0, .slice a0 l0 c0] 28)) n1 a1 l1 c1 28).keep (alloc_keep _ (.cells #[.int .i64 0, .slice none 0 0] 28)).1
    exact Lib.hid (by simpa using this)
  · have := Bz.new ((w.alloc (.cells #[.int .i64 n0, .slice a0 l0 c0] 28)).alloc (.cells #[.int .i64 n1, .slice a1 l1 c1] 28))
    exact Lib.hid (by simpa using this)

def smTo (xs ys : List Int) (k : Int) : Nat → List Int
  | 0 => xs
  | j + 1 => smTo xs ys k j ++ [wrap64 (nth ys j * 2 ^ k.toNat)]
theorem smTo_len (xs ys : List Int) (k : Int) (j : Nat) : (smTo xs ys k j).length = xs.length + j := by
  induction j with
  | zero => rfl
  | succ j ih => simp [smTo, ih]; omega

theorem shl_spell {n : Int} (h0 : 0 ≤ n) (h1 : n ≤ 8) (y : Int) : IntKind.i64.wrap (y * 2 ^ min (IntKind.u64.wrap n).toNat 64) = wrap64 (y * 2 ^ n.toNat) := by
  rw [IntWalk.u64_in n (by omega), Nat.min_eq_left (by omega)]
  unfold wrap64
  exact IntKind.wrap_i64 _
theorem own_sm {w : World} {B k : Nat} {v : Value} {xs ys : List Int} {n : Int} (h : w.ownsRow B 2 1 v (xs.length + k) ((smTo xs ys n k).map (Value.int .i64))) : Own w B v (smTo xs ys n k) := by
  unfold Own; rw [smTo_len]; exact h
theorem sm_next {w : World} {B m : Nat} {v : Value} {xs ys : List Int} {n z : Int} {k : Nat} (hz : z = wrap64 (nth ys k * 2 ^ n.toNat)) (h : w.ownsRow B 2 1 v (m + k + 1) ((smTo xs ys n k).map (Value.int .i64) ++ [.int .i64 z])) :
    w.ownsRow B 2 1 v (m + (k + 1)) ((smTo xs ys n (k + 1)).map (Value.int .i64)) := by
  rw [smTo, List.map_append, ← hz, ← Nat.add_assoc]; exact h

def smC (n0 : Int) (x0 : List Int) (n1 : Int) (x1 : List Int) : Int := if frB n0 x0 && frB n1 x1 then (if 8 < n0 + n1 then 3 else 0) else 1
def smL (n0 : Int) (x0 : List Int) (n1 : Int) (x1 : List Int) : List Int := if smC n0 x0 n1 x1 = 0 then smTo x0 x1 n0 x1.length else []
theorem smC_1 {n0 n1 : Int} {x0 x1 : List Int} (h : (frB n0 x0 && frB n1 x1) = false) : smC n0 x0 n1 x1 = 1 := by rw [smC, h]; rfl
theorem smC_3 {n0 n1 : Int} {x0 x1 : List Int} (h : (frB n0 x0 && frB n1 x1) = true) (h2 : 8 < n0 + n1) : smC n0 x0 n1 x1 = 3 := by rw [smC, h, if_pos rfl, if_pos h2]
theorem smC_0 {n0 n1 : Int} {x0 x1 : List Int} (h : (frB n0 x0 && frB n1 x1) = true) (h2 : ¬ 8 < n0 + n1) : smC n0 x0 n1 x1 = 0 := by rw [smC, h, if_pos rfl, if_neg h2]
/-- A result that is a frame and a code. -/
def RF (w : World) (B : Nat) (n c : Int) (xs : List Int) (e : Ending) : Prop := ∃ v, e = .returned (.tuple #[v, .int .i64 c]) ∧ OwnF w B v n xs
theorem RF.bad {w : World} {B : Nat} {c c' n : Int} {xs : List Int} (h : c = c') (hn : n = 0) (hx : xs = []) : RF w B n c xs (.returned (.tuple #[.agg #[.int .i64 0, .slice none 0 0], .int .i64 c'])) := by
  subst h hn hx
  exact ⟨_, rfl, OwnF.mk (World.ownsRow_nil _ _ _ _)⟩
theorem RF.good {w : World} {B B' : Nat} {c n n' : Int} {v : Value} {xs xs' : List Int} (h : c = 0) (hn : n = n') (hx : xs = xs') (ho : OwnF w B' v n' xs') (hB : B ≤ B') : RF w B n c xs (.returned (.tuple #[v, .int .i64 0])) := by
  subst h hn hx
  exact ⟨_, rfl, ho.mono hB⟩

theorem cells4 (W : World) (n0 n1 : Int) (a0 a1 : Option Addr) (l0 c0 l1 c1 : Nat) : ∃ W' : World, W' = W.alloc (.cells #[.int .i64 n0, .slice a0 l0 c0, .int .i64 n1, .slice a1 l1 c1] 28) ∧ Below W.heap.size W W' ∧ W.heap.size < W'.heap.size ∧
    W'.cell? ⟨W.heap.size, 0, none⟩ = some (.int .i64 n0) ∧ W'.cell? ⟨W.heap.size, 1, none⟩ = some (.slice a0 l0 c0) ∧ W'.cell? ⟨W.heap.size, 2, none⟩ = some (.int .i64 n1) ∧ W'.cell? ⟨W.heap.size, 3, none⟩ = some (.slice a1 l1 c1) :=
  ⟨_, rfl, (alloc_keep _ _).1, by simp, World.cell?_alloc_at _ _ _ _ rfl, World.cell?_alloc_at _ _ _ _ rfl, World.cell?_alloc_at _ _ _ _ rfl, World.cell?_alloc_at _ _ _ _ rfl⟩

end Go.Proofs.Ytckilaeolkgnkaa

/- Contracts of the program's flagsOf. Conditions: those in the theorems. -/
namespace Go.Proofs.Ytckilaeolkgnkaa
open Go.RowKit

end Go.Proofs.Ytckilaeolkgnkaa

/- The walks of the model's l05Flag at some flags. Conditions: those in the theorems. -/
namespace Go.Proofs.Ytckilaeolkgnkaa
open Go.RowKit

end Go.Proofs.Ytckilaeolkgnkaa
