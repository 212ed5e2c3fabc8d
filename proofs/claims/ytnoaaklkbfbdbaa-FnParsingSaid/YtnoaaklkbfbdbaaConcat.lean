/- Contracts of slices.Grow and slices.Concat at lists of nodes, and of the program's functions that put lists of nodes together. Conditions: those in the theorems. -/
import Derived.Lib.AppendZerosOnto
import Derived.Test.YtnoaaklkbfbdbaaPart
namespace Go.Proofs.Ytnoaaklkbfbdbaa
open Go.RowKit

theorem list_appZ {ops : Array Oper} {rest : List Oper} {o : Oper} {a : Act} {w : World} {Q : Exit → Act → World → Prop} (hgd : o.guard = none) (s x : Operand)
    (ho : o.op = .call { callee := .builtin .append, args := #[s, x], argTypes := #[32, 3] })
    (n : Nat) (hs : a.eval s = .slice none 0 0) (hx : a.eval x = .int .i64 n) (hn : 0 < n) (hn2 : n ≤ 8388608)
    (h : ∀ (cap : Nat) (cs : Array Value), n ≤ cap → cap ≤ maxLen → cs.size = cap * 2 → wpList Try.prog ops Q rest (a.put o.dst (.slice (some ⟨w.heap.size, 0, none⟩) n cap)) (w.drew.alloc (.cells cs 69))) : wpList Try.prog ops Q (o :: rest) a w := by
  obtain ⟨i0, hi, hz0, hz1, hz2⟩ := info_parts infoNd
  refine wpList_plain hgd fun K hK => ?_
  have hr := Lib.run_append_grow_zeros (P := Try.prog) w 32 3 o.type 69 i0 (.agg #[.int .i64 0, .int .i64 0]) .i64 .i64 Try.underlying32 Try.underlying3 hi hz0 none 0 0 [] (run_firstCells_none w.drew i0.size 0 0 0) n hn (by omega) (by omega) (by omega) (by rw [hz2]; omega)
    (growslice_fits (by omega) (by rw [hz2]; omega))
  simp only [Nat.zero_add] at hr
  unfold Oper.wp execOp
  simp only [ho, resolve, invoke, builtin, Sem.run_bind, Sem.run_pure, Result.andThen_ok, List.map_toArray, List.map_cons, List.map_nil, hs, hx, hr]
  have hg := grownCap_ge w n 0 69
  refine hK _ _ (h _ _ hg (grownCap_le_maxLen w n 0 _ (by unfold maxLen; omega)) ?_)
  have e : (Value.agg #[Value.int .i64 0, Value.int .i64 0]).cells.size = 2 := rfl
  rw [Array.size_append, Array.size_append, size_zeroCells, size_zeroCells, e]
  simp
  omega

set_option maxHeartbeats 400000 in
theorem grow_any (n : Nat) (w : World) (hn : 0 < n) (hn2 : n ≤ 8388608) :
    Calls Try.prog 145 #[.slice none 0 0, .int .i64 n] w fun e w' => ∃ v, e = .returned v ∧ OwnN w' w.heap.size v [] ∧ Below w.heap.size w w' := by
  go_enter Try.func145, Try.ntmps145
  go_wp2_with (at_builtin; refine list_appZ rfl _ _ rfl n rfl rfl hn hn2 ?_)
  intro cap cs h1 h2 h3
  go_wp2
  go_ret
  exact ⟨_, rfl, World.ownsRow_made w.drew cs cap (Nat.le_refl _) h2 h3, ((Below.refl _ _).drew).alloc (Nat.le_refl _) _⟩

def nthL (xss : List (List Nd)) (j : Nat) : List Nd := xss.getD j []
/-- A list of lists of nodes in memory. -/
def AtNN (w : World) (a : Option Addr) (len : Nat) (xss : List (List Nd)) : Prop :=
  len = xss.length ∧ (len = 0 ∨ ∃ b off, a = some ⟨b, off, none⟩ ∧ b < w.heap.size ∧ ∀ j, j < len → ∃ a' cap', w.cell? ⟨b, off + j, none⟩ = some (.slice a' (nthL xss j).length cap') ∧ AtN w a' (nthL xss j).length (nthL xss j))
theorem AtNN.keep {w w' : World} {C : Nat} {a : Option Addr} {len : Nat} {xss : List (List Nd)} (h : AtNN w a len xss) (hb : Below C w w') (hC : w.heap.size ≤ C) : AtNN w' a len xss := by
  refine ⟨h.1, ?_⟩
  rcases h.2 with h2 | ⟨b, off, ha, hlt, hc⟩
  · exact .inl h2
  · refine .inr ⟨b, off, ha, Nat.lt_of_lt_of_le hlt hb.size, fun j hj => ?_⟩
    obtain ⟨a', cap', h3, h4⟩ := hc j hj
    exact ⟨a', cap', (hb.cell (p := ⟨b, off + j, none⟩) (by show b < C; omega)).trans h3, h4.keep hb hC⟩
/-- How many nodes the first k lists have together. -/
def szTo (xss : List (List Nd)) : Nat → Nat
  | 0 => 0
  | k + 1 => szTo xss k + (nthL xss k).length
def catTo (xss : List (List Nd)) : Nat → List Nd
  | 0 => []
  | k + 1 => catTo xss k ++ nthL xss k
theorem catTo_len (xss : List (List Nd)) (k : Nat) : (catTo xss k).length = szTo xss k := by
  induction k with
  | zero => rfl
  | succ k ih => rw [catTo, szTo, List.length_append, ih]
theorem szTo_mono (xss : List (List Nd)) {k l : Nat} (h : k ≤ l) : szTo xss k ≤ szTo xss l := by
  induction l with
  | zero => have : k = 0 := by omega
            subst this; exact Nat.le_refl _
  | succ l ih =>
    by_cases e : k = l + 1
    · subst e; exact Nat.le_refl _
    · have := ih (by omega); rw [szTo]; omega
theorem catTo_cons (x : List Nd) (xss : List (List Nd)) (k : Nat) : catTo (x :: xss) (k + 1) = x ++ catTo xss k := by
  induction k with
  | zero => simp [catTo, nthL]
  | succ k ih => rw [catTo, ih, catTo, List.append_assoc]; rfl
theorem catTo_all (xss : List (List Nd)) : catTo xss xss.length = xss.flatten := by
  induction xss with
  | nil => rfl
  | cons x xss ih => rw [List.length_cons, catTo_cons, ih]; rfl

set_option maxHeartbeats 1000000 in
theorem concat_any2 (xss : List (List Nd)) (a : Option Addr) (len cap : Nat) (w : World) (hl : len ≤ 2097152) (hs : szTo xss len ≤ 6291456) (hp : ∀ j, j < len → 0 < (nthL xss j).length) (h0 : 0 < len) (h : AtNN w a len xss) :
    Calls Try.prog 111 #[.slice a len cap] w fun e w' => ∃ v, e = .returned v ∧ OwnN w' w.heap.size v (catTo xss len) ∧ Below w.heap.size w w' := by
  have H := Lib.hid h
  have P := Lib.hid hp
  have S := Lib.hid hs
  clear h hp hs
  go_enter Try.func111, Try.ntmps111
  go_wp2
  go_loop [3, 11] (fun s i => ∃ k z : Nat, k ≤ len ∧ z ≤ 6291456 ∧ i = .int .i64 k ∧ s = .int .i64 z ∧ z = szTo xss k) (fun _ i => len - (intOf i).toNat)
  case atStart => exact ⟨0, 0, Nat.zero_le _, by omega, rfl, rfl, rfl⟩
  case round =>
    obtain ⟨k, z, hk, hz, rfl, rfl, hzz⟩ := hrel
    have Z := Lib.hid hzz
    clear hzz
    by_cases hlt : k < len
    · obtain ⟨b, off, rfl, hb, hc⟩ := H.out.2.resolve_left (by omega)
      obtain ⟨a1, cap1, hc1, -⟩ := hc k hlt
      clear hc
      obtain ⟨n, hn⟩ : ∃ n, n = (nthL xss k).length := ⟨_, rfl⟩
      rw [← hn] at hc1
      have hn2 : z + n = szTo xss (k + 1) := by rw [szTo, Z.out, hn]
      have hn3 : z + n ≤ 6291456 := by rw [hn2]; exact Nat.le_trans (szTo_mono xss hlt) S.out
      have N2 := Lib.hid hn2
      clear hn hn2
      go_wp2
      go_round
      case rel => exact ⟨k + 1, z + n, hlt, hn3, by go_num, by go_num, N2.out⟩
      case measure => simp [intOf]; omega
    · obtain rfl : k = len := by omega
      have hz0 : 0 < z := by
        have := P.out 0 h0
        have h2 := szTo_mono xss (show 1 ≤ k by omega)
        rw [Z.out]
        simp only [szTo, Nat.zero_add] at h2
        omega
      go_wp2_with fail
      refine (grow_any z _ hz0 (by omega)).mono ?_
      rintro e w1 ⟨v1, rfl, ho1, hb1⟩
      have O1 := Lib.hid ho1
      have B1 := Lib.hid hb1
      clear ho1 hb1
      go_wp2
      go_loopw [6, 27] (fun v i wr => ∃ j : Nat, j ≤ k ∧ i = .int .i64 j ∧ OwnN wr w.heap.size v (catTo xss j) ∧ Below w.heap.size w wr) (fun _ i _ => k - (intOf i).toNat)
      case atStart => exact ⟨0, Nat.zero_le _, rfl, O1.out, B1.out⟩
      case round =>
        obtain ⟨j, hj, rfl, hown, hbel⟩ := hrel
        have O := Lib.hid hown
        have B := Lib.hid hbel
        clear hown hbel
        by_cases hlt2 : j < k
        · obtain ⟨b, off, rfl, hb, hc⟩ := H.out.2.resolve_left (by omega)
          obtain ⟨a1, cap1, hc1, hat1⟩ := hc j hlt2
          have hc2 : wr.cell? ⟨b, off + j, none⟩ = some (.slice a1 (nthL xss j).length cap1) := (B.out.cell (p := ⟨b, off + j, none⟩) hb).trans hc1
          clear hc hc1
          have A1 := Lib.hid (hat1.keep B.out (Nat.le_refl _))
          clear hat1
          have hn0 := P.out j hlt2
          have hlen : (catTo xss j).length + (nthL xss j).length ≤ 8388608 := by
            have h1 := catTo_len xss (j + 1)
            rw [catTo, List.length_append] at h1
            have h2 := szTo_mono xss (show j + 1 ≤ k by omega)
            have := S.out
            omega
          have LN := Lib.hid hlen
          have N0 := Lib.hid hn0
          clear hlen hn0
          go_wp2_with (at_builtin; refine list_appN rfl _ _ rfl w.heap.size _ (catTo xss j) rfl O.out (nthL xss j) a1 _ cap1 rfl A1.out N0.out LN.out B.out.size ?_)
          intro v2 w2 ho2 hg2
          have b2 := below_appN B.out (Below.refl _ _) B.out.size O.out hg2
          have B2 := Lib.hid b2
          have O2 := Lib.hid ho2
          clear b2 ho2 hg2
          go_wp2
          go_roundw
          case rel => exact ⟨j + 1, hlt2, by go_num, O2.out, B2.out⟩
          case measure => simp [intOf]; omega
        · obtain rfl : j = k := by omega
          go_wp2
          go_ret
          exact ⟨_, rfl, O.out, B.out⟩


theorem concat_any (xss : List (List Nd)) (a : Option Addr) (len cap : Nat) (w : World) (hl : len ≤ 1048576) (hs : szTo xss len ≤ 6291456) (hp : ∀ j, j < len → 0 < (nthL xss j).length) (h0 : 0 < len) (h : AtNN w a len xss) :
    Calls Try.prog 111 #[.slice a len cap] w fun e w' => ∃ v, e = .returned v ∧ OwnN w' w.heap.size v (catTo xss len) ∧ Below w.heap.size w w' := concat_any2 xss a len cap w (by omega) hs hp h0 h

end Go.Proofs.Ytnoaaklkbfbdbaa
