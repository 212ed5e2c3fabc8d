/- Contracts of slices.Concat of parts of which some may be empty, and of ReplacePart of the model and of the program, at every argument. Conditions: those in the theorems. -/
import Derived.Test.YtfpnmeacnhcakaaNPol
import Derived.Test.YtfpnmeacnhcakaaMade
import Derived.Deep.RegionWith
namespace Go.Proofs.Ytfpnmeacnhcakaa
open Go.RowKit

theorem list_appN0 {ops : Array Oper} {rest : List Oper} {o : Oper} {a : Act} {w : World} {Q : Exit → Act → World → Prop} (hgd : o.guard = none) (s x : Operand)
    (ho : o.op = .call { callee := .builtin .append, args := #[s, x], argTypes := #[24, 24] })
    (B : Nat) (v : Value) (xs : List Nd) (hs : a.eval s = v) (hown : OwnN w B v xs)
    (ys : List Nd) (b off m c : Nat) (hx : a.eval x = .slice (some ⟨b, off, none⟩) m c) (hat : AtN w (some ⟨b, off, none⟩) m ys) (hn : xs.length + m ≤ 8388608) (hB : B ≤ w.heap.size)
    (h : ∀ v' w', OwnN w' B v' (xs ++ ys) → w.grownBy w' v.ownBlock → wpList Try.prog ops Q rest (a.put o.dst v') w') : wpList Try.prog ops Q (o :: rest) a w := by
  obtain ⟨i0, hi, hz0, hz1, hz2⟩ := info_parts infoNd
  refine wpList_append_own w hgd s x 24 ho B 46 i0 (.agg #[.int .i64 0, .int .i64 0]) 2 16 Try.underlying24 hi hz0 hz1 hz2 rfl (by decide) v xs.length (cellsN xs) hs hown ⟨b, off, none⟩ m c (cellsN ys) hx (by rw [cellsN_len, hat.1]) hat.news (cells_one ys) (by unfold maxLen; omega) (by omega) hB (fun v' w' h1 h2 _ => h v' w' ?_ h2)
  unfold OwnN
  rw [List.length_append, cellsN_append, ← hat.1]
  exact h1

/-- The lists lie one after another; none is nil. -/
def AtNZ (w : World) (a : Option Addr) (len : Nat) (xss : List (List Nd)) : Prop :=
  len = xss.length ∧ ∃ b off, a = some ⟨b, off, none⟩ ∧ b < w.heap.size ∧ ∀ j, j < len → ∃ b' off' cap', w.cell? ⟨b, off + j, none⟩ = some (.slice (some ⟨b', off', none⟩) (nthL xss j).length cap') ∧ AtN w (some ⟨b', off', none⟩) (nthL xss j).length (nthL xss j)

set_option maxHeartbeats 1000000 in
theorem concat0_any (xss : List (List Nd)) (a : Option Addr) (len cap : Nat) (w : World) (hl : len ≤ 1048576) (hs : szTo xss len ≤ 4194304) (hp : 0 < szTo xss len) (h : AtNZ w a len xss) :
    Calls Try.prog 56 #[.slice a len cap] w fun e w' => ∃ v, e = .returned v ∧ OwnN w' w.heap.size v (catTo xss len) ∧ Below w.heap.size w w' := by
  have H := Lib.hid h
  have P := Lib.hid hp
  have S := Lib.hid hs
  clear h hp hs
  go_enter Try.func56, Try.ntmps56
  go_wp2
  go_loop [3, 11] (fun s i => ∃ k z : Nat, k ≤ len ∧ z ≤ 4194304 ∧ i = .int .i64 k ∧ s = .int .i64 z ∧ z = szTo xss k) (fun _ i => len - (intOf i).toNat)
  case atStart => exact ⟨0, 0, Nat.zero_le _, by omega, rfl, rfl, rfl⟩
  case round =>
    obtain ⟨k, z, hk, hz, rfl, rfl, hzz⟩ := hrel
    have Z := Lib.hid hzz
    clear hzz
    by_cases hlt : k < len
    · obtain ⟨b, off, rfl, hb, hc⟩ := H.out.2
      obtain ⟨b1, off1, cap1, hc1, -⟩ := hc k hlt
      clear hc
      obtain ⟨n, hn⟩ : ∃ n, n = (nthL xss k).length := ⟨_, rfl⟩
      rw [← hn] at hc1
      have hn2 : z + n = szTo xss (k + 1) := by rw [szTo, Z.out, hn]
      have hn3 : z + n ≤ 4194304 := by rw [hn2]; exact Nat.le_trans (szTo_mono xss hlt) S.out
      have N2 := Lib.hid hn2
      clear hn hn2
      go_wp2
      go_round
      case rel => exact ⟨k + 1, z + n, hlt, hn3, by go_num, by go_num, N2.out⟩
      case measure => simp [intOf]; omega
    · obtain rfl : k = len := by omega
      have hz0 : 0 < z := by rw [Z.out]; exact P.out
      go_wp2_with fail
      refine (grow_any z _ hz0 (by omega)).mono ?_
      rintro e w1 ⟨v1, rfl, ho1, hb1⟩
      have O1 := Lib.hid ho1
      have B1 := Lib.hid hb1
      clear ho1 hb1
      go_wp2
      go_loopw [6, 27] (fun v i wr => ∃ j : Nat, j ≤ k ∧ i = .int .i64 j ∧ OwnN wr w.heap.size v (catTo xss j) ∧ Below w.heap.size w wr) (fun _ i _ => k - (intOf i).toNat)
      case atStart => exact ⟨0, Nat.zero_le _, rfl, O1.out, B1.out⟩
      case round =>
        obtain ⟨j, hj, rfl, hown, hbel⟩ := hrel
        have O := Lib.hid hown
        have B := Lib.hid hbel
        clear hown hbel
        by_cases hlt2 : j < k
        · obtain ⟨b, off, rfl, hb, hc⟩ := H.out.2
          obtain ⟨b1, off1, cap1, hc1, hat1⟩ := hc j hlt2
          have hc2 : wr.cell? ⟨b, off + j, none⟩ = some (.slice (some ⟨b1, off1, none⟩) (nthL xss j).length cap1) := (B.out.cell (p := ⟨b, off + j, none⟩) hb).trans hc1
          clear hc hc1
          have A1 := Lib.hid (hat1.keep B.out (Nat.le_refl _))
          clear hat1
          have hlen : (catTo xss j).length + (nthL xss j).length ≤ 8388608 := by
            have h1 := catTo_len xss (j + 1)
            rw [catTo, List.length_append] at h1
            have h2 := szTo_mono xss (show j + 1 ≤ k by omega)
            have := S.out
            omega
          have LN := Lib.hid hlen
          clear hlen
          go_wp2_with (at_builtin; refine list_appN0 rfl _ _ rfl w.heap.size _ (catTo xss j) rfl O.out (nthL xss j) b1 off1 _ cap1 rfl A1.out LN.out B.out.size ?_)
          intro v2 w2 ho2 hg2
          have b2 := below_appN B.out (Below.refl _ _) B.out.size O.out hg2
          have B2 := Lib.hid b2
          have O2 := Lib.hid ho2
          clear b2 ho2 hg2
          go_wp2
          go_roundw
          case rel => exact ⟨j + 1, hlt2, by go_num, O2.out, B2.out⟩
          case measure => simp [intOf]; omega
        · obtain rfl : j = k := by omega
          go_wp2
          go_ret
          exact ⟨_, rfl, O.out, B.out⟩

theorem lay3 {w : World} {C b1 o1 b2 o2 b3 o3 n1 c1 n2 c2 n3 c3 : Nat} {xs ys zs : List Nd} (h : AtN w (some ⟨b1, o1, none⟩) n1 xs) (h' : AtN w (some ⟨b2, o2, none⟩) n2 ys) (h'' : AtN w (some ⟨b3, o3, none⟩) n3 zs) (t : TypeId) (hC : C = w.heap.size) :
    AtNZ (w.alloc (.cells #[.slice (some ⟨b1, o1, none⟩) n1 c1, .slice (some ⟨b2, o2, none⟩) n2 c2, .slice (some ⟨b3, o3, none⟩) n3 c3] t)) (some ⟨C, 0, none⟩) 3 [xs, ys, zs] := by
  subst hC
  refine ⟨rfl, w.heap.size, 0, rfl, by simp, fun j hj => ?_⟩
  have hl := h.1
  have hl' := h'.1
  have hl'' := h''.1
  have hj3 : j = 0 ∨ j = 1 ∨ j = 2 := by omega
  rcases hj3 with rfl | rfl | rfl
  · refine ⟨b1, o1, c1, ?_, ?_⟩
    · rw [show (nthL [xs, ys, zs] 0).length = n1 from hl.symm]
      exact World.cell?_alloc_at _ _ _ _ rfl
    · rw [show (nthL [xs, ys, zs] 0).length = n1 from hl.symm]
      exact h.keep ((Below.refl _ _).alloc (Nat.le_refl _) _) (Nat.le_refl _)
  · refine ⟨b2, o2, c2, ?_, ?_⟩
    · rw [show (nthL [xs, ys, zs] 1).length = n2 from hl'.symm]
      exact World.cell?_alloc_at _ _ _ _ rfl
    · rw [show (nthL [xs, ys, zs] 1).length = n2 from hl'.symm]
      exact h'.keep ((Below.refl _ _).alloc (Nat.le_refl _) _) (Nat.le_refl _)
  · refine ⟨b3, o3, c3, ?_, ?_⟩
    · rw [show (nthL [xs, ys, zs] 2).length = n3 from hl''.symm]
      exact World.cell?_alloc_at _ _ _ _ rfl
    · rw [show (nthL [xs, ys, zs] 2).length = n3 from hl''.symm]
      exact h''.keep ((Below.refl _ _).alloc (Nat.le_refl _) _) (Nat.le_refl _)

def putL (xs : List Nd) (i : Nat) (ys : List Nd) : List Nd := xs.take i ++ ys ++ xs.drop (pe xs (xs.length - i) 1 i).toNat
theorem putL_len (xs ys : List Nd) (i : Nat) : (putL xs i ys).length ≤ 2 * xs.length + ys.length := by
  simp only [putL, List.length_append, List.length_take, List.length_drop]; omega
def rngB (xs : List Nd) (i : Int) : Bool := decide (0 ≤ i) && decide (i < xs.length)
def rpR (xs : List Nd) (i : Int) (ys : List Nd) : List Nd := if isB xs xs.length && isB ys ys.length then (if rngB xs i then lim (putL xs i.toNat ys) else []) else []
def rpC (xs : List Nd) (i : Int) (ys : List Nd) : Int := if isB xs xs.length && isB ys ys.length then (if rngB xs i then limC (putL xs i.toNat ys) else 2) else 1
theorem ReplacePart_len (xs : List Nd) (i : Int) (ys : List Nd) : (rpR xs i ys).length ≤ 1048576 := by
  rw [rpR]
  split
  · split
    · have := lim_len (putL xs i.toNat ys); omega
    · simp
  · simp
theorem rp_bad {xs ys : List Nd} {i : Int} (h : (isB xs xs.length && isB ys ys.length) = false) : rpR xs i ys = [] ∧ rpC xs i ys = 1 ∧ cvI (isB xs xs.length && isB ys ys.length) xs.length i = 1 := by simp only [rpR, rpC, cvI, h]; exact ⟨rfl, rfl, rfl⟩
theorem rp_out {xs ys : List Nd} {i : Int} (h : (isB xs xs.length && isB ys ys.length) = true) (h2 : rngB xs i = false) : rpR xs i ys = [] ∧ rpC xs i ys = 2 ∧ cvI (isB xs xs.length && isB ys ys.length) xs.length i = 2 := by
  have h3 := h2
  unfold rngB at h3
  simp only [rpR, rpC, cvI, h, h2, h3]; exact ⟨rfl, rfl, rfl⟩
theorem rp_good {xs ys : List Nd} {i : Int} (h : (isB xs xs.length && isB ys ys.length) = true) (h2 : rngB xs i = true) : ∃ k : Nat, i = k ∧ k < xs.length ∧ rpR xs i ys = lim (putL xs k ys) ∧ rpC xs i ys = limC (putL xs k ys) ∧ cvI (isB xs xs.length && isB ys ys.length) xs.length i = 0 := by
  have h4 := h2
  unfold rngB at h4
  have h3 : 0 ≤ i ∧ i < xs.length := by simpa using h4
  obtain ⟨k, rfl⟩ := Int.eq_ofNat_of_zero_le h3.1
  refine ⟨k, rfl, by omega, ?_, ?_, ?_⟩
  · simp only [rpR, h, h2]; rfl
  · simp only [rpC, h, h2]; rfl
  · simp only [cvI, h, h4]; rfl

theorem l02Own0_any (xs : List Nd) (b off len cap : Nat) (w : World) (hl : len ≤ 4194304) (h : AtN w (some ⟨b, off, none⟩) len xs) :
    Calls Try.prog 28 #[.slice (some ⟨b, off, none⟩) len cap] w fun e w' => ∃ v, e = .returned v ∧ OwnN w' w.heap.size v xs ∧ Below w.heap.size w w' := by
  have H := Lib.hid h
  clear h
  have b0 : Below w.heap.size w (w.alloc (.cells #[] 46)) := (Below.refl _ _).alloc (Nat.le_refl _) _
  have B0 := Lib.hid b0
  have L0 : Hid (OwnN (w.alloc (.cells #[] 46)) w.heap.size (.slice (some ⟨w.heap.size, 0, none⟩) 0 0) []) := World.ownsRow_lit w #[] 0 (Nat.le_refl _) (by decide) rfl
  clear b0
  go_enter Try.func28, Try.ntmps28
  go_wp2_with (at_builtin; refine list_appN0 rfl _ _ rfl w.heap.size _ [] rfl L0.out xs b off len cap rfl (H.out.keep B0.out (Nat.le_refl _)) (by simp; omega) B0.out.size ?_)
  intro v1 w1 ho1 hg1
  have b1 : Below w.heap.size w w1 := below_appN (Below.refl _ _) B0.out (Nat.le_refl _) L0.out hg1
  have B1 := Lib.hid b1
  have O1 := Lib.hid ho1
  clear b1 ho1 hg1
  go_wp2
  go_ret
  exact ⟨_, rfl, O1.out, B1.out⟩

theorem AtN.ex {w : World} {a : Option Addr} {len : Nat} {xs : List Nd} (h : AtN w a len xs) (hp : 0 < len) : ∃ b off, a = some ⟨b, off, none⟩ := by
  obtain ⟨b, off, rfl, -, -⟩ := h.2.resolve_left (by omega)
  exact ⟨b, off, rfl⟩

end Go.Proofs.Ytfpnmeacnhcakaa
