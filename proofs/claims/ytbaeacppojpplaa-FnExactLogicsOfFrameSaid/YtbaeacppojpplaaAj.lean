/- What the model answers on axioms and logics of a frame: its entries. Conditions: those in the theorems. -/
import Derived.Deep.RegionHeld3
import Derived.Test.YtbaeacppojpplaaAi
import Derived.Test.YtbaeacppojpplaaJn04
namespace Go.Proofs.Ytbaeacppojpplaa
open Go.RowKit

set_option maxHeartbeats 4000000 in
set_option maxRecDepth 100000 in
theorem l09Each_any (xs : List Int) (a : Option Addr) (cap : Nat) (ns : List (List UInt8)) (a' : Option Addr) (cap' : Nat) (w : World) (h8 : xs.length ≤ 8) (hr : Rel xs.length (nth xs)) (hl : ns.length ≤ 3) (hn : AreA ns) (h : At w a xs.length xs) (hs : AtS w a' ns.length ns) :
    Calls Try.prog 63 #[.agg #[.int .i64 xs.length, .slice a xs.length cap], .slice a' ns.length cap'] w fun e w' => e = .returned (.bool (hxB ns xs ns.length)) ∧ Below w.heap.size w w' := by
  obtain ⟨W, hW, HB, X⟩ : ∃ W : World, W = w.alloc (.cells #[.int .i64 xs.length, .slice a xs.length cap] 31) ∧ Hid (Below w.heap.size w W) ∧ Hid (Bx W w.heap.size xs.length a xs.length cap) := ⟨_, rfl, Lib.hid (alloc_keep _ _).1, Lib.hid (Bx.new _ _ _ _ _ _)⟩
  have HW := Lib.hid hW
  have H := Lib.hid (h.keep HB.out (Nat.le_refl _))
  have HN := Lib.hid (hs.keep HB.out (Nat.le_refl _))
  have AA := Lib.hid hn
  have REL := Lib.hid hr
  obtain ⟨N, hN⟩ : ∃ N, N = ns.length := ⟨_, rfl⟩
  have LN := Lib.hid hN
  have hl2 : N ≤ 3 := by omega
  rw [← hN]
  clear h hs hW hr hn hN hl
  go_enter Try.func63, Try.ntmps63
  go_wp2
  go_loopw [5] (fun i wr => ∃ k : Nat, k ≤ N ∧ i = .int .i64 k ∧ Hid (hxB ns xs k = true) ∧ Hid (Below W.heap.size W wr)) (fun i _ => N - (intOf i).toNat)
  case atStart =>
    rw [← HW.out]
    exact ⟨0, Nat.zero_le _, rfl, Lib.hid rfl, Lib.hid (Below.refl _ _)⟩
  case round =>
    obtain ⟨k, hk, rfl, HK, BW⟩ := hrel
    by_cases hlt : k < N
    · have hk2 : k < ns.length := by have := LN.out; omega
      have hkk : (k : Int) < (N : Int) := by omega
      obtain ⟨bb, off, rfl, hbb, hc⟩ := HN.out.2.resolve_left (by omega)
      obtain ⟨s, hs⟩ : ∃ s, s = nthS ns k := ⟨_, rfl⟩
      have g1 : wr.cell? ⟨bb, off + k, none⟩ = some (.string (stx s)) := by rw [hs]; exact (BW.out.cell (p := ⟨bb, off + k, none⟩) hbb).trans (hc k hk2)
      obtain ⟨hf, hi13⟩ := AA.out k hk2
      rw [← hs] at hf hi13
      have hs2 : stx s = stx (nthS nmA (axi s)) := by
        rcases fd_cases nmA (stx s) with e0 | ⟨i, hi, he, e0⟩
        · rw [e0] at hf; omega
        · rw [e0] at hf
          have : axi s = i := by omega
          rw [this]; exact he
      obtain ⟨r, hr⟩ : ∃ r, r = axB (axi s) xs := ⟨_, rfl⟩
      have CA := Lib.hid (fun w' (hw : Below W.heap.size W w') => show Calls Try.prog 35 #[.agg #[.int .i64 xs.length, .slice a xs.length cap], .string (stx s)] w' fun e w'' => e = .returned (.bool r) ∧ Below w'.heap.size w' w'' by
        rw [hr]; exact l09Holds_any (axi s) hi13 (stx s) hs2 xs a cap w' h8 REL.out (H.out.keep hw (Nat.le_refl _)))
      have RES := Lib.hid (show axB (axi (nthS ns k)) xs = r by rw [← hs, hr])
      have GG := Lib.hid g1
      have hbr : bb < wr.heap.size := Nat.lt_of_lt_of_le hbb BW.out.size
      have HBR := Lib.hid hbr
      clear hc hf hs hs2 hr hi13
      obtain ⟨lt, x0, x1⟩ := X.out.keep BW.out
      have X3 := Lib.hid (X.out.keep BW.out)
      go_wp2_with fail
      go_region_held3 (fun w' => w'.cell? ⟨w.heap.size, 0, none⟩ = some (.int .i64 xs.length) ∧ w'.cell? ⟨w.heap.size, 1, none⟩ = some (.slice a xs.length cap) ∧ w'.cell? ⟨bb, off + k, none⟩ = some (.string (stx s))) (first | exact ⟨y0, y1, g2⟩ | exact ⟨x0, x1, g1⟩ | go_keep) (first | (go_at_call 35; refine (CA.out _ (below_drewN BW.out 1)).mono ?_; rintro e w4 ⟨rfl, hb⟩; have T4 := Lib.hid (show Below wr.heap.size wr w4 from below_of_drew hb); clear hb; obtain ⟨ly, y0, y1⟩ := X3.out.keep T4.out; have g2 := (T4.out.cell (p := ⟨bb, off + k, none⟩) HBR.out).trans GG.out))
      have BW5 := Lib.hid (BW.out.trans (T4.out.mono BW.out.size))
      clear x0 x1 y0 y1 g1 g2 CA X3 T4 HBR GG hbr
      cases r
      · have Q := Lib.hid (show hxB ns xs N = false from allTo_false hlt RES.out)
        go_wp2
        go_ret
        exact ⟨ret_bool Q.out.symm, HB.out.trans (BW5.out.mono HB.out.size)⟩
      · have Q := Lib.hid (show hxB ns xs (k + 1) = true from allTo_next HK.out RES.out)
        go_wp2
        go_roundw
        case rel => exact ⟨k + 1, hlt, by go_num, Q, BW5⟩
        case measure => simp [intOf]; omega
    · obtain rfl : k = N := by omega
      go_wp2
      go_ret
      exact ⟨ret_bool HK.out.symm, HB.out.trans (BW.out.mono HB.out.size)⟩

/-- Whether the axioms of the logic j hold. -/
def lgB (j : Nat) (xs : List Int) : Bool := hxB (lax j) xs (lax j).length

set_option maxHeartbeats 4000000 in
set_option maxRecDepth 100000 in
theorem l09Of_any (xs : List Int) (a : Option Addr) (cap : Nat) (i : Nat) (hi : i < 16) (s : ByteArray) (hf : fdV nmL s = i) (w : World) (h8 : xs.length ≤ 8) (hr : Rel xs.length (nth xs)) (h : At w a xs.length xs) :
    Calls Try.prog 47 #[.agg #[.int .i64 xs.length, .slice a xs.length cap], .string s] w fun e w' => e = .returned (.bool (lgB i xs)) ∧ Below w.heap.size w w' := by
  obtain ⟨W, hW, HB, X⟩ : ∃ W : World, W = w.alloc (.cells #[.int .i64 xs.length, .slice a xs.length cap] 31) ∧ Hid (Below w.heap.size w W) ∧ Hid (Bx W w.heap.size xs.length a xs.length cap) := ⟨_, rfl, Lib.hid (alloc_keep _ _).1, Lib.hid (Bx.new _ _ _ _ _ _)⟩
  have HW := Lib.hid hW
  have H := Lib.hid (h.keep HB.out (Nat.le_refl _))
  have HF := Lib.hid hf
  have REL := Lib.hid hr
  have AA := Lib.hid (areA_lax i hi)
  obtain ⟨ns, hns⟩ : ∃ ns, ns = lax i := ⟨_, rfl⟩
  have hl3 : ns.length ≤ 3 := by rw [hns]; exact lax_len i
  have LX := Lib.hid (fun w' => l09Axioms_any i hi s HF.out w')
  rw [← hns] at AA LX
  have R := Lib.hid (show hxB ns xs ns.length = lgB i xs by rw [hns]; rfl)
  clear h hW hf hr hns
  obtain ⟨lt, x0, x1⟩ := X.out
  go_enter Try.func47, Try.ntmps47
  go_wp2_with fail
  rw [← HW.out]
  go_region_held3 (fun w' => w'.cell? ⟨w.heap.size, 0, none⟩ = some (.int .i64 xs.length) ∧ w'.cell? ⟨w.heap.size, 1, none⟩ = some (.slice a xs.length cap)) (first | exact ⟨z0, z1⟩ | exact ⟨y0, y1⟩ | exact ⟨x0, x1⟩ | go_keep) (first | (go_at_call 44; refine (LX.out _).mono ?_; rintro e w4 ⟨v, rfl, ho, hb⟩; have T4 := Lib.hid (show Below W.heap.size W w4 from below_of_drew hb); clear hb; obtain ⟨a', cap', rfl, hat, -⟩ := ho.at; have HAT := Lib.hid hat; clear ho hat; obtain ⟨ly, y0, y1⟩ := X.out.keep T4.out) | (go_at_call 63; refine (l09Each_any xs a cap ns a' cap' _ h8 REL.out hl3 AA.out (H.out.keep T4.out (Nat.le_refl _)) HAT.out).mono ?_; rintro e w5 ⟨rfl, hb⟩; have T5 := Lib.hid (T4.out.trans (hb.mono T4.out.size)); clear hb; obtain ⟨lz, z0, z1⟩ := X.out.keep T5.out))
  go_wp2
  go_ret
  exact ⟨ret_bool R.out, HB.out.trans (T5.out.mono HB.out.size)⟩

end Go.Proofs.Ytbaeacppojpplaa
