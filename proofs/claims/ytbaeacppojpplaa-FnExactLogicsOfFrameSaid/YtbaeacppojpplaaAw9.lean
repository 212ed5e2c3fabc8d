/- Whether a frame has the conditions of some axioms, by the program. Conditions: those in the theorems. -/
import Derived.Deep.RegionWith
import Derived.Test.YtbaeacppojpplaaAv
import Derived.Test.YtbaeacppojpplaaIsFr
namespace Go.Proofs.Ytbaeacppojpplaa
open Go.RowKit

/-- The number of the axiom with a name; whether all of some axioms hold. -/
def axi (s : List UInt8) : Nat := (fdV nmA (stx s)).toNat
def hxB (ns : List (List UInt8)) (xs : List Int) (k : Nat) : Bool := allTo (fun t => axB (axi (nthS ns t)) xs) k
def AreA (ns : List (List UInt8)) : Prop := ∀ t, t < ns.length → fdV nmA (stx (nthS ns t)) = (axi (nthS ns t) : Int) ∧ axi (nthS ns t) < 13

set_option maxHeartbeats 4000000 in
set_option maxRecDepth 100000 in
theorem hasAxioms_any (n : Int) (xs : List Int) (a : Option Addr) (cap : Nat) (ns : List (List UInt8)) (a' : Option Addr) (cap' : Nat) (w : World) (h8 : xs.length ≤ 8) (hr : Rel xs.length (nth xs)) (hl : ns.length ≤ 3) (hn : AreA ns) (h : At w a xs.length xs) (hs : AtS w a' ns.length ns) :
    Calls Try.prog 48 #[.agg #[.int .i64 n, .slice a xs.length cap], .slice a' ns.length cap'] w fun e w' => e = .returned (.bool (hxB ns xs ns.length)) ∧ Below w.heap.size w w' := by
  obtain ⟨W, hW, HB, X, HS⟩ : ∃ W : World, W = w.alloc (.cells #[.int .i64 n, .slice a xs.length cap] 31) ∧ Hid (Below w.heap.size w W) ∧ Hid (Bx W w.heap.size n a xs.length cap) ∧ Hid (W.heap.size = w.heap.size + 1) := ⟨_, rfl, Lib.hid (alloc_keep _ _).1, Lib.hid (Bx.new _ _ _ _ _ _), Lib.hid (by simp)⟩
  have HW := Lib.hid hW
  have H := Lib.hid (h.keep HB.out (Nat.le_refl _))
  have HN := Lib.hid (hs.keep HB.out (Nat.le_refl _))
  have AA := Lib.hid hn
  have REL := Lib.hid hr
  obtain ⟨N, hN⟩ : ∃ N, N = ns.length := ⟨_, rfl⟩
  have LN := Lib.hid hN
  have hl2 : N ≤ 3 := by omega
  rw [← hN]
  clear h hs hW hr hn hN hl
  go_enter Try.func48, Try.ntmps48
  go_wp2_with fail
  rw [← HW.out]
  refine (axiomTable_any _).mono ?_
  rintro e w1 ⟨b, rfl, ht, hb⟩
  have HT := Lib.hid ht
  have B1 := Lib.hid hb
  clear ht hb
  go_wp2
  go_loopw [13] (fun i wr => ∃ k : Nat, k ≤ N ∧ i = .int .i64 k ∧ Hid (hxB ns xs k = true) ∧ Hid (Below W.heap.size W wr) ∧ Hid (Below w1.heap.size w1 wr)) (fun i _ => N - (intOf i).toNat)
  case atStart => exact ⟨0, Nat.zero_le _, rfl, Lib.hid rfl, B1, Lib.hid (Below.refl _ _)⟩
  case round =>
    obtain ⟨k, hk, rfl, HK, BW, B2⟩ := hrel
    by_cases hlt : k < N
    · have hk2 : k < ns.length := by have := LN.out; omega
      obtain ⟨bb, off, rfl, hbb, hc⟩ := HN.out.2.resolve_left (by omega)
      obtain ⟨s, hs⟩ : ∃ s, s = nthS ns k := ⟨_, rfl⟩
      have g1 : wr.cell? ⟨bb, off + k, none⟩ = some (.string (stx s)) := by rw [hs]; exact (BW.out.cell (p := ⟨bb, off + k, none⟩) hbb).trans (hc k hk2)
      obtain ⟨hf, hi13⟩ := AA.out k hk2
      rw [← hs] at hf hi13
      obtain ⟨i, hi⟩ : ∃ i, i = axi s := ⟨_, rfl⟩
      rw [← hi] at hf hi13
      have HI := Lib.hid (show axi (nthS ns k) = i by rw [hi, hs])
      have HF := Lib.hid hf
      have HT2 := Lib.hid (HT.out.keep B2.out)
      clear hc hf hs hi
      go_wp2_with fail
      refine (entryA_any (stx s) i hi13 HF.out b wr HT2.out).mono ?_
      rintro e w2 ⟨v, rfl, hc, hb⟩
      have BW2 := Lib.hid (BW.out.trans (hb.mono BW.out.size))
      have B22 := Lib.hid (B2.out.trans (hb.mono B2.out.size))
      have hsz2 := hb.size
      obtain ⟨t2, ht2⟩ : ∃ t, t = stx (nthS txA i) := ⟨_, rfl⟩
      clear hb
      rw [← ht2]
      clear ht2
      rcases hc with ⟨hi10, hi11, B, rfl, hcb⟩ | ⟨rfl, rfl⟩ | ⟨rfl, rfl⟩
      · have HCB := Lib.hid hcb
        obtain ⟨W3, hW3⟩ : ∃ W3, W3 = w2.alloc (.cells #[.string t2, .func (.func 65) #[] #[.pointer (some ⟨B, 0, none⟩)]] 52) := ⟨_, rfl⟩
        have HW3 := Lib.hid hW3
        have k3 : Below w2.heap.size w2 W3 := by rw [hW3]; exact (alloc_keep _ _).1
        have BW3 := Lib.hid (BW2.out.trans (k3.mono BW2.out.size))
        have B33 := Lib.hid (B22.out.trans (k3.mono B22.out.size))
        have v0 : W3.cell? ⟨w2.heap.size, 1, none⟩ = some (.func (.func 65) #[] #[.pointer (some ⟨B, 0, none⟩)]) := by rw [hW3]; exact World.cell?_alloc_new _ _ _ 1
        have HV0 := Lib.hid (show w2.heap.size < W3.heap.size by rw [hW3]; simp)
        have H3 := Lib.hid (H.out.keep BW3.out (Nat.le_refl _))
        obtain ⟨r, hr⟩ : ∃ r, r = axB i xs := ⟨_, rfl⟩
        have HR := Lib.hid hr
        have CA := Lib.hid (fun w' (hw : Below W3.heap.size W3 w') => show Calls Try.prog 65 #[.slice a xs.length cap, .pointer (some ⟨B, 0, none⟩)] w' fun e w'' => e = .returned (.bool r) ∧ Below w'.heap.size w' w'' by
          rw [hr]; exact withFlags1_any i hi13 hi10 hi11 xs a cap B w' h8 REL.out (H3.out.keep hw (Nat.le_refl _)) ((hcb.keep k3).keep hw))
        obtain ⟨lt, x0, x1⟩ := X.out.keep BW3.out
        have X3 := Lib.hid (X.out.keep BW3.out)
        have V3 := Lib.hid v0
        clear hW3 k3 hcb hr
        go_wp2_with fail
        rw [← HW3.out]
        go_region_held3 (fun w' => w'.cell? ⟨w.heap.size, 0, none⟩ = some (.int .i64 n) ∧ w'.cell? ⟨w.heap.size, 1, none⟩ = some (.slice a xs.length cap) ∧ w'.cell? ⟨w2.heap.size, 1, none⟩ = some (.func (.func 65) #[] #[.pointer (some ⟨B, 0, none⟩)])) (first | exact ⟨z0, z1, v5⟩ | exact ⟨y0, y1, v4⟩ | exact ⟨x0, x1, v0⟩ | go_keep) (first | (go_at_call 39; refine (frRel_any _ _ _ _ _).mono ?_; rintro e w4 ⟨rfl, hb⟩; have T4 := Lib.hid (show Below W3.heap.size W3 w4 from below_of_drew hb); clear hb; obtain ⟨ly, y0, y1⟩ := X3.out.keep T4.out; have v4 := (T4.out.cell (p := ⟨w2.heap.size, 1, none⟩) HV0.out).trans V3.out) | (go_at_call 65; refine (CA.out _ (T4.out)).mono ?_; rintro e w5 ⟨rfl, hb⟩; have T5 := Lib.hid (T4.out.trans (hb.mono T4.out.size)); clear hb; obtain ⟨lz, z0, z1⟩ := X3.out.keep T5.out; have v5 := (T5.out.cell (p := ⟨w2.heap.size, 1, none⟩) HV0.out).trans V3.out))
        have RES := Lib.hid (show axB (axi (nthS ns k)) xs = r by rw [HI.out, HR.out])
        have BW5 := Lib.hid (BW3.out.trans (T5.out.mono BW3.out.size))
        have B55 := Lib.hid (B33.out.trans (T5.out.mono B33.out.size))
        clear x0 x1 y0 y1 z0 z1 v0 v4 v5 CA X3 V3 T4 T5 HV0 H3
        cases r
        · have Q := Lib.hid (show hxB ns xs N = false from allTo_false hlt RES.out)
          go_wp2
          go_ret
          exact ⟨ret_bool Q.out.symm, HB.out.trans (BW5.out.mono HB.out.size)⟩
        · have Q := Lib.hid (show hxB ns xs (k + 1) = true from allTo_next HK.out RES.out)
          go_wp2
          go_roundw
          case rel => exact ⟨k + 1, hlt, by go_num, Q, BW5, B55⟩
          case measure => simp [intOf]; omega
      · skip
        obtain ⟨W3, hW3⟩ : ∃ W3, W3 = w2.alloc (.cells #[.string t2, .func (.func 54) #[] #[]] 52) := ⟨_, rfl⟩
        have HW3 := Lib.hid hW3
        have k3 : Below w2.heap.size w2 W3 := by rw [hW3]; exact (alloc_keep _ _).1
        have BW3 := Lib.hid (BW2.out.trans (k3.mono BW2.out.size))
        have B33 := Lib.hid (B22.out.trans (k3.mono B22.out.size))
        have v0 : W3.cell? ⟨w2.heap.size, 1, none⟩ = some (.func (.func 54) #[] #[]) := by rw [hW3]; exact World.cell?_alloc_new _ _ _ 1
        have HV0 := Lib.hid (show w2.heap.size < W3.heap.size by rw [hW3]; simp)
        have H3 := Lib.hid (H.out.keep BW3.out (Nat.le_refl _))
        obtain ⟨r, hr⟩ : ∃ r, r = axB 10 xs := ⟨_, rfl⟩
        have HR := Lib.hid hr
        have CA := Lib.hid (fun w' (hw : Below W3.heap.size W3 w') => show Calls Try.prog 54 #[.slice a xs.length cap] w' fun e w'' => e = .returned (.bool r) ∧ Below w'.heap.size w' w'' by
          rw [hr]; exact seesNothing_any xs a cap w' h8 (H3.out.keep hw (Nat.le_refl _)))
        obtain ⟨lt, x0, x1⟩ := X.out.keep BW3.out
        have X3 := Lib.hid (X.out.keep BW3.out)
        have V3 := Lib.hid v0
        clear hW3 k3 hr
        go_wp2_with fail
        rw [← HW3.out]
        go_region_held3 (fun w' => w'.cell? ⟨w.heap.size, 0, none⟩ = some (.int .i64 n) ∧ w'.cell? ⟨w.heap.size, 1, none⟩ = some (.slice a xs.length cap) ∧ w'.cell? ⟨w2.heap.size, 1, none⟩ = some (.func (.func 54) #[] #[])) (first | exact ⟨z0, z1, v5⟩ | exact ⟨y0, y1, v4⟩ | exact ⟨x0, x1, v0⟩ | go_keep) (first | (go_at_call 39; refine (frRel_any _ _ _ _ _).mono ?_; rintro e w4 ⟨rfl, hb⟩; have T4 := Lib.hid (show Below W3.heap.size W3 w4 from below_of_drew hb); clear hb; obtain ⟨ly, y0, y1⟩ := X3.out.keep T4.out; have v4 := (T4.out.cell (p := ⟨w2.heap.size, 1, none⟩) HV0.out).trans V3.out) | (go_at_call 54; refine (CA.out _ (T4.out)).mono ?_; rintro e w5 ⟨rfl, hb⟩; have T5 := Lib.hid (T4.out.trans (hb.mono T4.out.size)); clear hb; obtain ⟨lz, z0, z1⟩ := X3.out.keep T5.out; have v5 := (T5.out.cell (p := ⟨w2.heap.size, 1, none⟩) HV0.out).trans V3.out))
        have RES := Lib.hid (show axB (axi (nthS ns k)) xs = r by rw [HI.out, HR.out])
        have BW5 := Lib.hid (BW3.out.trans (T5.out.mono BW3.out.size))
        have B55 := Lib.hid (B33.out.trans (T5.out.mono B33.out.size))
        clear x0 x1 y0 y1 z0 z1 v0 v4 v5 CA X3 V3 T4 T5 HV0 H3
        cases r
        · have Q := Lib.hid (show hxB ns xs N = false from allTo_false hlt RES.out)
          go_wp2
          go_ret
          exact ⟨ret_bool Q.out.symm, HB.out.trans (BW5.out.mono HB.out.size)⟩
        · have Q := Lib.hid (show hxB ns xs (k + 1) = true from allTo_next HK.out RES.out)
          go_wp2
          go_roundw
          case rel => exact ⟨k + 1, hlt, by go_num, Q, BW5, B55⟩
          case measure => simp [intOf]; omega
      · skip
        obtain ⟨W3, hW3⟩ : ∃ W3, W3 = w2.alloc (.cells #[.string t2, .func (.func 55) #[] #[]] 52) := ⟨_, rfl⟩
        have HW3 := Lib.hid hW3
        have k3 : Below w2.heap.size w2 W3 := by rw [hW3]; exact (alloc_keep _ _).1
        have BW3 := Lib.hid (BW2.out.trans (k3.mono BW2.out.size))
        have B33 := Lib.hid (B22.out.trans (k3.mono B22.out.size))
        have v0 : W3.cell? ⟨w2.heap.size, 1, none⟩ = some (.func (.func 55) #[] #[]) := by rw [hW3]; exact World.cell?_alloc_new _ _ _ 1
        have HV0 := Lib.hid (show w2.heap.size < W3.heap.size by rw [hW3]; simp)
        have H3 := Lib.hid (H.out.keep BW3.out (Nat.le_refl _))
        obtain ⟨r, hr⟩ : ∃ r, r = axB 11 xs := ⟨_, rfl⟩
        have HR := Lib.hid hr
        have CA := Lib.hid (fun w' (hw : Below W3.heap.size W3 w') => show Calls Try.prog 55 #[.slice a xs.length cap] w' fun e w'' => e = .returned (.bool r) ∧ Below w'.heap.size w' w'' by
          rw [hr]; exact seesItselfOnly_any xs a cap w' h8 (H3.out.keep hw (Nat.le_refl _)))
        obtain ⟨lt, x0, x1⟩ := X.out.keep BW3.out
        have X3 := Lib.hid (X.out.keep BW3.out)
        have V3 := Lib.hid v0
        clear hW3 k3 hr
        go_wp2_with fail
        rw [← HW3.out]
        go_region_held3 (fun w' => w'.cell? ⟨w.heap.size, 0, none⟩ = some (.int .i64 n) ∧ w'.cell? ⟨w.heap.size, 1, none⟩ = some (.slice a xs.length cap) ∧ w'.cell? ⟨w2.heap.size, 1, none⟩ = some (.func (.func 55) #[] #[])) (first | exact ⟨z0, z1, v5⟩ | exact ⟨y0, y1, v4⟩ | exact ⟨x0, x1, v0⟩ | go_keep) (first | (go_at_call 39; refine (frRel_any _ _ _ _ _).mono ?_; rintro e w4 ⟨rfl, hb⟩; have T4 := Lib.hid (show Below W3.heap.size W3 w4 from below_of_drew hb); clear hb; obtain ⟨ly, y0, y1⟩ := X3.out.keep T4.out; have v4 := (T4.out.cell (p := ⟨w2.heap.size, 1, none⟩) HV0.out).trans V3.out) | (go_at_call 55; refine (CA.out _ (T4.out)).mono ?_; rintro e w5 ⟨rfl, hb⟩; have T5 := Lib.hid (T4.out.trans (hb.mono T4.out.size)); clear hb; obtain ⟨lz, z0, z1⟩ := X3.out.keep T5.out; have v5 := (T5.out.cell (p := ⟨w2.heap.size, 1, none⟩) HV0.out).trans V3.out))
        have RES := Lib.hid (show axB (axi (nthS ns k)) xs = r by rw [HI.out, HR.out])
        have BW5 := Lib.hid (BW3.out.trans (T5.out.mono BW3.out.size))
        have B55 := Lib.hid (B33.out.trans (T5.out.mono B33.out.size))
        clear x0 x1 y0 y1 z0 z1 v0 v4 v5 CA X3 V3 T4 T5 HV0 H3
        cases r
        · have Q := Lib.hid (show hxB ns xs N = false from allTo_false hlt RES.out)
          go_wp2
          go_ret
          exact ⟨ret_bool Q.out.symm, HB.out.trans (BW5.out.mono HB.out.size)⟩
        · have Q := Lib.hid (show hxB ns xs (k + 1) = true from allTo_next HK.out RES.out)
          go_wp2
          go_roundw
          case rel => exact ⟨k + 1, hlt, by go_num, Q, BW5, B55⟩
          case measure => simp [intOf]; omega
    · obtain rfl : k = N := by omega
      go_wp2
      go_ret
      exact ⟨ret_bool HK.out.symm, HB.out.trans (BW.out.mono HB.out.size)⟩

end Go.Proofs.Ytbaeacppojpplaa
