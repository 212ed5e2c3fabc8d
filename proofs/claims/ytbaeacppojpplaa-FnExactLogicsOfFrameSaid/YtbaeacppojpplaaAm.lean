/- The logics of a frame, by the model. Conditions: those in the theorems. -/
import Derived.Test.YtbaeacppojpplaaAj
import Derived.Test.YtbaeacppojpplaaApT
namespace Go.Proofs.Ytbaeacppojpplaa
open Go.RowKit

/-- The names of those among the first k logics that p tells. -/
def lnTo (p : Nat → Bool) : Nat → List (List UInt8)
  | 0 => []
  | k + 1 => if p k then lnTo p k ++ [nthS nmL k] else lnTo p k
theorem lnTo_len (p : Nat → Bool) (k : Nat) : (lnTo p k).length ≤ k := by
  induction k with
  | zero => exact Nat.le_refl _
  | succ k ih =>
    rw [lnTo]
    split
    · rw [List.length_append]; show _ + 1 ≤ _; omega
    · omega
theorem lnTo_yes {p : Nat → Bool} {k : Nat} (h : p k = true) : lnTo p (k + 1) = lnTo p k ++ [nthS nmL k] := by rw [lnTo, if_pos h]
theorem lnTo_no {p : Nat → Bool} {k : Nat} (h : p k = false) : lnTo p (k + 1) = lnTo p k := by rw [lnTo, if_neg (by rw [h]; decide)]
theorem nmL_fd (k : Nat) (hk : k < 16) : fdV nmL (stx (nthS nmL k)) = (k : Int) := (by decide : ∀ k, k < 16 → fdV nmL (stx (nthS nmL k)) = (k : Int)) k hk

set_option maxHeartbeats 4000000 in
set_option maxRecDepth 100000 in
theorem l09LogicsOf_any (xs : List Int) (a : Option Addr) (cap : Nat) (w : World) (h8 : xs.length ≤ 8) (hr : Rel xs.length (nth xs)) (h : At w a xs.length xs) :
    Calls Try.prog 49 #[.agg #[.int .i64 xs.length, .slice a xs.length cap]] w fun e w' => ∃ v, e = .returned v ∧ OwnS w' w.heap.size v (lnTo (fun j => lgB j xs) 16) ∧ Below w.heap.size w w' := by
  obtain ⟨W, hW, HB, X, HS⟩ : ∃ W : World, W = w.alloc (.cells #[.int .i64 xs.length, .slice a xs.length cap] 31) ∧ Hid (Below w.heap.size w W) ∧ Hid (Bx W w.heap.size xs.length a xs.length cap) ∧ Hid (W.heap.size = w.heap.size + 1) := ⟨_, rfl, Lib.hid (alloc_keep _ _).1, Lib.hid (Bx.new _ _ _ _ _ _), Lib.hid (by simp)⟩
  have HW := Lib.hid hW
  have H := Lib.hid (h.keep HB.out (Nat.le_refl _))
  have REL := Lib.hid hr
  obtain ⟨W1, hW1⟩ : ∃ W1, W1 = W.alloc (.cells #[] 9) := ⟨_, rfl⟩
  have HW1 := Lib.hid hW1
  have k1 : Below W.heap.size W W1 := by rw [hW1]; exact (alloc_keep _ _).1
  have K1 := Lib.hid k1
  have O0 := Lib.hid (show OwnS W1 W.heap.size (.slice (some ⟨W.heap.size, 0, none⟩) 0 0) [] by rw [hW1]; exact World.ownsRow_lit W #[] 0 (Nat.le_refl _) (by decide) rfl)
  have hs1 : W1.heap.size = W.heap.size + 1 := by rw [hW1]; simp
  have HS1 := Lib.hid hs1
  clear h hW hr hW1 k1 hs1
  go_enter Try.func49, Try.ntmps49
  go_wp2_with fail
  rw [← HW.out, ← HW1.out]
  refine (l09Logics_any _).mono ?_
  rintro e w1 ⟨vl, rfl, ho, hb⟩
  obtain ⟨al, cl, rfl, hat, -⟩ := ho.at
  rw [show nmL.length = 16 from rfl] at hat ⊢
  have AT := Lib.hid hat
  have T1 := Lib.hid (K1.out.trans (hb.mono K1.out.size))
  have O1 := Lib.hid (show OwnS w1 W.heap.size (.slice (some ⟨W.heap.size, 0, none⟩) 0 0) [] from (O0.out.inS.below hb (Nat.le_refl _)).1)
  have hsz1 : W1.heap.size ≤ w1.heap.size := hb.size
  have BL := Lib.hid (show W.heap.size < w1.heap.size by have := HS1.out; omega)
  have NI := Lib.hid (show InS w1 W1.heap.size w1.heap.size (.slice al 16 cl) nmL from ho.inS)
  clear ho hb hat hsz1
  go_wp2
  go_loopw [3, 5] (fun v i wr => ∃ k : Nat, k ≤ 16 ∧ i = .int .i64 k ∧ Hid (OwnS wr W.heap.size v (lnTo (fun j => lgB j xs) k)) ∧ Hid (Below W.heap.size W wr) ∧ Hid (InS wr W1.heap.size w1.heap.size (.slice al 16 cl) nmL) ∧ Hid (∀ g, v.ownBlock = some g → g = W.heap.size ∨ w1.heap.size ≤ g)) (fun _ i _ => 16 - (intOf i).toNat)
  case atStart => exact ⟨0, by omega, rfl, by rw [← HS.out]; exact O1, T1, NI, Lib.hid (fun g hg => .inl (by rw [HS.out]; exact (Option.some.inj hg).symm))⟩
  case round =>
    obtain ⟨k, hk, rfl, O, BW, NK, PL⟩ := hrel
    by_cases hlt : k < 16
    · have hkk : (k : Int) < 16 := by omega
      obtain ⟨al', cl', hv, hat⟩ := NK.out.at
      obtain ⟨bb, off, hal, hbb, hc⟩ := hat.2.resolve_left (by decide)
      cases hv
      subst hal
      obtain ⟨s, hs⟩ : ∃ s, s = stx (nthS nmL k) := ⟨_, rfl⟩
      have g1 : wr.cell? ⟨bb, off + k, none⟩ = some (.string s) := by rw [hs]; exact hc k hlt
      have hf : fdV nmL s = k := by rw [hs]; exact nmL_fd k hlt
      obtain ⟨r, hr⟩ : ∃ r, r = lgB k xs := ⟨_, rfl⟩
      have CA := Lib.hid (fun w' (hw : Below W.heap.size W w') => show Calls Try.prog 47 #[.agg #[.int .i64 xs.length, .slice a xs.length cap], .string s] w' fun e w'' => e = .returned (.bool r) ∧ Below w'.heap.size w' w'' by
        rw [hr]; exact l09Of_any xs a cap k hlt s hf w' h8 REL.out (H.out.keep hw (Nat.le_refl _)))
      have RES := Lib.hid (show (fun j => lgB j xs) k = r from hr.symm)
      have SS := Lib.hid hs
      have GG := Lib.hid g1
      have HBR := Lib.hid hbb
      clear hc hf hs hr hat
      obtain ⟨lt, x0, x1⟩ := X.out.keep BW.out
      have X3 := Lib.hid (X.out.keep BW.out)
      go_wp2_with fail
      go_region_held3 (fun w' => w'.cell? ⟨w.heap.size, 0, none⟩ = some (.int .i64 xs.length) ∧ w'.cell? ⟨w.heap.size, 1, none⟩ = some (.slice a xs.length cap) ∧ w'.cell? ⟨bb, off + k, none⟩ = some (.string s)) (first | exact ⟨y0, y1, g2⟩ | exact ⟨x0, x1, g1⟩ | go_keep) (first | (go_at_call 47; refine (CA.out _ (below_drewN BW.out 1)).mono ?_; rintro e w4 ⟨rfl, hb⟩; have T4 := Lib.hid (show Below wr.heap.size wr w4 from below_of_drew hb); clear hb; obtain ⟨ly, y0, y1⟩ := X3.out.keep T4.out; have g2 := (T4.out.cell (p := ⟨bb, off + k, none⟩) HBR.out).trans GG.out))
      have BW5 := Lib.hid (BW.out.trans (T4.out.mono BW.out.size))
      have O5 := Lib.hid (show OwnS w4 W.heap.size _ _ from (O.out.inS.below T4.out (Nat.le_refl _)).1)
      have NK5 := Lib.hid (NK.out.below T4.out NK.out.hi)
      have LL := Lib.hid (lnTo_len (fun j => lgB j xs) k)
      have BW1 := Lib.hid (NK5.out.hi)
      clear x0 x1 y0 y1 CA X3 T4 HBR GG hbb O NK BW lt ly
      cases r
      · have Q := Lib.hid (show lnTo (fun j => lgB j xs) (k + 1) = lnTo (fun j => lgB j xs) k from lnTo_no RES.out)
        clear g1 g2
        go_wp2
        go_roundw
        case rel => exact ⟨k + 1, hlt, by go_num, by rw [Q.out]; exact O5, BW5, NK5, PL⟩
        case measure => simp [intOf]; omega
      · have Q := Lib.hid (show lnTo (fun j => lgB j xs) (k + 1) = lnTo (fun j => lgB j xs) k ++ [nthS nmL k] from lnTo_yes RES.out)
        clear g1
        obtain ⟨W6, hW6⟩ : ∃ W6, W6 = w4.alloc (.cells #[.string s] 9) := ⟨_, rfl⟩
        have HW6 := Lib.hid hW6
        have k6 : Below w4.heap.size w4 W6 := by rw [hW6]; exact (alloc_keep _ _).1
        have BW6 := Lib.hid (BW5.out.trans (k6.mono BW5.out.size))
        have O6 := Lib.hid (show OwnS W6 W.heap.size _ _ from (O5.out.inS.below k6 (Nat.le_refl _)).1)
        have NK6 := Lib.hid (NK5.out.below k6 NK5.out.hi)
        have C6 := Lib.hid (show W6.cell? ⟨w4.heap.size, 0, none⟩ = some (.string (stx (nthS nmL k))) by rw [hW6, ← SS.out]; exact World.cell?_alloc_new _ _ _ 0)
        clear hW6 k6 O5 NK5 BW5
        go_wp2_with (at_builtin; rw [← HW6.out]; refine list_appSat rfl _ _ rfl W.heap.size _ _ rfl O6.out (nthS nmL k) ⟨w4.heap.size, 0, none⟩ 1 rfl C6.out (by have := LL.out; omega) BW6.out.size ?_)
        intro v7 w7 ho7 hg7 hp7
        have hz6 : w4.heap.size < W6.heap.size := World.block_lt_of_cell? _ _ C6.out
        have hgl : w1.heap.size ≤ w4.heap.size := BW1.out
        have O7 := Lib.hid (show OwnS w7 W.heap.size v7 (lnTo (fun j => lgB j xs) (k + 1)) by rw [Q.out]; exact ho7)
        have BW7 := Lib.hid (BW6.out.grown hg7 BW6.out.size (fun g hg => OwnS.ge O6.out g hg))
        have NK7 := Lib.hid (NK6.out.apart hg7 PL.out (by have := HS1.out; omega))
        have PL7 := Lib.hid (place_next hp7 PL.out (by omega))
        clear ho7 hg7 hp7 O6 NK6 BW6 C6 PL
        go_wp2
        go_roundw
        case rel => exact ⟨k + 1, hlt, by go_num, O7, BW7, NK7, PL7⟩
        case measure => simp [intOf]; omega
    · obtain rfl : k = 16 := by omega
      go_wp2
      go_ret
      exact ⟨_, rfl, O.out.mono HB.out.size, HB.out.trans (BW.out.mono HB.out.size)⟩

end Go.Proofs.Ytbaeacppojpplaa
