/- Contracts of TruthTable of the model and of the program, at every list of nodes. Conditions: the package's table, and those in the theorems. -/
import Derived.Test.YtfpnmeacnhcakaaDoorFs
import Derived.Test.YtfpnmeacnhcakaaDoorOwnI
import Derived.Test.YtfpnmeacnhcakaaDoorOcc
import Derived.Test.YtfpnmeacnhcakaaDoorRow
namespace Go.Proofs.YtfpnmeacnhcakaaDoor
open Go.RowKit

theorem ownsRow_monoT {w : World} {B B' : Nat} {e : TypeId} {sz : Nat} {v : Value} {n : Nat} {xs : List Value} (h : w.ownsRow B e sz v n xs) (hB : B' ≤ B) : w.ownsRow B' e sz v n xs := by
  refine ⟨h.1, ?_⟩
  rcases h.2 with h2 | ⟨g, cap, cur, hv, hg, r⟩
  · exact .inl h2
  · exact .inr ⟨g, cap, cur, hv, Nat.le_trans hB hg, r⟩
def b01 (b : Bool) : Int := if b then 1 else 0
def ttL (f : Fm) (n : Nat) : List Int := (tbl f n).map b01
theorem ttL_len (f : Fm) (n : Nat) : (ttL f n).length = n := by simp [ttL, tbl_len]
theorem ttL_succ (f : Fm) (n : Nat) : ttL f (n + 1) = ttL f n ++ [b01 (f.ev n)] := by simp [ttL, tbl_succ]
theorem ttL_at (f : Fm) {n j : Nat} (h : j < n) : nth (ttL f n) j = b01 (f.ev j) := by simp [ttL, tbl, nth, List.getD, h]
noncomputable def ttR (xs : List Nd) : List Int := if ck xs = 0 then ttL (toFm xs) 64 else []
theorem TruthTable_len (xs : List Nd) : (ttR xs).length ≤ 1048576 := by
  unfold ttR
  split
  · rw [ttL_len]; omega
  · exact Nat.zero_le _
theorem ttR_bad {xs : List Nd} (h : ck xs ≠ 0) : ttR xs = [] := if_neg h
theorem ttR_good {xs : List Nd} (h : ck xs = 0) : ttR xs = ttL (toFm xs) 64 := if_pos h

set_option maxHeartbeats 1000000 in
theorem specTruthTable_v (x0 : List Nd) (v : Value) (lo hi : Nat) (w : World) (hl : x0.length ≤ 1048576) (h : InN w lo hi v x0) :
    Calls Tryd.prog 14 #[v] w fun e w' => ∃ v', e = .returned (.tuple #[v', .int .i64 (ck x0)]) ∧ Own w' w.heap.size v' (ttR x0) ∧ Below w.heap.size w w' := by
  obtain ⟨a, cap, rfl, hat, hca, hcb⟩ := h.at'
  have CN := code1_any x0 a x0.length cap w.heap.size w hl hat 26 rfl
  have H := Lib.hid hat
  clear h hat
  by_cases hc : ck x0 = 0
  · rw [ttR_good hc]
    rw [hc] at CN ⊢
    obtain ⟨b, off, rfl, hf, f1, f4, h40⟩ := plain_at hc H.out hca hcb
    have C := Lib.hid CN
    have F := Lib.hid hf
    have F1 := Lib.hid f1
    have F4 := Lib.hid f4
    clear CN hf f1 f4 hc H
    generalize toFm x0 = f at F F1 F4 ⊢
    go_enter Tryd.func14, Tryd.ntmps14
    go_wp2_with fail
    refine C.out.mono ?_
    rintro e w1 ⟨rfl, hb1⟩
    have B1 := Lib.hid hb1
    have hs1 := hb1.size
    clear hb1 C
    have Z0 := Lib.hid (show Own (w1.alloc (.cells #[] 2)) w.heap.size (.slice (some ⟨w1.heap.size, 0, none⟩) 0 0) [] from World.ownsRow_made w1 #[] 0 hs1 (Nat.zero_le _) rfl)
    have BZ := Lib.hid (B1.out.alloc hs1 (.cells #[] 2))
    go_wp2_with fail
    refine (l04Table_any f F1.out F4.out b off _ cap _ hl (F.out.keep BZ.out (Nat.le_refl _))).mono ?_
    rintro e w2 ⟨v2, rfl, ho2, hb2⟩
    obtain ⟨a2, cap2, rfl⟩ := row_slice ho2
    have B2 := Lib.hid (BZ.out.trans (hb2.mono BZ.out.size))
    have A2 := Lib.hid (show w2.ownsRow w.heap.size 4 1 (.slice a2 64 cap2) 64 ((tbl f 64).map Value.bool) by
      have := ownsRow_monoT ho2 BZ.out.size
      simp only [tbl_len] at this ⊢
      exact this)
    simp only [tbl_len]
    have O2 := Lib.hid (Z0.out.keep hb2 (Nat.le_refl _))
    have hs2 := B2.out.size
    have hb2s := Lib.hid hb2.size
    clear hb2 ho2 Z0
    go_wp2
    go_loopw [5, 7] (fun v i wr => ∃ t : Nat, t ≤ 64 ∧ i = .int .i64 t ∧ Own wr w.heap.size v (ttL f t) ∧ Below w.heap.size w wr ∧ wr.ownsRow w.heap.size 4 1 (.slice a2 64 cap2) 64 ((tbl f 64).map Value.bool)) (fun _ i _ => 64 - (intOf i).toNat)
    case atStart => exact ⟨0, Nat.zero_le _, rfl, O2.out, B2.out, A2.out⟩
    case round =>
      obtain ⟨k, hk, rfl, hown, hbel, hat⟩ := hrel
      have HO := Lib.hid hown
      have B := Lib.hid hbel
      have A := Lib.hid hat
      have hbs := hbel.size
      have hlen := ttL_len f k
      clear hown hbel hat
      by_cases hlt : k < 64
      · have A3 := OwnB.cells A.out (tbl_len f 64).symm
        obtain ⟨b3, off3, rfl, hb3, hc3⟩ := A3.2.resolve_left (by omega)
        have hc4 := hc3 k hlt
        rw [tbl_at f hlt] at hc4
        have N := Lib.hid (ttL_succ f k)
        generalize f.ev k = y at hc4 N
        clear hc3 A3
        cases y
        all_goals
          go_wp2_with (at_builtin; refine list_app1 rfl _ _ rfl w.heap.size _ _ _ rfl (HO.out.alloc _) ⟨wr.heap.size, 0, none⟩ 1 _ rfl (World.cell?_alloc_at _ _ _ _ rfl) (by omega) (by simp; omega) ?_; intro v' w2 hown1 hgr1)
          have B2 := Lib.hid (below_app B.out ((Below.refl _ _).alloc hbs _) hbs HO.out hgr1)
          have O2 := Lib.hid (Own.snoc hown1)
          have A2 := Lib.hid (row_kept (World.ownsRow.alloc A.out _) hgr1 (row_other (HO.out.alloc _) (by decide)))
          clear hown1 hgr1
          go_roundw
          case rel => exact ⟨k + 1, hlt, by go_num, by rw [N.out]; exact O2.out, B2.out, A2.out⟩
          case measure => simp [intOf]; omega
      · obtain rfl : k = 64 := by omega
        go_wp2
        go_ret2
        exact ⟨_, rfl, HO.out, B.out⟩
  · rw [ttR_bad hc]
    have C := Lib.hid CN
    have hne : (ck x0 == 0) = false := by simpa using hc
    generalize ck x0 = z at C hne ⊢
    clear CN hc
    go_enter Tryd.func14, Tryd.ntmps14
    go_wp2_with fail
    refine C.out.mono ?_
    rintro e w1 ⟨rfl, hb1⟩
    have B1 := Lib.hid hb1
    clear hb1
    go_wp2
    go_ret2
    exact ⟨_, rfl, ownI_none _ _, B1.out⟩

end Go.Proofs.YtfpnmeacnhcakaaDoor
