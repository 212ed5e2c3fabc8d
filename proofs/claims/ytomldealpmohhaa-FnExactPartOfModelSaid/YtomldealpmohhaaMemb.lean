/- Contracts of MembersOf. Conditions: those in the theorems. -/
import Derived.Test.YtomldealpmohhaaMem
namespace Go.Proofs.Ytomldealpmohhaa
open Go.RowKit

theorem cod_pow {n m : Int} {k : Nat} (h : cod n m = 0) (hk : m = k) : k < 2 ^ n.toNat := by
  have hz := (cod_zero h).2.2.2.1
  subst hk
  exact_mod_cast hz
def membL (n m : Int) : List Int := outL (cod n m) (memTo m.toNat n.toNat)
theorem membL_len (n m : Int) : (membL n m).length ≤ 1048576 := by
  unfold membL outL
  split
  · rename_i h
    have h1 := cod_zero h
    have h2 := memTo_len m.toNat n.toNat
    omega
  · simp

set_option maxHeartbeats 1000000 in
theorem implMembersOf_any (n m : Int) (w : World) :
    Calls Try.prog 62 #[.int .i64 n, .int .i64 m] w fun e w' => ∃ v, e = .returned (.tuple #[v, .int .i64 (cod n m)]) ∧ Own w' w.heap.size v (outL (cod n m) (memTo m.toNat n.toNat)) ∧ Below w.heap.size w w' := by
  by_cases h0 : cod n m = 0
  · obtain ⟨i0, hi, hz0, hz1, hz2⟩ := info_parts info64
    have hz := cod_zero h0
    obtain ⟨k, rfl⟩ := Int.eq_ofNat_of_zero_le hz.2.2.1
    obtain ⟨j, rfl⟩ := Int.eq_ofNat_of_zero_le hz.1
    have hk : k < 1073741824 := by have := hz.2.2.2.2; omega
    have hj : j ≤ 30 := by have := hz.2.1; omega
    have hpl := pop_le k
    have H0 := Lib.hid h0
    clear h0 hz
    go_enter Try.func62, Try.ntmps62
    go_wp2_with (first | (go_at_call 99; refine (checkMask_any _ _ _).mono ?_; rw [H0.out]; rintro e w' ⟨rfl, rfl⟩) | (go_at_call 74; refine (countBits_any _ hk _).mono ?_; rintro e w' ⟨rfl, rfl⟩) | (at_make; refine wpList_make_own _ rfl _ _ 22 rfl w.heap.size 2 i0 (.int .i64 0) 1 Try.underlying22 hi hz0 hz1 _ _ _ (pop k) rfl rfl rfl ?b2 ?b3 (Nat.le_refl _) ?_))
    case b2 => rw [hz2]; omega
    case b3 => unfold maxLen; omega
    intro w0 hown0 hgrow0
    have HO0 := Lib.hid hown0
    clear hown0 hi hz0 hz1 hz2
    go_wp2
    go_loopw [7, 19] (fun v i wr => ∃ t : Nat, t ≤ j ∧ i = .int .i64 t ∧ wr.ownsRow w.heap.size 2 1 v (memTo k t).length ((memTo k t).map (Value.int .i64)) ∧ Below w.heap.size w wr) (fun _ i _ => j - (intOf i).toNat)
    case atStart => exact ⟨0, Nat.zero_le _, rfl, HO0.out, (Below.refl _ _).grown hgrow0 (Nat.le_refl _) (fun k h => by cases h)⟩
    case round =>
      obtain ⟨t, ht, rfl, hown, hbel⟩ := hrel
      clear hgrow0
      have HO := Lib.hid hown
      have hlen := memTo_len k t
      clear hown
      by_cases hlt : t < j
      · have hbb := bitB_nat k t hk
        cases hbit : bitN k t
        · have HB := Lib.hid hbit
          rw [hbit] at hbb
          clear hbit
          go_wp2_with (go_at_call 54; refine (hasMember_any _ _ _ (by omega) (by omega)).mono ?_; rintro e w' ⟨rfl, rfl⟩)
          go_roundw
          case rel => exact ⟨t + 1, hlt, by go_num, (by rw [memTo, HB.out]; exact HO.out), hbel⟩
          case measure => simp [intOf]; omega
        · have HB := Lib.hid hbit
          rw [hbit] at hbb
          clear hbit
          go_wp2_with (first | (go_at_call 54; refine (hasMember_any _ _ _ (by omega) (by omega)).mono ?_; rintro e w' ⟨rfl, rfl⟩) | (at_builtin; refine list_app1 rfl _ _ rfl w.heap.size _ _ _ rfl (HO.out.alloc _) ⟨wr.heap.size, 0, none⟩ 1 _ rfl (World.cell?_alloc_at _ _ _ _ rfl) (by omega) (by have := hbel.size; simp; omega) ?_; intro v' w1 hown1 hgr1))
          go_roundw
          case rel => exact ⟨t + 1, hlt, by go_num, (by rw [memTo, HB.out]; simpa using hown1), below_app hbel ((Below.refl _ _).alloc hbel.size _) hbel.size HO.out hgr1⟩
          case measure => simp [intOf]; omega
      · obtain rfl : t = j := by omega
        go_wp2
        go_ret2
        exact ⟨_, out_ok H0.out, Own.ok H0.out HO.out, hbel⟩
  · have H0 := Lib.hid h0
    clear h0
    obtain ⟨c, hc⟩ : ∃ c, c = cod n m := ⟨_, rfl⟩
    have hcn : (c == 0) = false := by rw [hc]; simpa using H0.out
    have hcn2 : (c != 0) = true := by rw [hc]; simpa using H0.out
    have HC := Lib.hid hc
    clear hc
    go_enter Try.func62, Try.ntmps62
    go_wp2_with (first | (go_at_call 99; refine (checkMask_any _ _ _).mono ?_; rw [← HC.out]; rintro e w' ⟨rfl, rfl⟩))
    go_ret2
    exact ⟨_, by rw [← HC.out]; rfl, Own.nil H0.out, Below.refl _ _⟩

end Go.Proofs.Ytomldealpmohhaa
