/- How many bits a number below 2^64 has: what math/bits.OnesCount64 computes is the sum of the digits. Conditions: those in the theorems. -/
import Derived.Test.YtfpnmeacnhcakaaDoorPop
import Derived.Laws.Bits64b
namespace Go.Proofs.YtfpnmeacnhcakaaDoor
open Go.RowKit

theorem rep85v : rep 85 8 = 6148914691236517205 := rep85.symm
theorem rep51v : rep 51 8 = 3689348814741910323 := rep51.symm
theorem rep15v : rep 15 8 = 1085102592571150095 := rep15.symm
theorem u1_nat8 (y : Nat) (h : y < 18446744073709551616) : u1 y = (((y / 2 &&& rep 85 8) + (y &&& rep 85 8) : Nat) : Int) := by
  have e1 : ((y : Int) / 2) = ((y / 2 : Nat) : Int) := by omega
  have e2 : (6148914691236517205 : Int) = ((rep 85 8 : Nat) : Int) := by rw [rep85v]; rfl
  have a1 : y / 2 &&& rep 85 8 ≤ rep 85 8 := Nat.and_le_right
  have a2 : y &&& rep 85 8 ≤ rep 85 8 := Nat.and_le_right
  have hr : rep 85 8 = 6148914691236517205 := rep85v
  unfold u1
  rw [e1, e2, bits_and_u64_nat _ _ (by omega) (by omega), bits_and_u64_nat _ _ (by omega) (by omega)]
  rw [IntWalk.u64_in _ (by omega)]
  omega
theorem u2_nat8 (y : Nat) (h : y < 18446744073709551616) : u2 y = (((y / 4 &&& rep 51 8) + (y &&& rep 51 8) : Nat) : Int) := by
  have e1 : ((y : Int) / 4) = ((y / 4 : Nat) : Int) := by omega
  have e2 : (3689348814741910323 : Int) = ((rep 51 8 : Nat) : Int) := by rw [rep51v]; rfl
  have a1 : y / 4 &&& rep 51 8 ≤ rep 51 8 := Nat.and_le_right
  have a2 : y &&& rep 51 8 ≤ rep 51 8 := Nat.and_le_right
  have hr : rep 51 8 = 3689348814741910323 := rep51v
  unfold u2
  rw [e1, e2, bits_and_u64_nat _ _ (by omega) (by omega), bits_and_u64_nat _ _ (by omega) (by omega)]
  rw [IntWalk.u64_in _ (by omega)]
  omega
theorem u3_nat8 (y : Nat) (h : y ≤ 7378697629483820646) : u3 y = (((y / 16 + y) &&& rep 15 8 : Nat) : Int) := by
  have e1 : ((y : Int) / 16 + y) = ((y / 16 + y : Nat) : Int) := by omega
  have e2 : (1085102592571150095 : Int) = ((rep 15 8 : Nat) : Int) := by rw [rep15v]; rfl
  have hr : rep 15 8 = 1085102592571150095 := rep15v
  unfold u3
  rw [e1, e2, IntWalk.u64_in _ (by omega), bits_and_u64_nat _ _ (by omega) (by omega)]
theorem u456_8 (y : Nat) (h : y < 1152921504606846976) : u7 (u6 (u5 (u4 y))) = (((let a := y + y / 256; let b := a + a / 65536; b + b / 4294967296) % 128 : Nat) : Int) := by
  have e4 : u4 y = ((y + y / 256 : Nat) : Int) := by unfold u4; rw [IntWalk.u64_in _ (by omega)]; omega
  have e5 : u5 (u4 y) = (((y + y / 256) + (y + y / 256) / 65536 : Nat) : Int) := by rw [e4]; unfold u5; rw [IntWalk.u64_in _ (by omega)]; omega
  have e6 : u6 (u5 (u4 y)) = ((((y + y / 256) + (y + y / 256) / 65536) + ((y + y / 256) + (y + y / 256) / 65536) / 4294967296 : Nat) : Int) := by rw [e5]; unfold u6; rw [IntWalk.u64_in _ (by omega)]; omega
  rw [e6]
  unfold u7
  rw [IntWalk.wrap64_in _ (by omega)]
  rw [show (127 : Int) = ((127 : Nat) : Int) from rfl, iand _ _ (by omega) (by decide), show 127 = 2 ^ 7 - 1 from rfl, Nat.and_two_pow_sub_one_eq_mod]

theorem sum_bytes8 (a b c d e f g h : Nat) (ha : a ≤ 8) (hb : b ≤ 8) (hc : c ≤ 8) (hd : d ≤ 8) (he : e ≤ 8) (hf : f ≤ 8) (hg : g ≤ 8) (hh : h ≤ 8) (y : Nat) (hy : y = a + 256 * (b + 256 * (c + 256 * (d + 256 * (e + 256 * (f + 256 * (g + 256 * h))))))) :
    (y + y / 256 + (y + y / 256) / 65536 + (y + y / 256 + (y + y / 256) / 65536) / 4294967296) % 128 = a + b + c + d + e + f + g + h := by
  have e1 : y / 256 = b + 256 * (c + 256 * (d + 256 * (e + 256 * (f + 256 * (g + 256 * h))))) := by omega
  obtain ⟨z, hz⟩ : ∃ z, z = y + y / 256 := ⟨_, rfl⟩
  have e2 : z = (a + b) + 256 * (b + c) + 65536 * ((c + d) + 256 * (d + e) + 65536 * ((e + f) + 256 * (f + g) + 65536 * ((g + h) + 256 * h))) := by omega
  have e3 : z / 65536 = (c + d) + 256 * (d + e) + 65536 * ((e + f) + 256 * (f + g) + 65536 * ((g + h) + 256 * h)) := by omega
  obtain ⟨u, hu⟩ : ∃ u, u = z + z / 65536 := ⟨_, rfl⟩
  have e4 : u = (a + b + c + d) + 256 * (b + c + d + e) + 65536 * (c + d + e + f) + 16777216 * (d + e + f + g) + 4294967296 * ((e + f + g + h) + 256 * (f + g + h) + 65536 * ((g + h) + 256 * h)) := by omega
  have e5 : u / 4294967296 = (e + f + g + h) + 256 * (f + g + h) + 65536 * ((g + h) + 256 * h) := by omega
  rw [← hz, ← hu, e5]
  clear e1 e2 e3 e5 hz hu hy
  omega

theorem ones_eq8 (n : Nat) (h : n < 18446744073709551616) : u7 (u6 (u5 (u4 (u3 (u2 (u1 n)))))) = ((pop n : Nat) : Int) := by
  have h8 : n < 256 ^ 8 := by omega
  have s12 := swar n h8
  have l1 := u1_nat8 n h
  have b1 : (n / 2 &&& rep 85 8) + (n &&& rep 85 8) < 18446744073709551616 := by
    have a1 : n / 2 &&& rep 85 8 ≤ rep 85 8 := Nat.and_le_right
    have a2 : n &&& rep 85 8 ≤ rep 85 8 := Nat.and_le_right
    have hr : rep 85 8 = 6148914691236517205 := rep85v
    omega
  have l2 := u2_nat8 _ b1
  have b2 : mp (fun b => g2 (g1 b)) 8 n ≤ 7378697629483820646 := by
    rw [← s12]
    have a1 : ((n / 2 &&& rep 85 8) + (n &&& rep 85 8)) / 4 &&& rep 51 8 ≤ rep 51 8 := Nat.and_le_right
    have a2 : ((n / 2 &&& rep 85 8) + (n &&& rep 85 8)) &&& rep 51 8 ≤ rep 51 8 := Nat.and_le_right
    have hr : rep 51 8 = 3689348814741910323 := rep51v
    omega
  rw [s12] at l2
  have l3 := u3_nat8 _ b2
  have s3 := step3 8 _ (mp_lt g21_lt 8 n) (nib_mp 8 n)
  rw [mp_comp (fun b => g2 (g1 b)) g3 g21_lt, mp_congr (g := pop) (fun b hb => (g321 b hb).1)] at s3
  rw [s3] at l3
  rw [l1, l2, l3]
  have p8 : ∀ b, b < 256 → pop b ≤ 8 := fun b hb => (g321 b hb).2
  obtain ⟨n1, h1⟩ : ∃ n1, n1 = n / 256 := ⟨_, rfl⟩
  obtain ⟨n2, h2⟩ : ∃ n2, n2 = n1 / 256 := ⟨_, rfl⟩
  obtain ⟨n3, h3⟩ : ∃ n3, n3 = n2 / 256 := ⟨_, rfl⟩
  obtain ⟨n4, h4⟩ : ∃ n4, n4 = n3 / 256 := ⟨_, rfl⟩
  obtain ⟨n5, h5⟩ : ∃ n5, n5 = n4 / 256 := ⟨_, rfl⟩
  obtain ⟨n6, h6⟩ : ∃ n6, n6 = n5 / 256 := ⟨_, rfl⟩
  obtain ⟨n7, h7⟩ : ∃ n7, n7 = n6 / 256 := ⟨_, rfl⟩
  have hn7 : n7 < 256 := by omega
  have q0 := p8 (n % 256) (by omega)
  have q1 := p8 (n1 % 256) (by omega)
  have q2 := p8 (n2 % 256) (by omega)
  have q3 := p8 (n3 % 256) (by omega)
  have q4 := p8 (n4 % 256) (by omega)
  have q5 := p8 (n5 % 256) (by omega)
  have q6 := p8 (n6 % 256) (by omega)
  have q7 := p8 n7 hn7
  have hm : mp pop 8 n = pop (n % 256) + 256 * (pop (n1 % 256) + 256 * (pop (n2 % 256) + 256 * (pop (n3 % 256) + 256 * (pop (n4 % 256) + 256 * (pop (n5 % 256) + 256 * (pop (n6 % 256) + 256 * pop n7)))))) := by
    simp only [mp]
    rw [← h1, ← h2, ← h3, ← h4, ← h5, ← h6, ← h7, Nat.mod_eq_of_lt hn7]
    omega
  have cat : ∀ x y, y = x / 256 → pop x = pop y + pop (x % 256) := fun x y hy => by
    have := pop_cat 8 y (x % 256) (by omega)
    rwa [show y * 2 ^ 8 + x % 256 = x by omega] at this
  have hpop : pop n = pop (n % 256) + pop (n1 % 256) + pop (n2 % 256) + pop (n3 % 256) + pop (n4 % 256) + pop (n5 % 256) + pop (n6 % 256) + pop n7 := by
    rw [cat n n1 h1, cat n1 n2 h2, cat n2 n3 h3, cat n3 n4 h4, cat n4 n5 h5, cat n5 n6 h6, cat n6 n7 h7]
    omega
  clear cat l1 l2 l3 s3 s12 b1 b2 p8 h1 h2 h3 h4 h5 h6 h7
  generalize pop (n % 256) = w0 at *
  generalize pop (n1 % 256) = w1 at *
  generalize pop (n2 % 256) = w2 at *
  generalize pop (n3 % 256) = w3 at *
  generalize pop (n4 % 256) = w4 at *
  generalize pop (n5 % 256) = w5 at *
  generalize pop (n6 % 256) = w6 at *
  generalize pop n7 = w7 at *
  rw [u456_8 _ (by rw [hm]; omega), hpop, hm]
  simp only
  rw [sum_bytes8 w0 w1 w2 w3 w4 w5 w6 w7 q0 q1 q2 q3 q4 q5 q6 q7 _ rfl]

set_option maxHeartbeats 400000 in
theorem ones8_any (n : Nat) (hn : n < 18446744073709551616) (w : World) :
    Calls Tryd.prog 58 #[.int .u64 n] w fun e w' => e = .returned (.int .i64 ((pop n : Nat) : Int)) ∧ w = w' := by
  go_enter Tryd.func58, Tryd.ntmps58
  go_wp2
  go_ret
  exact ⟨ret_int (ones_eq8 n hn), rfl⟩

theorem wrap_back (n : Nat) (hn : n < 18446744073709551616) : IntKind.u64.wrap (wrap64 (n : Int)) = (n : Int) := by
  simp [IntKind.wrap, wrap64, IntKind.signed, IntKind.bits]
  omega

theorem countBits8_any (n : Nat) (hn : n < 18446744073709551616) (w : World) :
    Calls Tryd.prog 46 #[.int .i64 (wrap64 (n : Int))] w fun e w' => e = .returned (.int .i64 ((pop n : Nat) : Int)) ∧ w = w' := by
  have E := wrap_back n hn
  generalize wrap64 (n : Int) = z at E ⊢
  go_enter Tryd.func46, Tryd.ntmps46
  go_wp2_with fail
  refine (ones8_any n hn _).mono ?_
  rintro e w' ⟨rfl, rfl⟩
  go_wp2
  go_ret
  exact ⟨rfl, rfl⟩

end Go.Proofs.YtfpnmeacnhcakaaDoor
