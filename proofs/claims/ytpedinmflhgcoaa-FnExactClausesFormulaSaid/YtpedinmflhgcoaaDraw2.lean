/- Contracts of the drawing functions of the model's chapter 1 that draw sizes, masks and relations. Conditions: those in the theorems. -/
import Derived.Test.YtpedinmflhgcoaaDraw
namespace Go.Proofs.Ytpedinmflhgcoaa
open Go.RowKit

theorem grown_alloc {a w : World} {r : Option Nat} (h : a.grownBy w r) (o : Obj) : a.grownBy (w.alloc o) r :=
  grown_trans h (World.grownBy_alloc w o r)
theorem Src.lt {w : World} {b : Nat} {a : Option Addr} {len cap : Nat} (h : Src w b a len cap) : b < w.heap.size := by
  obtain ⟨t, k, hb, _⟩ := h
  exact (Array.getElem?_eq_some_iff.1 hb).1
theorem Src.alloc {w : World} {b : Nat} {a : Option Addr} {len cap : Nat} (h : Src w b a len cap) (o : Obj) : Src (w.alloc o) b a len cap := h.other (World.grownBy_alloc w o none) (by intro e; cases e)
theorem Code.alloc {B : Nat} {w : World} {a : Option Addr} {len : Nat} (h : Code B w a len) (o : Obj) (hB : B ≤ w.heap.size) : Code B (w.alloc o) a len := h.below ((Below.refl B w).alloc hB o)
theorem Code.grown {B b : Nat} {w w' : World} {a : Option Addr} {len : Nat} (h : Code B w a len) (hg : w.grownBy w' (some b)) (hb : B ≤ b) (hB : B ≤ w.heap.size) : Code B w' a len := h.below (grown_below hg hb (Below.refl B w) hB)

set_option maxHeartbeats 1000000 in
theorem l01Mask_any (b : Nat) (a : Option Addr) (len cap : Nat) (n : Int) (w : World) (B : Nat) (hBb : B ≤ b) (hBw : B ≤ w.heap.size) (hs : Src w b a len cap) (hc : Code B w a len) :
    Calls Try.prog 106 #[.pointer (some ⟨b, 0, none⟩), .int .i64 n] w fun e w' => (∃ x : Int, e = .returned (.int .i64 x)) ∧ Src w' b a len cap ∧ w.grownBy w' (some b) := by
  have HS := Lib.hid hs
  have HC := Lib.hid hc
  clear hs hc
  cases hin : inB n 0 30
  · go_enter Try.func106, Try.ntmps106
    go_wp2_with (go_at_call 109; refine (l01In_any _ _ _ _).mono ?_; rintro e w' ⟨rfl, rfl⟩)
    refine (l01Next_any b a len cap 20 _ B hBb HS.out HC.out).mono ?_
    rintro e w2 ⟨y, rfl, hy, hs2, hg2⟩
    have HS2 := Lib.hid hs2
    clear hs2
    go_wp2
    go_ret
    exact ⟨⟨_, rfl⟩, HS2.out, hg2⟩
  · have hb : 0 ≤ n ∧ n ≤ 30 := by simpa [inB] using hin
    obtain ⟨hb1, hb2⟩ := hb
    have HI := Lib.hid hin
    go_enter Try.func106, Try.ntmps106
    go_wp2_with (go_at_call 109; refine (l01In_any _ _ _ _).mono ?_; rintro e w' ⟨rfl, rfl⟩)
    refine (l01Next_any b a len cap 30 _ B hBb HS.out HC.out).mono ?_
    rintro e w1 ⟨x, rfl, hx, hs1, hg1⟩
    have HS1 := Lib.hid hs1
    have HC1 := Lib.hid (HC.out.grown hg1 hBb hBw)
    have hB1 : B ≤ w1.heap.size := Nat.le_trans hBw hg1.size
    clear hx hs1 hin
    by_cases h0 : x = 0
    · subst h0
      have hne : w1.heap.size ≠ b := by have := HS1.out.lt; omega
      obtain ⟨F, hF⟩ : ∃ F, F = wrap64 (full n + 1) := ⟨_, rfl⟩
      have hr := World.ownsRow_lit (e := 2) (size := 1) (base := B) w1 #[.int .i64 (-1), .int .i64 (wrap64 (full n + 1)), .int .i64 9223372036854775807] 3 hB1 (by unfold maxLen; omega) rfl
      have HR := Lib.hid hr
      clear hr hF
      go_wp2_with (go_at_call 110; refine (l01Full_any _ _ hb1 hb2).mono ?_; rintro e w' ⟨rfl, rfl⟩)
      refine (l01Pick_any b a len cap w1.heap.size 3 3 [-1, wrap64 (full n + 1), 9223372036854775807] _ B hBb (HS1.out.alloc _) (HC1.out.alloc _ hB1) rfl (by decide) (by decide) hne HR.out).mono ?_
      rintro e w2 ⟨⟨y, -, rfl⟩, hs2, hg2⟩
      have HS2 := Lib.hid hs2
      clear hs2
      go_wp2
      go_ret
      exact ⟨⟨_, rfl⟩, HS2.out, grown_trans (grown_alloc hg1 _) hg2⟩
    · have e0 : ((x : Int) == 0) = false := by simp; omega
      go_wp2_with fail
      refine (l01Next_any b a len cap 65536 _ B hBb HS1.out HC1.out).mono ?_
      rintro e w2 ⟨y, rfl, hy, hs2, hg2⟩
      have hy2 : y < 65536 := by rcases hy with ⟨h1, h2⟩ | h1 <;> omega
      have HS2 := Lib.hid hs2
      have HC2 := Lib.hid (HC1.out.grown hg2 hBb hB1)
      clear hs2 hy
      go_wp2_with fail
      refine (l01Next_any b a len cap 65536 _ B hBb HS2.out HC2.out).mono ?_
      rintro e w3 ⟨z, rfl, hz, hs3, hg3⟩
      have hz2 : z < 65536 := by rcases hz with ⟨h1, h2⟩ | h1 <;> omega
      have HS3 := Lib.hid hs3
      clear hs3 hz
      go_wp2_with (go_at_call 110; refine (l01Full_any _ _ hb1 hb2).mono ?_; rintro e w' ⟨rfl, rfl⟩)
      go_ret
      exact ⟨⟨_, rfl⟩, HS3.out, grown_trans hg1 (grown_trans hg2 hg3)⟩

theorem Code.of_row {w : World} {a : Option Addr} {len cap : Nat} {zs : List Int} (h : IsRow .u8 w a len cap zs) (hl : len ≤ 4096) : Code w.heap.size w a len := by
  refine ⟨by omega, ?_⟩
  rcases h with ⟨rfl, rfl, rfl, rfl⟩ | ⟨x, rfl, h1, hm, hz, hcell, hwz⟩
  · exact .inl rfl
  · by_cases h0 : len = 0
    · exact .inl h0
    · right
      obtain ⟨b, off, spot⟩ := x
      have hc := hcell 0 (by omega)
      have hspot : spot = none := by simpa [Addr.add] using World.cell?_spot hc
      subst hspot
      refine ⟨b, off, rfl, World.block_lt_of_cell? w _ hc, fun j hj => ?_⟩
      have hcj := hcell j (by omega)
      have e2 : (⟨b, off, none⟩ : Addr).add j = ⟨b, off + j, none⟩ := by unfold Addr.add; split <;> simp_all
      rw [e2] at hcj
      have hin : zs.getD j 0 ∈ zs := by
        rw [List.getD_eq_getElem?_getD, List.getElem?_eq_getElem (by omega)]
        exact List.getElem_mem _
      obtain ⟨g, hg⟩ : ∃ g, g = zs.getD j 0 := ⟨_, rfl⟩
      rw [← hg] at hcj hin
      have hw := hwz _ hin
      simp [Lit.wf, IntKind.min, IntKind.max, IntKind.signed, IntKind.bits] at hw
      obtain ⟨z, hz2⟩ := Int.eq_ofNat_of_zero_le hw.1
      exact ⟨z, by omega, by rw [hcj, hz2]⟩

end Go.Proofs.Ytpedinmflhgcoaa
