/- 2 texts in one: Draw, Draw2. -/
import Derived.RegionTactic
import Derived.ChangeAlike
import Derived.BigRegion
import Derived.Test.YtfkdefmafhlmnaaGst
import Derived.Test.YtfkdefmafhlmnaaJn02
/- Contracts of the drawing functions of the model's chapter 1: they return, whatever the code, a number in its range. Conditions: those in the theorems. -/
namespace Go.Proofs.Ytfkdefmafhlmnaa
open Go.RowKit

/-- The bytes of a code that came in. -/
def Code (B : Nat) (w : World) (a : Option Addr) (len : Nat) : Prop :=
  len ≤ 140737488351232 ∧ (len = 0 ∨ ∃ cb off, a = some ⟨cb, off, none⟩ ∧ cb < B ∧ ∀ j, j < len → ∃ z : Nat, z < 256 ∧ w.cell? ⟨cb, off + j, none⟩ = some (.int .u8 z))
/-- Block b holds a source over that code. -/
def Src (w : World) (b : Nat) (a : Option Addr) (len cap : Nat) : Prop :=
  ∃ t h : Nat, w.heap[b]? = some (.cells #[.slice a len cap, .int .i64 t, .int .u64 h] 86 (0, 0)) ∧ t ≤ len ∧ h < 18446744073709551616

theorem u24 (y : Int) : ∃ z : Nat, z ≤ 16777215 ∧ bits .and .u64 y 16777215 = (z : Int) := by
  have e : bits .and .u64 y 16777215 = IntKind.u64.wrap ((BitVec.ofInt 64 y &&& BitVec.ofInt 64 16777215).toNat : Int) := rfl
  have h : (BitVec.ofInt 64 y &&& BitVec.ofInt 64 16777215).toNat ≤ 16777215 := by
    rw [BitVec.toNat_and]
    exact Nat.le_trans Nat.and_le_right (by decide)
  exact ⟨_, h, by rw [e, IntWalk.u64_in _ (by omega)]⟩

theorem Code.below {B : Nat} {w w' : World} {a : Option Addr} {len : Nat} (h : Code B w a len) (hb : Below B w w') : Code B w' a len := by
  refine ⟨h.1, ?_⟩
  rcases h.2 with h2 | ⟨cb, off, ha, hlt, hc⟩
  · exact .inl h2
  · exact .inr ⟨cb, off, ha, hlt, fun j hj => by
      obtain ⟨z, hz, hcell⟩ := hc j hj
      exact ⟨z, hz, (hb.cell (p := ⟨cb, off + j, none⟩) hlt).trans hcell⟩⟩
theorem Src.other {w w' : World} {b : Nat} {a : Option Addr} {len cap : Nat} (h : Src w b a len cap) {row : Option Nat} (hg : w.grownBy w' row) (hr : row ≠ some b) : Src w' b a len cap := by
  obtain ⟨t, k, hb, r⟩ := h
  exact ⟨t, k, by rw [hg.block b (Array.getElem?_eq_some_iff.1 hb).1 (fun e => hr e.symm)]; exact hb, r⟩
theorem Src.below {w w' : World} {C b : Nat} {a : Option Addr} {len cap : Nat} (h : Src w b a len cap) (hb : Below C w w') (hC : w.heap.size ≤ C) : Src w' b a len cap := by
  obtain ⟨t, k, hk, r⟩ := h
  exact ⟨t, k, by rw [hb.block b (Nat.lt_of_lt_of_le (Array.getElem?_eq_some_iff.1 hk).1 hC)]; exact hk, r⟩

theorem uwrap (y : Int) : ∃ z : Nat, z < 18446744073709551616 ∧ IntKind.u64.wrap y = (z : Int) := by
  obtain ⟨z, hz⟩ := Int.eq_ofNat_of_zero_le (a := IntKind.u64.wrap y) (by simp [IntKind.wrap, IntKind.bits, IntKind.signed]; omega)
  exact ⟨z, by simp [IntKind.wrap, IntKind.bits, IntKind.signed] at hz; omega, hz⟩

set_option maxHeartbeats 1000000 in
theorem l01Next_any (b : Nat) (a : Option Addr) (len cap : Nat) (n : Int) (w : World) (B : Nat) (hBb : B ≤ b) (hs : Src w b a len cap) (hc : Code B w a len) :
    Calls Try.prog 41 #[.pointer (some ⟨b, 0, none⟩), .int .i64 n] w fun e w' => ∃ x : Nat, e = .returned (.int .i64 x) ∧ ((n < 1 ∧ x = 0) ∨ (x : Int) < n) ∧ Src w' b a len cap ∧ w.grownBy w' (some b) := by
  by_cases hn : n < 1
  · have HS := Lib.hid hs
    clear hs hc
    go_enter Try.func41, Try.ntmps41
    go_wp2
    go_ret
    exact ⟨0, rfl, .inl ⟨hn, rfl⟩, HS.out, World.grownBy.refl _ _⟩
  · obtain ⟨t, h, hb, ht, hh⟩ := hs
    obtain ⟨hl, hcc⟩ := hc
    have c0 : w.cell? ⟨b, 0, none⟩ = some (.slice a len cap) := by simp [World.cell?, hb]
    have c1 : w.cell? ⟨b, 1, none⟩ = some (.int .i64 t) := by simp [World.cell?, hb]
    have c2 : w.cell? ⟨b, 2, none⟩ = some (.int .u64 h) := by simp [World.cell?, hb]
    have f0 : ∀ o, w.frozen? ⟨b, o, none⟩ = false := fun o => by simp [World.frozen?, hb]
    have f1 := f0 1
    have f2 := f0 2
    have HB := Lib.hid hb
    have HC := Lib.hid hcc
    clear f0 hb hcc
    obtain ⟨h2, hlt2, hh2⟩ := uwrap (IntKind.u64.wrap ((h : Int) * 6364136223846793005) + 1442695040888963407)
    obtain ⟨x0, hx0, hx⟩ := u24 ((h2 : Int) / 8589934592)
    by_cases htl : t < len
    · obtain ⟨cb, off, rfl, hcb, hcz⟩ := HC.out.resolve_left (by omega)
      obtain ⟨z, hz, hcell⟩ := hcz t htl
      have hne : cb ≠ b := by omega
      clear hcz
      go_enter Try.func41, Try.ntmps41
      go_wp2
      go_quiet (fail)
      go_wp2
      go_quiet (fail)
      go_wp2
      go_ret
      obtain ⟨r, hr⟩ := Int.eq_ofNat_of_zero_le (Int.emod_nonneg ((x0 : Int) + (z : Int)) (show n ≠ 0 by omega))
      have hrn : (r : Int) < n := by rw [← hr]; exact Int.emod_lt_of_pos _ (by omega)
      refine ⟨r, ret_int hr, .inr hrn, ?_, ?_⟩
      · have g1 := src_set HB.out 2 (.int .u64 h2)
        have g2 := fun q => ((below_drewN (Below.refl (b + 1) (w.setCell ⟨b, 2, none⟩ (.int .u64 h2))) q).block b (by omega)).trans g1
        exact ⟨t + 1, h2, src_set (g2 _) 1 (.int .i64 ((t : Int) + 1)), by omega, hlt2⟩
      · exact grown_trans (grown_drewN (grown_set w b 2 _) _) (grown_set _ b 1 _)
    · go_enter Try.func41, Try.ntmps41
      go_wp2
      go_quiet (fail)
      go_wp2
      go_ret
      obtain ⟨r, hr⟩ := Int.eq_ofNat_of_zero_le (Int.emod_nonneg (x0 : Int) (show n ≠ 0 by omega))
      have hrn : (r : Int) < n := by rw [← hr]; exact Int.emod_lt_of_pos _ (by omega)
      refine ⟨r, ret_int hr, .inr hrn, ?_, ?_⟩
      · have g1 := src_set HB.out 2 (.int .u64 h2)
        have g2 := ((below_drewN (Below.refl (b + 1) (w.setCell ⟨b, 2, none⟩ (.int .u64 h2))) nq).block b (by omega)).trans g1
        exact ⟨t, h2, g2, ht, hlt2⟩
      · exact grown_drewN (grown_set w b 2 _) _

set_option maxHeartbeats 1000000 in
theorem l01From_any (a : Option Addr) (len cap : Nat) (w : World) (hc : Code w.heap.size w a len) :
    Calls Try.prog 34 #[.slice a len cap] w fun e w' => e = .returned (.pointer (some ⟨w.heap.size, 0, none⟩)) ∧ Src w' w.heap.size a len cap ∧ Below w.heap.size w w' := by
  obtain ⟨hl, hcc⟩ := hc
  have HC := Lib.hid hcc
  clear hcc
  obtain ⟨h0, hlt0, hh0⟩ := uwrap (7129 + (len : Int))
  go_enter Try.func34, Try.ntmps34
  go_wp2
  clear hh0
  go_loopw [4] (fun i wr => ∃ k h : Nat, k ≤ len ∧ h < 18446744073709551616 ∧ i = .int .i64 k ∧ wr.heap[w.heap.size]? = some (.cells #[.slice a len cap, .int .i64 0, .int .u64 h] 86 (0, 0)) ∧ Below w.heap.size w wr) (fun i _ => len - (intOf i).toNat)
  case atStart => exact ⟨0, h0, Nat.zero_le _, hlt0, rfl, heap_alloc_new w _, (Below.refl _ _).alloc (Nat.le_refl _) _⟩
  case round =>
    obtain ⟨k, h, hk, hlt, rfl, hb, hbel⟩ := hrel
    have c2 : wr.cell? ⟨w.heap.size, 2, none⟩ = some (.int .u64 h) := by simp [World.cell?, hb]
    have f2 : wr.frozen? ⟨w.heap.size, 2, none⟩ = false := by simp [World.frozen?, hb]
    have HB := Lib.hid hb
    have HLT := Lib.hid hlt
    have HL := Lib.hid hl
    clear hb hlt
    have hlen : len ≤ 9000000000000000000 := by omega
    clear hl hlt0
    by_cases h1 : k < len
    · by_cases h2 : k < 4096
      · have d2 : decide ((k : Int) < 4096) = true := decide_eq_true (by omega)
        have H2 := Lib.hid h2
        clear h2
        obtain ⟨cb, off, rfl, hcb, hcz⟩ := HC.out.resolve_left (by omega)
        obtain ⟨z, hz, hcell0⟩ := hcz k h1
        have hcell : wr.cell? ⟨cb, off + k, none⟩ = some (.int .u8 z) := (hbel.cell (p := ⟨cb, off + k, none⟩) hcb).trans hcell0
        clear hcz hcell0
        obtain ⟨h', hlt', hh'⟩ := uwrap (IntKind.u64.wrap (IntKind.u64.wrap ((h : Int) * 1099511628211) + (z : Int)) + 11)
        have HLT2 := Lib.hid hlt'
        clear hlt'
        go_wp2
        go_region
        all_goals
          go_wp2
          go_roundw
          case rel => exact ⟨k + 1, h', h1, HLT2.out, by go_num, src_set (w := wr.drew) HB.out 2 (.int .u64 h'), (hbel.drew).setCell (p := ⟨w.heap.size, 2, none⟩) (Nat.le_refl _) _⟩
          case measure => simp [intOf]; omega
      · have d2 : decide ((k : Int) < 4096) = false := decide_eq_false (by omega)
        have H2 := Lib.hid h2
        clear h2
        go_wp2
        go_ret
        exact ⟨rfl, ⟨0, h, HB.out, Nat.zero_le _, HLT.out⟩, hbel⟩
    · go_wp2
      go_ret
      exact ⟨rfl, ⟨0, h, HB.out, Nat.zero_le _, HLT.out⟩, hbel⟩

set_option maxHeartbeats 1000000 in
theorem l01Pick_any (b : Nat) (a : Option Addr) (len cap : Nat) (g n c : Nat) (zs : List Int) (w : World) (B : Nat) (hBb : B ≤ b) (hs : Src w b a len cap) (hc : Code B w a len) (hz : zs.length = n) (h0 : 0 < n) (hn2 : n ≤ 1000) (hg : g ≠ b) (hr : w.ownsRow B 2 1 (.slice (some ⟨g, 0, none⟩) n c) n (zs.map (Value.int .i64))) :
    Calls Try.prog 59 #[.pointer (some ⟨b, 0, none⟩), .slice (some ⟨g, 0, none⟩) n c] w fun e w' => (∃ x, x ∈ zs ∧ e = .returned (.int .i64 x)) ∧ Src w' b a len cap ∧ w.grownBy w' (some b) := by
  have HS := Lib.hid hs
  have HC := Lib.hid hc
  have HR := Lib.hid hr
  have HZ := Lib.hid hz
  clear hs hc hr hz
  go_enter Try.func59, Try.ntmps59
  go_wp2_with fail
  refine (l01Next_any b a len cap n _ B hBb HS.out HC.out).mono ?_
  rintro e w1 ⟨x, rfl, hx, hs1, hg1⟩
  have hxn : x < n := by rcases hx with ⟨h1, h2⟩ | h1 <;> omega
  have hcell : w1.cell? ⟨g, x, none⟩ = some (.int .i64 (nth zs x)) := by
    have hr1 := World.ownsRow.kept HR.out hg1 (by right; intro e; injection e with e; exact hg e)
    rw [hr1.cellAt x (by omega), nth_map (by rw [HZ.out]; exact hxn)]
  have HS1 := Lib.hid hs1
  clear hx hs1
  go_wp2
  go_ret
  refine ⟨⟨nth zs x, ?_, rfl⟩, HS1.out, hg1⟩
  have hxl : x < zs.length := by rw [HZ.out]; exact hxn
  unfold nth
  rw [List.getD_eq_getElem?_getD, List.getElem?_eq_getElem hxl]
  exact List.getElem_mem hxl

end Go.Proofs.Ytfkdefmafhlmnaa

/- Contracts of the drawing functions of the model's chapter 1 that draw sizes, masks and relations. Conditions: those in the theorems. -/
namespace Go.Proofs.Ytfkdefmafhlmnaa
open Go.RowKit

theorem grown_alloc {a w : World} {r : Option Nat} (h : a.grownBy w r) (o : Obj) : a.grownBy (w.alloc o) r :=
  grown_trans h (World.grownBy_alloc w o r)
theorem Src.lt {w : World} {b : Nat} {a : Option Addr} {len cap : Nat} (h : Src w b a len cap) : b < w.heap.size := by
  obtain ⟨t, k, hb, _⟩ := h
  exact (Array.getElem?_eq_some_iff.1 hb).1
theorem Src.alloc {w : World} {b : Nat} {a : Option Addr} {len cap : Nat} (h : Src w b a len cap) (o : Obj) : Src (w.alloc o) b a len cap := h.other (World.grownBy_alloc w o none) (by intro e; cases e)
theorem Code.alloc {B : Nat} {w : World} {a : Option Addr} {len : Nat} (h : Code B w a len) (o : Obj) (hB : B ≤ w.heap.size) : Code B (w.alloc o) a len := h.below ((Below.refl B w).alloc hB o)
theorem Code.grown {B b : Nat} {w w' : World} {a : Option Addr} {len : Nat} (h : Code B w a len) (hg : w.grownBy w' (some b)) (hb : B ≤ b) (hB : B ≤ w.heap.size) : Code B w' a len := h.below (grown_below hg hb (Below.refl B w) hB)

theorem Code.of_row {w : World} {a : Option Addr} {len cap : Nat} {zs : List Int} (h : IsRow .u8 w a len cap zs) (hl : len ≤ 4096) : Code w.heap.size w a len := by
  refine ⟨by omega, ?_⟩
  rcases h with ⟨rfl, rfl, rfl, rfl⟩ | ⟨x, rfl, h1, hm, hz, hcell, hwz⟩
  · exact .inl rfl
  · by_cases h0 : len = 0
    · exact .inl h0
    · right
      obtain ⟨b, off, spot⟩ := x
      have hc := hcell 0 (by omega)
      have hspot : spot = none := by simpa [Addr.add] using World.cell?_spot hc
      subst hspot
      refine ⟨b, off, rfl, World.block_lt_of_cell? w _ hc, fun j hj => ?_⟩
      have hcj := hcell j (by omega)
      have e2 : (⟨b, off, none⟩ : Addr).add j = ⟨b, off + j, none⟩ := by unfold Addr.add; split <;> simp_all
      rw [e2] at hcj
      have hin : zs.getD j 0 ∈ zs := by
        rw [List.getD_eq_getElem?_getD, List.getElem?_eq_getElem (by omega)]
        exact List.getElem_mem _
      obtain ⟨g, hg⟩ : ∃ g, g = zs.getD j 0 := ⟨_, rfl⟩
      rw [← hg] at hcj hin
      have hw := hwz _ hin
      simp [Lit.wf, IntKind.min, IntKind.max, IntKind.signed, IntKind.bits] at hw
      obtain ⟨z, hz2⟩ := Int.eq_ofNat_of_zero_le hw.1
      exact ⟨z, by omega, by rw [hcj, hz2]⟩

end Go.Proofs.Ytfkdefmafhlmnaa
