/- Contracts of arranged of the program and of PartOfFrame of both. Conditions: those in the theorems. -/
import Derived.Test.YtkpbcpkapjnchaaPrt
import Derived.Test.YtkpbcpkapjnchaaSum
namespace Go.Proofs.Ytkpbcpkapjnchaa
open Go.RowKit

/-- The row under way: entries below i are done, that of i up to j. -/
def arS (xs ls : List Int) (i j t : Nat) : Int := if t < i then arF xs ls t else if t = i then sqTo ls (nth xs (nth ls i).toNat) j else 0
theorem arS_at (xs ls : List Int) (i j : Nat) : arS xs ls i j i = sqTo ls (nth xs (nth ls i).toNat) j := by simp [arS]
theorem arS_start (xs ls : List Int) (t : Nat) : arS xs ls 0 0 t = 0 := by
  unfold arS; rw [if_neg (by omega)]; split <;> rfl
theorem arS_next (xs ls : List Int) (i t : Nat) : arS xs ls i ls.length t = arS xs ls (i + 1) 0 t := by
  unfold arS
  by_cases h : t < i
  · rw [if_pos h, if_pos (by omega)]
  · by_cases e : t = i
    · subst e; rw [if_neg h, if_pos rfl, if_pos (by omega), arF]
    · rw [if_neg h, if_neg e, if_neg (by omega)]; split <;> rfl
theorem arS_all {xs ls : List Int} {n t : Nat} (h : t < n) : arS xs ls n 0 t = arF xs ls t := by unfold arS; rw [if_pos h]
theorem arS_no {xs ls : List Int} {i j : Nat} (h : bitB (nth xs (nth ls i).toNat) (nth ls j) = false) (t : Nat) : arS xs ls i j t = arS xs ls i (j + 1) t := by
  unfold arS
  by_cases h2 : t < i
  · rw [if_pos h2, if_pos h2]
  · rw [if_neg h2, if_neg h2]
    by_cases e : t = i
    · subst e; rw [if_pos rfl, if_pos rfl, sqTo, h]; rfl
    · rw [if_neg e, if_neg e]
theorem arS_yes {xs ls : List Int} {i j : Nat} (h : bitB (nth xs (nth ls i).toNat) (nth ls j) = true) (t : Nat) : (if t = i then bits .or .i64 (sqTo ls (nth xs (nth ls i).toNat) j) (one j) else arS xs ls i j t) = arS xs ls i (j + 1) t := by
  unfold arS
  by_cases e : t = i
  · subst e; rw [if_pos rfl, if_neg (by omega), if_pos rfl, sqTo, h]; rfl
  · rw [if_neg e]
    by_cases h2 : t < i
    · rw [if_pos h2, if_pos h2]
    · rw [if_neg h2, if_neg h2, if_neg e, if_neg e]

set_option maxHeartbeats 2000000 in
set_option maxRecDepth 100000 in
theorem arranged_any (n : Int) (xs ls : List Int) (a al : Option Addr) (len cap ll cl : Nat) (w : World) (hl : len ≤ 30) (hll : ll ≤ 30) (hok : LsOk len ls) (h : At w a len xs) (h' : At w al ll ls) :
    Calls Try.prog 64 #[.agg #[.int .i64 n, .slice a len cap], .slice al ll cl] w fun e w' => ∃ v, e = .returned v ∧ OwnF w' w.heap.size v (arV xs ls).length (arV xs ls) ∧ Below w.heap.size w w' := by
  obtain ⟨W, hW, HB, X, Z, hWs⟩ := boxF1 w n a len cap
  have H := Lib.hid (h.keep HB.out (Nat.le_refl _))
  have H' := Lib.hid (h'.keep HB.out (Nat.le_refl _))
  have hmk := fun (W : World) => run_make_row' (P := Try.prog) 49 2 (.int .i64 0) 8 Try.underlying49 info64 rfl .i64 .i64 ll (by omega) (by omega) W
  have hr0 := World.rowIs_made W (.int .i64 0) ll 2
  rw [hWs] at hr0
  have HR0 := Lib.hid hr0
  have HBV := Lib.hid ((Below.refl (w.heap.size + 1 + 1) W).alloc (by omega) (.cells (madeCells #[.int .i64 0] ll) 2))
  have hz0 : w.heap.size + 1 + 1 ≤ W.heap.size := by omega
  have hz1 : W.heap.size ≤ w.heap.size + 1 + 1 := by omega
  obtain rfl := h.1
  obtain rfl := h'.1
  have OK := Lib.hid hok
  have HW := Lib.hid hW
  clear h h' hr0 hW hWs hok
  go_enter Try.func64, Try.ntmps64
  go_wp2
  clear hmk
  go_loopw [15] (fun i wr => ∃ k : Nat, k ≤ ls.length ∧ i = .int .i64 k ∧ wr.rowIs (w.heap.size + 1 + 1) 2 ls.length (fun t => .int .i64 (arS xs ls k 0 t)) ∧ Hid (Below (w.heap.size + 1 + 1) W wr)) (fun i _ => ls.length - (intOf i).toNat)
  case atStart =>
    rw [← HW.out]
    exact ⟨0, Nat.zero_le _, rfl, HR0.out.congr fun t _ => by rw [arS_start], HBV⟩
  case round =>
    obtain ⟨k, hk, rfl, hrow, B⟩ := hrel
    have HROW := Lib.hid hrow
    have hsz := B.out.size
    clear hrow
    by_cases hlt : k < ls.length
    · obtain ⟨p, hp, hpn⟩ := OK.out k hlt
      obtain ⟨b', off', rfl, hb', hc'⟩ := H'.out.2.resolve_left (by omega)
      obtain ⟨b, off, rfl, hb, hc⟩ := H.out.2.resolve_left (by omega)
      have hcell' : wr.cell? ⟨b', off' + k, none⟩ = some (.int .i64 (p : Int)) := (B.out.cell (p := ⟨b', off' + k, none⟩) (Nat.lt_of_lt_of_le hb' hz1)).trans (by rw [hc' k hlt, hp])
      have HC := Lib.hid hc
      have HC' := Lib.hid hc'
      have HP := Lib.hid hp
      obtain ⟨wo, rfl⟩ : ∃ wo : World, wo = wr := ⟨_, rfl⟩
      clear hc hc' hp
      go_wp2
      clear hcell'
      go_loopw [22] (fun i wr => ∃ j : Nat, j ≤ ls.length ∧ i = .int .i64 j ∧ wr.rowIs (w.heap.size + 1 + 1) 2 ls.length (fun t => .int .i64 (arS xs ls k j t)) ∧ Hid (Below (w.heap.size + 1 + 1) W wr)) (fun i _ => ls.length - (intOf i).toNat)
      case atStart => exact ⟨0, Nat.zero_le _, rfl, HROW.out, B⟩
      case round =>
        obtain ⟨j, hj, rfl, hrow2, B2⟩ := hrel
        by_cases hjl : j < ls.length
        · have hcg : wr.cell? ⟨w.heap.size + 1 + 1, k, none⟩ = some (.int .i64 (arS xs ls k j k)) := hrow2.cell hlt
          have hfg : wr.frozen? ⟨w.heap.size + 1 + 1, k, none⟩ = false := hrow2.frozen k
          rw [arS_at] at hcg
          have HROW2 := Lib.hid hrow2
          obtain ⟨q, hq, hqn⟩ := OK.out j hjl
          have hce : wr.cell? ⟨b', off' + j, none⟩ = some (.int .i64 (q : Int)) := (B2.out.cell (p := ⟨b', off' + j, none⟩) (Nat.lt_of_lt_of_le hb' hz1)).trans (by rw [HC'.out j hjl, hq])
          have hcx : wr.cell? ⟨b, off + p, none⟩ = some (.int .i64 (nth xs p)) := (B2.out.cell (p := ⟨b, off + p, none⟩) (Nat.lt_of_lt_of_le hb hz1)).trans (HC.out p hpn)
          obtain ⟨lt0, x0, x0'⟩ := X.out.below B2.out (by omega)
          have hpp : nth xs (nth ls k).toNat = nth xs p := by rw [HP.out, Int.toNat_natCast]
          rw [hpp] at hcg
          have HPP := Lib.hid hpp
          have HQ := Lib.hid hq
          clear hrow2 hpp hq
          cases hbit : bitB (nth xs p) q
          · have HB3 := Lib.hid (show bitB (nth xs (nth ls k).toNat) (nth ls j) = false by rw [HPP.out, HQ.out]; exact hbit)
            go_wp2_with (go_at_call 72; refine (hasMember_any _ _ _ (by omega) (by omega)).mono ?_; rintro e w' ⟨rfl, rfl⟩)
            go_roundw
            case rel => exact ⟨j + 1, hjl, by go_num, HROW2.out.congr fun t _ => by rw [arS_no HB3.out], B2⟩
            case measure => simp [intOf]; omega
          · have HB3 := Lib.hid (show bitB (nth xs (nth ls k).toNat) (nth ls j) = true by rw [HPP.out, HQ.out]; exact hbit)
            go_wp2_with (go_at_call 72; refine (hasMember_any _ _ _ (by omega) (by omega)).mono ?_; rintro e w' ⟨rfl, rfl⟩)
            clear x0 x0' hce hcx
            go_region
            all_goals
              go_wp2
              go_roundw
              case rel => exact ⟨j + 1, hjl, by go_num, row_setI HROW2.out.drew (fun t => by rw [← HPP.out]; exact arS_yes HB3.out t), Lib.hid ((B2.out.drew).setCell (p := ⟨w.heap.size + 1 + 1, k, none⟩) (Nat.le_refl _) _)⟩
              case measure => simp [intOf]; omega
        · obtain rfl : j = ls.length := by omega
          have HROW2 := Lib.hid hrow2
          clear hrow2
          go_wp2
          go_roundw
          case rel => exact ⟨k + 1, hlt, by go_num, HROW2.out.congr fun t ht => by rw [arS_next], B2⟩
          case measure => simp [intOf]; omega
    · obtain rfl : k = ls.length := by omega
      have O5 := Lib.hid (own_of_row (B := w.heap.size + 1 + 1) (Nat.le_refl _) (by omega) (HROW.out.congr fun t ht => by rw [arS_all ht]))
      have Z1 := Lib.hid (Z.out.below B.out (by omega))
      have B2 := Lib.hid (HB.out.trans (B.out.mono (by omega)))
      go_wp2_with fail
      refine (frameOf_any _ _ _ _ (by omega)).mono ?_
      rintro e w2 ⟨rfl, hb⟩
      obtain ⟨lt2, z0, z1, z2, z3⟩ := Z1.out.keep hb
      have B3 := Lib.hid (B2.out.trans (hb.mono B2.out.size))
      have O6 := Lib.hid (O5.out.keep hb (Nat.le_refl _))
      clear hb O5
      go_wp2
      refine bodyPost_ret (v := .agg #[.int .i64 ls.length, .slice (some ⟨w.heap.size + 1 + 1, 0, none⟩) ls.length ls.length]) (by simp [results, Try.results64, go_sem, z0, z1]) rfl ⟨_, rfl, ?_, (B3.out.setCell (by show _ ≤ _; simp) _).setCell (by show _ ≤ _; simp) _⟩
      have e6 : ((arV xs ls).length : Int) = ls.length := by rw [arV, tab_len]
      rw [e6]
      exact ((OwnF.mk (n := ls.length) O6.out).out2 (by omega)).mono (by omega)

def prL (n : Int) (xs : List Int) (m : Int) : List Int := if cwV n xs m = 0 then arV xs (memTo m.toNat xs.length) else []
theorem pr_ok {n m : Int} {xs : List Int} (h : cwV n xs m = 0) : prL n xs m = arV xs (memTo m.toNat xs.length) := if_pos h
theorem pr_bad {n m : Int} {xs : List Int} (h : ¬ cwV n xs m = 0) : prL n xs m = [] := if_neg h
theorem RF.bad' {w : World} {B : Nat} {c c' n : Int} {xs : List Int} (h : c = c') (hn : n = 0) (hx : xs = []) : RF w B n c' xs (.returned (.tuple #[.agg #[.int .i64 0, .slice none 0 0], .int .i64 c])) := by
  subst h hn hx
  exact ⟨_, rfl, OwnF.mk (World.ownsRow_nil _ _ _ _)⟩

set_option maxHeartbeats 1000000 in
theorem specPartOfFrame_any (n m : Int) (xs : List Int) (a : Option Addr) (len cap : Nat) (w : World) (hl : len ≤ 1048576) (h : At w a len xs) :
    Calls Try.prog 27 #[.agg #[.int .i64 n, .slice a len cap], .int .i64 m] w fun e w' => RF w' w.heap.size (prL n xs m).length (cwV n xs m) (prL n xs m) e ∧ Below w.heap.size w w' := by
  obtain ⟨W, hW, HB, X, Z, hWs⟩ := boxF1 w n a len cap
  have H := Lib.hid (h.keep HB.out (Nat.le_refl _))
  have hz0 : w.heap.size + 1 + 1 ≤ W.heap.size := by omega
  obtain rfl := h.1
  have HW := Lib.hid hW
  clear h hWs hW
  by_cases h0 : cwV n xs m = 0
  · obtain ⟨hn, h8, -, hm, -⟩ := cw_ok h0
    have C := Lib.hid h0
    have L := Lib.hid (pr_ok h0)
    obtain ⟨k, rfl⟩ := Int.eq_ofNat_of_zero_le hm.1
    have hk := hm.nat
    rw [Int.toNat_natCast] at hk L
    have HK := Lib.hid hk
    clear hm h0 hn hk
    go_enter Try.func27, Try.ntmps27
    go_wp2_with fail
    rw [← HW.out]
    refine (l05Code_any n k xs _ _ _ _ hl H.out).mono ?_
    rw [C.out]
    rintro e w1 ⟨rfl, hb1⟩
    have B1 := Lib.hid (HB.out.trans (hb1.mono HB.out.size))
    have H1 := Lib.hid (H.out.keep hb1 (Nat.le_refl _))
    have Z1 := Lib.hid (Z.out.keep hb1)
    obtain ⟨lt, x0, x0'⟩ := X.out.keep hb1
    have hz1 := hb1.size
    clear hb1
    go_wp2_with fail
    clear x0 x0'
    refine (l05Part_any n xs k _ _ _ _ h8 HK.out H1.out).mono ?_
    rintro e w2 ⟨v2, rfl, ho, hb⟩
    obtain ⟨a2, k2, rfl⟩ := ho.form
    obtain ⟨lt2, z0, z1, z2, z3⟩ := Z1.out.keep hb
    have B2 := Lib.hid (B1.out.trans (hb.mono B1.out.size))
    have O2 := Lib.hid ho
    clear ho hb
    go_wp2
    exact bodyPost_ret (v := .tuple #[.agg #[.int .i64 (arV xs (memTo k xs.length)).length, .slice a2 (arV xs (memTo k xs.length)).length k2], .int .i64 0]) (by simp [results, Try.results27, go_sem, z0, z1]) rfl ⟨RF.good C.out (by rw [L.out]) L.out (O2.out.out2 (by omega)) (by omega), (B2.out.setCell (by show _ ≤ _; simp) _).setCell (by show _ ≤ _; simp) _⟩
  · have H0 := Lib.hid h0
    have L := Lib.hid (pr_bad h0)
    clear h0
    obtain ⟨c, hc⟩ : ∃ c, c = cwV n xs m := ⟨_, rfl⟩
    have hcn : (c == 0) = false := by rw [hc]; simpa using H0.out
    have hcn2 : (c != 0) = true := by rw [hc]; simpa using H0.out
    have HC := Lib.hid hc
    clear hc
    go_enter Try.func27, Try.ntmps27
    go_wp2_with fail
    rw [← HW.out]
    refine (l05Code_any n m xs _ _ _ _ hl H.out).mono ?_
    rw [← HC.out]
    rintro e w1 ⟨rfl, hb1⟩
    have B1 := Lib.hid (HB.out.trans (hb1.mono HB.out.size))
    obtain ⟨lt2, z0, z1, z2, z3⟩ := Z.out.keep hb1
    clear hb1
    go_wp2
    exact bodyPost_ret (v := .tuple #[.agg #[.int .i64 0, .slice none 0 0], .int .i64 c]) (by simp [results, Try.results27, go_sem, z0, z1]) rfl ⟨RF.bad' HC.out (by rw [L.out]; rfl) L.out, (B1.out.setCell (by show _ ≤ _; simp) _).setCell (by show _ ≤ _; simp) _⟩

set_option maxHeartbeats 1000000 in
theorem implPartOfFrame_any (n m : Int) (xs : List Int) (a : Option Addr) (len cap : Nat) (w : World) (hl : len ≤ 1048576) (h : At w a len xs) :
    Calls Try.prog 28 #[.agg #[.int .i64 n, .slice a len cap], .int .i64 m] w fun e w' => RF w' w.heap.size (prL n xs m).length (cwV n xs m) (prL n xs m) e ∧ Below w.heap.size w w' := by
  obtain ⟨W, hW, HB, X, Z, hWs⟩ := boxF1 w n a len cap
  have H := Lib.hid (h.keep HB.out (Nat.le_refl _))
  have hz0 : w.heap.size + 1 + 1 ≤ W.heap.size := by omega
  obtain rfl := h.1
  have HW := Lib.hid hW
  clear h hWs hW
  by_cases h0 : cwV n xs m = 0
  · obtain ⟨rfl, h8, -, hm, hmk⟩ := cw_ok h0
    have C := Lib.hid h0
    have L := Lib.hid (pr_ok h0)
    have CD := Lib.hid (show cod xs.length m = 0 by rw [cod_of (by omega) hmk]; rfl)
    have OK := Lib.hid (show LsOk xs.length (memTo m.toNat xs.length) from memTo_ok _ _)
    have hlm : (memTo m.toNat xs.length).length ≤ 30 := Nat.le_trans (memTo_len _ _) (by omega)
    have EM := Lib.hid (show outL (cod xs.length m) (memTo m.toNat ((xs.length : Int)).toNat) = memTo m.toNat xs.length by rw [CD.out, Int.toNat_natCast]; rfl)
    clear hm h0 hmk
    go_enter Try.func28, Try.ntmps28
    go_wp2_with fail
    rw [← HW.out]
    refine (checkWorlds_any _ m xs _ _ _ _ hl H.out).mono ?_
    rw [C.out]
    rintro e w1 ⟨rfl, hb1⟩
    have B1 := Lib.hid (HB.out.trans (hb1.mono HB.out.size))
    have H1 := Lib.hid (H.out.keep hb1 (Nat.le_refl _))
    have Z1 := Lib.hid (Z.out.keep hb1)
    have X1 := Lib.hid (X.out.keep hb1)
    obtain ⟨lt, x0, x0'⟩ := X1.out
    have hz1 := hb1.size
    clear hb1
    go_wp2_with fail
    clear x0 x0'
    refine (implMembersOf_any _ m _).mono ?_
    rw [EM.out, CD.out]
    rintro e w2 ⟨v2, rfl, ho, hb⟩
    obtain ⟨a2, k2, rfl, hat, -, -, -⟩ := ho.at
    have LA := Lib.hid hat
    have B2 := Lib.hid (B1.out.trans (hb.mono B1.out.size))
    have H2 := Lib.hid (H1.out.keep hb (Nat.le_refl _))
    have Z2 := Lib.hid (Z1.out.keep hb)
    obtain ⟨lt', x0, x0'⟩ := X1.out.keep hb
    have hz2 := hb.size
    clear hb ho hat
    go_wp2_with fail
    clear x0 x0'
    refine (arranged_any _ xs _ _ _ _ _ _ _ _ (by omega) hlm OK.out H2.out LA.out).mono ?_
    rintro e w3 ⟨v3, rfl, ho, hb⟩
    obtain ⟨a3, k3, rfl⟩ := ho.form
    obtain ⟨lt2, z0, z1, z2, z3⟩ := Z2.out.keep hb
    have B3 := Lib.hid (B2.out.trans (hb.mono B2.out.size))
    have O3 := Lib.hid ho
    clear ho hb
    go_wp2
    exact bodyPost_ret (v := .tuple #[.agg #[.int .i64 (arV xs (memTo m.toNat xs.length)).length, .slice a3 (arV xs (memTo m.toNat xs.length)).length k3], .int .i64 0]) (by simp [results, Try.results28, go_sem, z0, z1]) rfl ⟨RF.good C.out (by rw [L.out]) L.out (O3.out.out2 (by omega)) (by omega), (B3.out.setCell (by show _ ≤ _; simp) _).setCell (by show _ ≤ _; simp) _⟩
  · have H0 := Lib.hid h0
    have L := Lib.hid (pr_bad h0)
    clear h0
    obtain ⟨c, hc⟩ : ∃ c, c = cwV n xs m := ⟨_, rfl⟩
    have hcn : (c == 0) = false := by rw [hc]; simpa using H0.out
    have hcn2 : (c != 0) = true := by rw [hc]; simpa using H0.out
    have HC := Lib.hid hc
    clear hc
    go_enter Try.func28, Try.ntmps28
    go_wp2_with fail
    rw [← HW.out]
    refine (checkWorlds_any n m xs _ _ _ _ hl H.out).mono ?_
    rw [← HC.out]
    rintro e w1 ⟨rfl, hb1⟩
    have B1 := Lib.hid (HB.out.trans (hb1.mono HB.out.size))
    obtain ⟨lt2, z0, z1, z2, z3⟩ := Z.out.keep hb1
    clear hb1
    go_wp2
    exact bodyPost_ret (v := .tuple #[.agg #[.int .i64 0, .slice none 0 0], .int .i64 c]) (by simp [results, Try.results28, go_sem, z0, z1]) rfl ⟨RF.bad' HC.out (by rw [L.out]; rfl) L.out, (B1.out.setCell (by show _ ≤ _; simp) _).setCell (by show _ ≤ _; simp) _⟩

theorem PartOfFrame_len (n : Int) (xs : List Int) (m : Int) : (prL n xs m).length ≤ 1048576 := by
  by_cases h : cwV n xs m = 0
  · obtain ⟨-, h8, -, -, -⟩ := cw_ok h
    rw [pr_ok h, arV, tab_len]
    have := memTo_len m.toNat xs.length
    omega
  · rw [pr_bad h]; simp
theorem specPartOfFrame_v (n : Int) (xs : List Int) (m : Int) (v : Value) (lo hi : Nat) (w : World) (hl : xs.length ≤ 1048576) (h : InF w lo hi v n xs) :
    Calls Try.prog 27 #[v, .int .i64 m] w fun e w' => ∃ v, e = .returned (.tuple #[v, .int .i64 (cwV n xs m)]) ∧ OwnF w' w.heap.size v (prL n xs m).length (prL n xs m) ∧ Below w.heap.size w w' := by
  obtain ⟨a, cap, rfl, hat, -⟩ := h.at
  exact (specPartOfFrame_any n m xs a _ cap w hl hat).mono fun e w' ⟨⟨v, e1, o⟩, b⟩ => ⟨v, e1, o, b⟩
theorem implPartOfFrame_v (n : Int) (xs : List Int) (m : Int) (v : Value) (lo hi : Nat) (w : World) (hl : xs.length ≤ 1048576) (h : InF w lo hi v n xs) :
    Calls Try.prog 28 #[v, .int .i64 m] w fun e w' => ∃ v, e = .returned (.tuple #[v, .int .i64 (cwV n xs m)]) ∧ OwnF w' w.heap.size v (prL n xs m).length (prL n xs m) ∧ Below w.heap.size w w' := by
  obtain ⟨a, cap, rfl, hat, -⟩ := h.at
  exact (implPartOfFrame_any n m xs a _ cap w hl hat).mono fun e w' ⟨⟨v, e1, o⟩, b⟩ => ⟨v, e1, o, b⟩

end Go.Proofs.Ytkpbcpkapjnchaa
