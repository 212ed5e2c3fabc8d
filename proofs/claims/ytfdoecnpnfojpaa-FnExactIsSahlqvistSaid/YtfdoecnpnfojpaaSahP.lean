/- Contracts of the program's functions that tell a Sahlqvist implication. Conditions: those in the theorems. -/
import Derived.Test.YtfdoecnpnfojpaaSah
import Derived.Test.YtfdoecnpnfojpaaText2
import Derived.Test.YtfdoecnpnfojpaaIsF
namespace Go.Proofs.Ytfdoecnpnfojpaa
open Go.RowKit

set_option maxHeartbeats 1000000 in
theorem mayConc_any (xs : List Nd) (b off len cap : Nat) (w : World) (hl : len ≤ 1048576) (h : AtN w (some ⟨b, off, none⟩) len xs) (f : Fm) (hf : f.ok) (i : Nat) (r : List Nd) (hd : xs.drop i = f.enc ++ r) :
    Calls Try.prog 96 #[.slice (some ⟨b, off, none⟩) len cap, .int .i64 i] w fun e w' => e = .returned (.bool f.cn1) ∧ w = w' := by
  have T := Lib.hid (isTruthAt_any xs b off len cap w hl h f hf i r hd)
  obtain ⟨hi, hb, c1⟩ := h.kindAt hd
  clear h hd
  obtain ⟨k, hk⟩ : ∃ k, k = f.kind := ⟨_, rfl⟩
  have HV := Lib.hid (show f.cn1 = (k != 4 || f.isTr) by rw [hk]; rfl)
  rw [← hk] at c1
  clear hk
  cases h4 : (k == 4)
  · have h4' : (k != 4) = true := by simpa using h4
    have E := Lib.hid (show f.cn1 = true by rw [HV.out, h4']; rfl)
    go_enter Try.func96, Try.ntmps96
    go_wp2
    go_ret
    exact ⟨ret_bool E.out.symm, rfl⟩
  · have h4' : (k != 4) = false := by simpa using h4
    have E := Lib.hid (show f.cn1 = f.isTr by rw [HV.out, h4']; rfl)
    go_enter Try.func96, Try.ntmps96
    go_wp2_with (go_at_call 134; refine T.out.mono ?_; rintro e w' ⟨rfl, rfl⟩)
    go_ret
    exact ⟨ret_bool E.out.symm, rfl⟩

set_option maxHeartbeats 1000000 in
theorem mayPrem_any (xs : List Nd) (b off len cap : Nat) (w : World) (hl : len ≤ 1048576) (h : AtN w (some ⟨b, off, none⟩) len xs) (f : Fm) (hf : f.ok) (i : Nat) (r : List Nd) (hd : xs.drop i = f.enc ++ r) :
    Calls Try.prog 95 #[.slice (some ⟨b, off, none⟩) len cap, .int .i64 i] w fun e w' => e = .returned (.bool f.pm1) ∧ w = w' := by
  have T := Lib.hid (mayConc_any xs b off len cap w hl h f hf i r hd)
  obtain ⟨hi, hb, c1⟩ := h.kindAt hd
  by_cases h5 : f.kind = 5
  · cases f with
    | va s => simp [Fm.kind] at h5
    | fa => simp [Fm.kind] at h5
    | bi k x y => exfalso; have e : k = 5 := h5; have := hf.1; omega
    | un k a =>
      obtain rfl : k = 5 := h5
      have hd1 : xs.drop (i + 1) = a.enc ++ r := drop_next (x := (5, 0)) (by rw [hd]; simp [Fm.enc])
      obtain ⟨hi2, -, c2⟩ := h.kindAt hd1
      have HV := Lib.hid (show (Fm.un 5 a).pm1 = (a.kind == 5 || a.kind == 0) by rw [Fm.pm1, if_pos rfl])
      obtain ⟨k, hk⟩ : ∃ k, k = a.kind := ⟨_, rfl⟩
      rw [← hk] at c2 HV
      replace c1 : w.cell? ⟨b, off + i * 2, none⟩ = some (.int .i64 5) := c1
      clear h hd hd1 hk
      cases h5 : (k == 5)
      · have E := Lib.hid (show (Fm.un 5 a).pm1 = (k == 0) by rw [HV.out, h5, Bool.false_or])
        go_enter Try.func95, Try.ntmps95
        go_wp2
        go_ret
        exact ⟨ret_bool E.out.symm, rfl⟩
      · have E := Lib.hid (show (Fm.un 5 a).pm1 = true by rw [HV.out, h5]; rfl)
        go_enter Try.func95, Try.ntmps95
        go_wp2
        go_ret
        exact ⟨ret_bool E.out.symm, rfl⟩
  · by_cases h3 : f.kind = 3
    · have E := Lib.hid (show f.pm1 = false by
        cases f with
        | va s => simp [Fm.kind] at h3
        | fa => simp [Fm.kind] at h3
        | bi k x y => obtain rfl : k = 3 := h3; rw [Fm.pm1, if_pos rfl]
        | un k a => exfalso; have e : k = 3 := h3; have := hf.1; omega)
      rw [h3] at c1
      clear h hd h5 h3
      go_enter Try.func95, Try.ntmps95
      go_wp2
      go_ret
      exact ⟨ret_bool E.out.symm, rfl⟩
    · have E := Lib.hid (show f.pm1 = f.cn1 by
        cases f with
        | va s => rfl
        | fa => rfl
        | bi k x y => have e : k ≠ 3 := h3; rw [Fm.pm1, if_neg e]; rfl
        | un k a =>
          have e : k ≠ 5 := h5
          rw [Fm.pm1, if_neg e]
          rcases hf.1 with h | h
          · exact absurd h e
          · subst h; rfl)
      have e5 : (f.kind == 5) = false := by simpa using h5
      have e3 : (f.kind == 3) = false := by simpa using h3
      obtain ⟨k, hk⟩ : ∃ k, k = f.kind := ⟨_, rfl⟩
      obtain ⟨v, hv⟩ : ∃ v, v = f.cn1 := ⟨_, rfl⟩
      rw [← hk] at c1 e5 e3
      rw [← hv] at T E
      clear h hd hk h5 h3 hv
      go_enter Try.func95, Try.ntmps95
      go_wp2_with (go_at_call 96; refine T.out.mono ?_; rintro e w' ⟨rfl, rfl⟩)
      go_ret
      exact ⟨ret_bool E.out.symm, rfl⟩

set_option maxHeartbeats 2000000 in
theorem isSahlqvist_any (f : Fm) (hf : f.ok) (hz : f.sz ≤ 40) (b off len cap : Nat) (w : World) (hl : len ≤ 1048576) (h : AtF w b off len cap f) :
    Calls Try.prog 64 #[.slice (some ⟨b, off, none⟩) len cap] w fun e w' => e = .returned (.bool f.sah) ∧ w = w' := by
  obtain ⟨hb, c1, c2⟩ := h.head
  have hlen := h.len
  have h0 : 0 < len := by rw [hlen]; exact Fm.sz_pos _
  by_cases hk : f.kind = 4
  · cases f with
    | va s => simp [Fm.kind] at hk
    | fa => simp [Fm.kind] at hk
    | un k a => exfalso; have e : k = 4 := hk; have := hf.1; omega
    | bi k x y =>
      obtain rfl : k = 4 := hk
      have hs : (Fm.bi 4 x y).sz = 1 + x.sz + y.sz := rfl
      have hpe : pe (Fm.bi 4 x y).enc (len - 1) 1 1 = ((1 + x.sz : Nat) : Int) := by
        have := pe_end x hf.2.1 (xs := (Fm.bi 4 x y).enc) (i := 1) (r := y.enc) (by simp [Fm.enc])
        rw [Fm.enc_len, ← hlen] at this
        exact this
      have PE := Lib.hid (partEnd_any (Fm.bi 4 x y).enc (some ⟨b, off, none⟩) len cap 1 _ w hl (by omega) h.1 hpe (by omega))
      have SB : ∀ j, j < len → ∃ (g : Fm) (s : List Nd), g.ok ∧ (Fm.bi 4 x y).enc.drop j = g.enc ++ s := fun j hj => sub_at (fm_is _ hf hz) (by rw [Fm.enc_len, ← hlen]; exact hj)
      have SBH := Lib.hid SB
      have MC := Lib.hid (mayConc_any (Fm.bi 4 x y).enc b off len cap w hl h.1)
      have MP := Lib.hid (mayPrem_any (Fm.bi 4 x y).enc b off len cap w hl h.1)
      obtain ⟨c, hc⟩ : ∃ c, c = 1 + x.sz := ⟨_, rfl⟩
      have hcl : c ≤ len := by omega
      have SA := Lib.hid (fun (hh : sawF (Fm.bi 4 x y).enc c len) => saw_all hf.2.1 hf.2.2 (by rw [← hc, ← hlen]; exact hh))
      have SX := Lib.hid (fun (j : Nat) (g0 : 1 ≤ j) (g1 : j < len) (g : Fm) (s : List Nd) (hg : g.ok) (hd : (Fm.bi 4 x y).enc.drop j = g.enc ++ s) (hh : (if j < c then g.pm1 else g.cn1) = false) => saw_bad hf.2.1 hf.2.2 g0 (by rw [← hlen]; exact g1) hg hd (by rw [← hc]; exact hh))
      rw [← hc] at PE
      replace c1 : w.cell? ⟨b, off, none⟩ = some (.int .i64 4) := c1
      obtain ⟨r, hr⟩ : ∃ r, r = (Fm.bi 4 x y).sah := ⟨_, rfl⟩
      rw [← hr] at SA SX ⊢
      obtain ⟨xs, hxs⟩ : ∃ xs, xs = (Fm.bi 4 x y).enc := ⟨_, rfl⟩
      rw [← hxs] at SBH MC MP SA SX
      clear h hlen c2 hs hpe hc SB hr hxs hz hf
      go_enter Try.func64, Try.ntmps64
      go_wp2_with (go_at_call 94; refine PE.out.mono ?_; rintro e w' ⟨rfl, rfl⟩)
      go_loop [4] (fun i => ∃ k : Nat, 1 ≤ k ∧ k ≤ len ∧ i = .int .i64 k ∧ Hid (sawF xs c k)) (fun i => len - (intOf i).toNat)
      case atStart => exact ⟨1, Nat.le_refl _, h0, rfl, Lib.hid (fun j h1 h2 => absurd h2 (by omega))⟩
      case round =>
        obtain ⟨k, hk1, hk, rfl, HS⟩ := hrel
        by_cases hlt : k < len
        · obtain ⟨g, s, hg, hd⟩ := SBH.out k hlt
          have GC := Lib.hid (MC.out g hg k s hd)
          have GP := Lib.hid (MP.out g hg k s hd)
          have HD := Lib.hid hd
          have HG := Lib.hid hg
          clear hd hg
          have NX : (if k < c then g.pm1 else g.cn1) = true → sawF xs c (k + 1) := by
            intro ht j h1 h2 g' s' hg' hd'
            by_cases e : j = k
            · subst e
              obtain ⟨rfl, -⟩ := enc_inj g HG.out g' s s' hg' (HD.out.symm.trans hd')
              exact ht
            · exact HS.out j h1 (by omega) g' s' hg' hd'
          have BAD := fun hh => SX.out k hk1 hlt g s HG.out HD.out hh
          by_cases hc : k < c
          · rw [if_pos hc] at NX BAD
            cases hp : g.pm1
            · have E := Lib.hid (BAD hp)
              rw [hp] at GP
              clear NX BAD
              go_wp2_with (first | (go_at_call 95; refine GP.out.mono ?_; rintro e w' ⟨rfl, rfl⟩) | (go_at_call 96; refine GC.out.mono ?_; rintro e w' ⟨rfl, rfl⟩))
              go_ret
              exact ⟨ret_bool E.out.symm, rfl⟩
            · have E := Lib.hid (NX hp)
              rw [hp] at GP
              rw [pm_cn HG.out hp] at GC
              clear NX BAD hp
              go_wp2_with (first | (go_at_call 95; refine GP.out.mono ?_; rintro e w' ⟨rfl, rfl⟩) | (go_at_call 96; refine GC.out.mono ?_; rintro e w' ⟨rfl, rfl⟩))
              go_round
              case rel => exact ⟨k + 1, by omega, by omega, by go_num, E⟩
              case measure => simp [intOf]; omega
          · rw [if_neg hc] at NX BAD
            cases hp : g.cn1
            · have E := Lib.hid (BAD hp)
              rw [hp] at GC
              clear NX BAD
              go_wp2_with (first | (go_at_call 96; refine GC.out.mono ?_; rintro e w' ⟨rfl, rfl⟩))
              go_ret
              exact ⟨ret_bool E.out.symm, rfl⟩
            · have E := Lib.hid (NX hp)
              rw [hp] at GC
              clear NX BAD hp
              go_wp2_with (first | (go_at_call 96; refine GC.out.mono ?_; rintro e w' ⟨rfl, rfl⟩))
              go_round
              case rel => exact ⟨k + 1, by omega, by omega, by go_num, E⟩
              case measure => simp [intOf]; omega
        · obtain rfl : k = len := by omega
          have E := Lib.hid (SA.out HS.out)
          go_wp2
          go_ret
          exact ⟨ret_bool E.out.symm, rfl⟩
  · have hv : f.sah = false := by
      cases f with
      | bi k x y => show ((k == 4) && x.fro && y.pos) = false; rw [show (k == 4) = false from by (have h4 : k ≠ 4 := hk; simpa using h4)]; rfl
      | _ => rfl
    have HV := Lib.hid hv
    have k4 : (f.kind == 4) = false := by simpa using hk
    have k4' : (f.kind != 4) = true := by simpa using hk
    obtain ⟨k, hkk⟩ : ∃ k, k = f.kind := ⟨_, rfl⟩
    rw [← hkk] at c1 k4 k4'
    clear h hlen c2 hv hk hkk
    go_enter Try.func64, Try.ntmps64
    go_wp2
    go_ret
    exact ⟨ret_bool HV.out.symm, rfl⟩

end Go.Proofs.Ytfdoecnpnfojpaa
