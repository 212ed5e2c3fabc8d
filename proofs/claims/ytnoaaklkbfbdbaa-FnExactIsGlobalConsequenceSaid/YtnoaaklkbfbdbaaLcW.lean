/- What the model answers for local and global consequences. Conditions: those in the theorems. -/
import Derived.Deep.RegionHeld3
import Derived.Test.YtnoaaklkbfbdbaaLcV
import Derived.Test.YtnoaaklkbfbdbaaLcS
import Derived.Test.YtnoaaklkbfbdbaaLcU
import Derived.Test.YtnoaaklkbfbdbaaJn18
namespace Go.Proofs.Ytnoaaklkbfbdbaa
open Go.RowKit

set_option maxHeartbeats 8000000 in
set_option maxRecDepth 100000 in
theorem specIsLocalConsequence_v (n0 : Int) (xs : List Int) (xss : List (List Nd)) (zs : List Nd) (v0 : Value) (lo0 hi0 : Nat) (v1 : Value) (lo1 hi1 : Nat) (v2 : Value) (lo2 hi2 : Nat) (w : World) (hl0 : xs.length ≤ 1048576) (hl1 : xss.length ≤ 1048576 ∧ szTo xss xss.length ≤ 1048576) (hl2 : zs.length ≤ 1048576) (h0 : InF w lo0 hi0 v0 n0 xs) (h1 : InNN w lo1 hi1 v1 xss) (h2 : InN w lo2 hi2 v2 zs) :
    Calls Try.prog 17 #[v0, v1, v2] w fun e w' => e = .returned (.tuple #[.bool (lcV n0 xs xss zs), .int .i64 (cqC n0 xs xss zs)]) ∧ Below w.heap.size w w' := by
  obtain ⟨a0, c0, rfl, hat0, -⟩ := h0.at
  obtain ⟨p, c, rfl, hc0, hat1⟩ := h1.atC
  obtain ⟨a1, c1, rfl, hn, hc1, hc2⟩ := h2.at'
  obtain ⟨W, hW, HB, X⟩ : ∃ W : World, W = w.alloc (.cells #[.int .i64 n0, .slice a0 xs.length c0] 30) ∧ Hid (Below w.heap.size w W) ∧ Hid (Bx W w.heap.size n0 a0 xs.length c0) := ⟨_, rfl, Lib.hid (alloc_keep _ _).1, Lib.hid (Bx.new _ _ _ _ _ _)⟩
  have HW := Lib.hid hW
  have H0 := Lib.hid (hat0.keep HB.out (Nat.le_refl _))
  have H := Lib.hid (hat1.keep HB.out (Nat.le_refl _))
  have HZ := Lib.hid (hn.keep HB.out (Nat.le_refl _))
  have HI := Lib.hid (hi_snoc hl1.2 hl2)
  have hl := hl1.1
  have OWA := Lib.hid (show (W.drew.alloc (.cells #[] 32)).ownsRow W.heap.size 32 1 (.slice (some ⟨W.heap.size, 0, none⟩) 0 0) 0 [] from World.ownsRow_made W.drew #[] 0 (Nat.le_refl _) (Nat.zero_le _) rfl)
  have BA := Lib.hid (show Below W.heap.size W (W.drew.alloc (.cells #[] 32)) from (below_drewN (Below.refl W.heap.size W) 1).alloc (Nat.le_refl _) _)
  have OWB := Lib.hid (show ((W.drew.alloc (.cells #[] 32)).alloc (.cells #[.slice a1 zs.length c1] 32)).ownsRow W.heap.size 32 1 (.slice (some ⟨W.heap.size, 0, none⟩) 0 0) 0 [] from World.ownsRow.alloc OWA.out _)
  have BB := Lib.hid (show Below W.heap.size W ((W.drew.alloc (.cells #[] 32)).alloc (.cells #[.slice a1 zs.length c1] 32)) from BA.out.alloc BA.out.size _)
  have BC1 := Lib.hid (show Below W.heap.size W (W.drew.alloc (.cells #[.slice a1 zs.length c1] 32)) from (below_drewN (Below.refl W.heap.size W) 1).alloc (Nat.le_refl _) _)
  have OWC := Lib.hid (show ((W.drew.alloc (.cells #[.slice a1 zs.length c1] 32)).alloc (.cells #[] 32)).ownsRow W.heap.size 32 1 (.slice (some ⟨W.heap.size + 1, 0, none⟩) 0 0) 0 [] by
    have q := World.ownsRow_made (base := W.heap.size) (size := 1) (e := 32) (W.drew.alloc (.cells #[.slice a1 zs.length c1] 32)) #[] 0 BC1.out.size (Nat.zero_le _) rfl
    simpa using q)
  have BC := Lib.hid (show Below W.heap.size W ((W.drew.alloc (.cells #[.slice a1 zs.length c1] 32)).alloc (.cells #[] 32)) from BC1.out.alloc BC1.out.size _)
  have CB := Lib.hid (show ((W.drew.alloc (.cells #[] 32)).alloc (.cells #[.slice a1 zs.length c1] 32)).cell? ⟨W.heap.size + 1, 0, none⟩ = some (.slice a1 zs.length c1) from World.cell?_alloc_at _ _ _ _ (by simp))
  have CC := Lib.hid (show ((W.drew.alloc (.cells #[.slice a1 zs.length c1] 32)).alloc (.cells #[] 32)).cell? ⟨W.heap.size, 0, none⟩ = some (.slice a1 zs.length c1) from ((alloc_keep (W.drew.alloc (.cells #[.slice a1 zs.length c1] 32)) (.cells #[] 32)).1.cell (p := ⟨W.heap.size, 0, none⟩) (by show W.heap.size < _; simp)).trans (World.cell?_alloc_new _ _ _ 0))
  obtain ⟨jc, hj⟩ : ∃ j, j = cqC n0 xs xss zs := ⟨_, rfl⟩
  have LC := Lib.hid (fun (a2 : Option Addr) (c2 : Nat) (w' : World) (hT : Below W.heap.size W w') (hA : AtNN w' a2 (xss.length + 1) (xss ++ [zs])) => show Calls Try.prog 36 #[.agg #[.int .i64 n0, .slice a0 xs.length c0], .slice a2 (xss.length + 1) c2] w' fun e w'' => e = .returned (.int .i64 jc) ∧ Below w'.heap.size w' w'' by
    rw [hj]; exact l06Code_any n0 xs (xss ++ [zs]) a0 c0 a2 (xss.length + 1) c2 w' hl0 (by omega) HI.out (H0.out.keep hT (Nat.le_refl _)) hA)
  by_cases hz : jc = 0
  · have hz2 : cqC n0 xs xss zs = 0 := by rw [← hj, hz]
    obtain ⟨hf, hok, h16'⟩ := csC_ok hz2
    obtain ⟨hnn, h8, -, hr⟩ := frB_ok hf
    subst hnn
    have h16 : xs.length * (vrM (xss ++ [zs]) (xss.length + 1)).length ≤ 16 := by
      have q := h16'
      simp only [← Int.natCast_mul] at q
      omega
    obtain ⟨b1, o1, ea1, hf1⟩ := AtN.fm' HZ.out hc1 hc2 (okAll_pre hok).2
    subst ea1
    have FO := Lib.hid (fun w' (hw : Below W.heap.size W w') => l06FollowsL_any xs xss zs a0 c0 p c b1 o1 c1 w' h8 h16 hr hok hl HI.out (H0.out.keep hw (Nat.le_refl _)) (H.out.keep hw (Nat.le_refl _)) (HZ.out.keep hw (Nat.le_refl _)) hc1 hc2 (hf1.keep hw (Nat.le_refl _)))
    have RV := Lib.hid (show Ending.returned (.tuple #[.bool (noB _ (cqN xs xss zs)), .int .i64 0]) = .returned (.tuple #[.bool (lcV xs.length xs xss zs), .int .i64 (cqC xs.length xs xss zs)]) by rw [lcV, cqV, hz2, decide_eq_true rfl, Bool.true_and])
    subst hz
    clear h0 h1 h2 hat0 hat1 hn hW hl1 hj hz2 hf hok h16' hr h16 hf1
    obtain ⟨lt0, x0, x1⟩ := X.out
    go_enter Try.func17, Try.ntmps17
    go_wp2_with fail
    rw [← HW.out]
    go_region_held3 (fun w' => w'.cell? ⟨w.heap.size, 0, none⟩ = some (.int .i64 xs.length) ∧ w'.cell? ⟨w.heap.size, 1, none⟩ = some (.slice a0 xs.length c0)) (first | exact ⟨z0, z1⟩ | exact ⟨u0, u1⟩ | exact ⟨y0, y1⟩ | exact ⟨x0, x1⟩ | go_keep) (first
      | (refine step_appSh (wr := W) rfl _ _ rfl W.heap.size W.heap.size 0 (by go_simp) OWA.out xss p xss.length c (by go_simp) H.out (Nat.le_refl _) BA.out hl BA.out.size ?_; intro va w1 us hr1 hsh1 hb1 hs1 hg1; have R1 := Lib.hid hr1; have S1 := Lib.hid hsh1; have B1 := Lib.hid hb1; have Z1 := Lib.hid hs1; clear hr1 hsh1 hb1 hs1 hg1; obtain ⟨ly, y0, y1⟩ := X.out.keep B1.out)
      | (refine step_appSh (wr := W) rfl _ _ rfl W.heap.size W.heap.size 0 (by go_simp) OWB.out xss p xss.length c (by go_simp) H.out (Nat.le_refl _) BB.out hl BB.out.size ?_; intro va w1 us hr1 hsh1 hb1 hs1 hg1; have R1 := Lib.hid hr1; have S1 := Lib.hid hsh1; have B1 := Lib.hid hb1; have Z1 := Lib.hid hs1; have C1 := Lib.hid (hg1.cell CB.out (by simp)); clear hr1 hsh1 hb1 hs1 hg1; obtain ⟨ly, y0, y1⟩ := X.out.keep B1.out)
      | (refine step_appSh (wr := W) rfl _ _ rfl W.heap.size (W.heap.size + 1) 0 (by go_simp) OWC.out xss p xss.length c (by go_simp) H.out (Nat.le_refl _) BC.out hl BC.out.size ?_; intro va w1 us hr1 hsh1 hb1 hs1 hg1; have R1 := Lib.hid hr1; have S1 := Lib.hid hsh1; have B1 := Lib.hid hb1; have Z1 := Lib.hid hs1; have C1 := Lib.hid (hg1.cell CC.out (by simp)); clear hr1 hsh1 hb1 hs1 hg1; obtain ⟨ly, y0, y1⟩ := X.out.keep B1.out)
      | (refine step_appSh1 (wr := W) rfl _ _ rfl W.heap.size va (by go_simp) us xss xss.length R1.out S1.out rfl (Nat.le_refl _) B1.out Z1.out hl (some ⟨b1, o1, none⟩) zs c1 HZ.out hc1 hc2 ⟨_, 0, none⟩ C1.out 1 (by go_simp) ?_; intro a2 c2 w2 hat2 hb2 hs2; have A2 := Lib.hid hat2.nn; have T2 := Lib.hid hb2; clear hat2 hb2 hs2; obtain ⟨lu, u0, u1⟩ := X.out.keep T2.out)
      | (refine step_appSh1 (wr := W) rfl _ _ rfl W.heap.size va (by go_simp) us xss xss.length (World.ownsRow.alloc R1.out (.cells #[.slice (some ⟨b1, o1, none⟩) zs.length c1] 32)) S1.out rfl (Nat.le_refl _) (B1.out.alloc Z1.out _) (Nat.le_trans Z1.out (alloc_keep _ _).1.size) hl (some ⟨b1, o1, none⟩) zs c1 HZ.out hc1 hc2 ⟨w1.heap.size, 0, none⟩ (World.cell?_alloc_at _ _ _ _ rfl) 1 (by go_simp) ?_; intro a2 c2 w2 hat2 hb2 hs2; have A2 := Lib.hid hat2.nn; have T2 := Lib.hid hb2; clear hat2 hb2 hs2; obtain ⟨lu, u0, u1⟩ := X.out.keep T2.out)
      | (go_at_call 36; refine (LC.out a2 c2 _ T2.out A2.out).mono ?_; rintro e w3 ⟨rfl, hb⟩; have T3 := Lib.hid (T2.out.trans (hb.mono T2.out.size)); clear hb; obtain ⟨lz, z0, z1⟩ := X.out.keep T3.out))
    all_goals
      go_wp2_with fail
      refine (FO.out _ T3.out).mono ?_
      rintro e w4 ⟨rfl, hb⟩
      have T4 := Lib.hid (T3.out.trans (hb.mono T3.out.size))
      clear hb
      go_wp2
      go_ret2
      exact ⟨RV.out, HB.out.trans (T4.out.mono HB.out.size)⟩
  · have RV := Lib.hid (show Ending.returned (.tuple #[.bool false, .int .i64 jc]) = .returned (.tuple #[.bool (lcV n0 xs xss zs), .int .i64 (cqC n0 xs xss zs)]) by rw [lcV, cqV, ← hj, decide_eq_false hz, Bool.false_and])
    clear h0 h1 h2 hat0 hat1 hn hW hl1 hj
    obtain ⟨lt0, x0, x1⟩ := X.out
    go_enter Try.func17, Try.ntmps17
    go_wp2_with fail
    rw [← HW.out]
    go_region_held3 (fun w' => w'.cell? ⟨w.heap.size, 0, none⟩ = some (.int .i64 n0) ∧ w'.cell? ⟨w.heap.size, 1, none⟩ = some (.slice a0 xs.length c0)) (first | exact ⟨z0, z1⟩ | exact ⟨u0, u1⟩ | exact ⟨y0, y1⟩ | exact ⟨x0, x1⟩ | go_keep) (first
      | (refine step_appSh (wr := W) rfl _ _ rfl W.heap.size W.heap.size 0 (by go_simp) OWA.out xss p xss.length c (by go_simp) H.out (Nat.le_refl _) BA.out hl BA.out.size ?_; intro va w1 us hr1 hsh1 hb1 hs1 hg1; have R1 := Lib.hid hr1; have S1 := Lib.hid hsh1; have B1 := Lib.hid hb1; have Z1 := Lib.hid hs1; clear hr1 hsh1 hb1 hs1 hg1; obtain ⟨ly, y0, y1⟩ := X.out.keep B1.out)
      | (refine step_appSh (wr := W) rfl _ _ rfl W.heap.size W.heap.size 0 (by go_simp) OWB.out xss p xss.length c (by go_simp) H.out (Nat.le_refl _) BB.out hl BB.out.size ?_; intro va w1 us hr1 hsh1 hb1 hs1 hg1; have R1 := Lib.hid hr1; have S1 := Lib.hid hsh1; have B1 := Lib.hid hb1; have Z1 := Lib.hid hs1; have C1 := Lib.hid (hg1.cell CB.out (by simp)); clear hr1 hsh1 hb1 hs1 hg1; obtain ⟨ly, y0, y1⟩ := X.out.keep B1.out)
      | (refine step_appSh (wr := W) rfl _ _ rfl W.heap.size (W.heap.size + 1) 0 (by go_simp) OWC.out xss p xss.length c (by go_simp) H.out (Nat.le_refl _) BC.out hl BC.out.size ?_; intro va w1 us hr1 hsh1 hb1 hs1 hg1; have R1 := Lib.hid hr1; have S1 := Lib.hid hsh1; have B1 := Lib.hid hb1; have Z1 := Lib.hid hs1; have C1 := Lib.hid (hg1.cell CC.out (by simp)); clear hr1 hsh1 hb1 hs1 hg1; obtain ⟨ly, y0, y1⟩ := X.out.keep B1.out)
      | (refine step_appSh1 (wr := W) rfl _ _ rfl W.heap.size va (by go_simp) us xss xss.length R1.out S1.out rfl (Nat.le_refl _) B1.out Z1.out hl a1 zs c1 HZ.out hc1 hc2 ⟨_, 0, none⟩ C1.out 1 (by go_simp) ?_; intro a2 c2 w2 hat2 hb2 hs2; have A2 := Lib.hid hat2.nn; have T2 := Lib.hid hb2; clear hat2 hb2 hs2; obtain ⟨lu, u0, u1⟩ := X.out.keep T2.out)
      | (refine step_appSh1 (wr := W) rfl _ _ rfl W.heap.size va (by go_simp) us xss xss.length (World.ownsRow.alloc R1.out (.cells #[.slice a1 zs.length c1] 32)) S1.out rfl (Nat.le_refl _) (B1.out.alloc Z1.out _) (Nat.le_trans Z1.out (alloc_keep _ _).1.size) hl a1 zs c1 HZ.out hc1 hc2 ⟨w1.heap.size, 0, none⟩ (World.cell?_alloc_at _ _ _ _ rfl) 1 (by go_simp) ?_; intro a2 c2 w2 hat2 hb2 hs2; have A2 := Lib.hid hat2.nn; have T2 := Lib.hid hb2; clear hat2 hb2 hs2; obtain ⟨lu, u0, u1⟩ := X.out.keep T2.out)
      | (go_at_call 36; refine (LC.out a2 c2 _ T2.out A2.out).mono ?_; rintro e w3 ⟨rfl, hb⟩; have T3 := Lib.hid (T2.out.trans (hb.mono T2.out.size)); clear hb; obtain ⟨lz, z0, z1⟩ := X.out.keep T3.out))
    all_goals
      go_wp2
      go_ret2
      exact ⟨RV.out, HB.out.trans (T3.out.mono HB.out.size)⟩

set_option maxHeartbeats 8000000 in
set_option maxRecDepth 100000 in
theorem specIsGlobalConsequence_v (n0 : Int) (xs : List Int) (xss : List (List Nd)) (zs : List Nd) (v0 : Value) (lo0 hi0 : Nat) (v1 : Value) (lo1 hi1 : Nat) (v2 : Value) (lo2 hi2 : Nat) (w : World) (hl0 : xs.length ≤ 1048576) (hl1 : xss.length ≤ 1048576 ∧ szTo xss xss.length ≤ 1048576) (hl2 : zs.length ≤ 1048576) (h0 : InF w lo0 hi0 v0 n0 xs) (h1 : InNN w lo1 hi1 v1 xss) (h2 : InN w lo2 hi2 v2 zs) :
    Calls Try.prog 21 #[v0, v1, v2] w fun e w' => e = .returned (.tuple #[.bool (gcV n0 xs xss zs), .int .i64 (cqC n0 xs xss zs)]) ∧ Below w.heap.size w w' := by
  obtain ⟨a0, c0, rfl, hat0, -⟩ := h0.at
  obtain ⟨p, c, rfl, hc0, hat1⟩ := h1.atC
  obtain ⟨a1, c1, rfl, hn, hc1, hc2⟩ := h2.at'
  obtain ⟨W, hW, HB, X⟩ : ∃ W : World, W = w.alloc (.cells #[.int .i64 n0, .slice a0 xs.length c0] 30) ∧ Hid (Below w.heap.size w W) ∧ Hid (Bx W w.heap.size n0 a0 xs.length c0) := ⟨_, rfl, Lib.hid (alloc_keep _ _).1, Lib.hid (Bx.new _ _ _ _ _ _)⟩
  have HW := Lib.hid hW
  have H0 := Lib.hid (hat0.keep HB.out (Nat.le_refl _))
  have H := Lib.hid (hat1.keep HB.out (Nat.le_refl _))
  have HZ := Lib.hid (hn.keep HB.out (Nat.le_refl _))
  have HI := Lib.hid (hi_snoc hl1.2 hl2)
  have hl := hl1.1
  have OWA := Lib.hid (show (W.drew.alloc (.cells #[] 32)).ownsRow W.heap.size 32 1 (.slice (some ⟨W.heap.size, 0, none⟩) 0 0) 0 [] from World.ownsRow_made W.drew #[] 0 (Nat.le_refl _) (Nat.zero_le _) rfl)
  have BA := Lib.hid (show Below W.heap.size W (W.drew.alloc (.cells #[] 32)) from (below_drewN (Below.refl W.heap.size W) 1).alloc (Nat.le_refl _) _)
  have OWB := Lib.hid (show ((W.drew.alloc (.cells #[] 32)).alloc (.cells #[.slice a1 zs.length c1] 32)).ownsRow W.heap.size 32 1 (.slice (some ⟨W.heap.size, 0, none⟩) 0 0) 0 [] from World.ownsRow.alloc OWA.out _)
  have BB := Lib.hid (show Below W.heap.size W ((W.drew.alloc (.cells #[] 32)).alloc (.cells #[.slice a1 zs.length c1] 32)) from BA.out.alloc BA.out.size _)
  have BC1 := Lib.hid (show Below W.heap.size W (W.drew.alloc (.cells #[.slice a1 zs.length c1] 32)) from (below_drewN (Below.refl W.heap.size W) 1).alloc (Nat.le_refl _) _)
  have OWC := Lib.hid (show ((W.drew.alloc (.cells #[.slice a1 zs.length c1] 32)).alloc (.cells #[] 32)).ownsRow W.heap.size 32 1 (.slice (some ⟨W.heap.size + 1, 0, none⟩) 0 0) 0 [] by
    have q := World.ownsRow_made (base := W.heap.size) (size := 1) (e := 32) (W.drew.alloc (.cells #[.slice a1 zs.length c1] 32)) #[] 0 BC1.out.size (Nat.zero_le _) rfl
    simpa using q)
  have BC := Lib.hid (show Below W.heap.size W ((W.drew.alloc (.cells #[.slice a1 zs.length c1] 32)).alloc (.cells #[] 32)) from BC1.out.alloc BC1.out.size _)
  have CB := Lib.hid (show ((W.drew.alloc (.cells #[] 32)).alloc (.cells #[.slice a1 zs.length c1] 32)).cell? ⟨W.heap.size + 1, 0, none⟩ = some (.slice a1 zs.length c1) from World.cell?_alloc_at _ _ _ _ (by simp))
  have CC := Lib.hid (show ((W.drew.alloc (.cells #[.slice a1 zs.length c1] 32)).alloc (.cells #[] 32)).cell? ⟨W.heap.size, 0, none⟩ = some (.slice a1 zs.length c1) from ((alloc_keep (W.drew.alloc (.cells #[.slice a1 zs.length c1] 32)) (.cells #[] 32)).1.cell (p := ⟨W.heap.size, 0, none⟩) (by show W.heap.size < _; simp)).trans (World.cell?_alloc_new _ _ _ 0))
  obtain ⟨jc, hj⟩ : ∃ j, j = cqC n0 xs xss zs := ⟨_, rfl⟩
  have LC := Lib.hid (fun (a2 : Option Addr) (c2 : Nat) (w' : World) (hT : Below W.heap.size W w') (hA : AtNN w' a2 (xss.length + 1) (xss ++ [zs])) => show Calls Try.prog 36 #[.agg #[.int .i64 n0, .slice a0 xs.length c0], .slice a2 (xss.length + 1) c2] w' fun e w'' => e = .returned (.int .i64 jc) ∧ Below w'.heap.size w' w'' by
    rw [hj]; exact l06Code_any n0 xs (xss ++ [zs]) a0 c0 a2 (xss.length + 1) c2 w' hl0 (by omega) HI.out (H0.out.keep hT (Nat.le_refl _)) hA)
  by_cases hz : jc = 0
  · have hz2 : cqC n0 xs xss zs = 0 := by rw [← hj, hz]
    obtain ⟨hf, hok, h16'⟩ := csC_ok hz2
    obtain ⟨hnn, h8, -, hr⟩ := frB_ok hf
    subst hnn
    have h16 : xs.length * (vrM (xss ++ [zs]) (xss.length + 1)).length ≤ 16 := by
      have q := h16'
      simp only [← Int.natCast_mul] at q
      omega
    obtain ⟨b1, o1, ea1, hf1⟩ := AtN.fm' HZ.out hc1 hc2 (okAll_pre hok).2
    subst ea1
    have FO := Lib.hid (fun w' (hw : Below W.heap.size W w') => l06FollowsG_any xs xss zs a0 c0 p c b1 o1 c1 w' h8 h16 hr hok hl HI.out (H0.out.keep hw (Nat.le_refl _)) (H.out.keep hw (Nat.le_refl _)) (HZ.out.keep hw (Nat.le_refl _)) hc1 hc2 (hf1.keep hw (Nat.le_refl _)))
    have RV := Lib.hid (show Ending.returned (.tuple #[.bool (noB _ (cqN xs xss zs)), .int .i64 0]) = .returned (.tuple #[.bool (gcV xs.length xs xss zs), .int .i64 (cqC xs.length xs xss zs)]) by rw [gcV, cqV, hz2, decide_eq_true rfl, Bool.true_and])
    subst hz
    clear h0 h1 h2 hat0 hat1 hn hW hl1 hj hz2 hf hok h16' hr h16 hf1
    obtain ⟨lt0, x0, x1⟩ := X.out
    go_enter Try.func21, Try.ntmps21
    go_wp2_with fail
    rw [← HW.out]
    go_region_held3 (fun w' => w'.cell? ⟨w.heap.size, 0, none⟩ = some (.int .i64 xs.length) ∧ w'.cell? ⟨w.heap.size, 1, none⟩ = some (.slice a0 xs.length c0)) (first | exact ⟨z0, z1⟩ | exact ⟨u0, u1⟩ | exact ⟨y0, y1⟩ | exact ⟨x0, x1⟩ | go_keep) (first
      | (refine step_appSh (wr := W) rfl _ _ rfl W.heap.size W.heap.size 0 (by go_simp) OWA.out xss p xss.length c (by go_simp) H.out (Nat.le_refl _) BA.out hl BA.out.size ?_; intro va w1 us hr1 hsh1 hb1 hs1 hg1; have R1 := Lib.hid hr1; have S1 := Lib.hid hsh1; have B1 := Lib.hid hb1; have Z1 := Lib.hid hs1; clear hr1 hsh1 hb1 hs1 hg1; obtain ⟨ly, y0, y1⟩ := X.out.keep B1.out)
      | (refine step_appSh (wr := W) rfl _ _ rfl W.heap.size W.heap.size 0 (by go_simp) OWB.out xss p xss.length c (by go_simp) H.out (Nat.le_refl _) BB.out hl BB.out.size ?_; intro va w1 us hr1 hsh1 hb1 hs1 hg1; have R1 := Lib.hid hr1; have S1 := Lib.hid hsh1; have B1 := Lib.hid hb1; have Z1 := Lib.hid hs1; have C1 := Lib.hid (hg1.cell CB.out (by simp)); clear hr1 hsh1 hb1 hs1 hg1; obtain ⟨ly, y0, y1⟩ := X.out.keep B1.out)
      | (refine step_appSh (wr := W) rfl _ _ rfl W.heap.size (W.heap.size + 1) 0 (by go_simp) OWC.out xss p xss.length c (by go_simp) H.out (Nat.le_refl _) BC.out hl BC.out.size ?_; intro va w1 us hr1 hsh1 hb1 hs1 hg1; have R1 := Lib.hid hr1; have S1 := Lib.hid hsh1; have B1 := Lib.hid hb1; have Z1 := Lib.hid hs1; have C1 := Lib.hid (hg1.cell CC.out (by simp)); clear hr1 hsh1 hb1 hs1 hg1; obtain ⟨ly, y0, y1⟩ := X.out.keep B1.out)
      | (refine step_appSh1 (wr := W) rfl _ _ rfl W.heap.size va (by go_simp) us xss xss.length R1.out S1.out rfl (Nat.le_refl _) B1.out Z1.out hl (some ⟨b1, o1, none⟩) zs c1 HZ.out hc1 hc2 ⟨_, 0, none⟩ C1.out 1 (by go_simp) ?_; intro a2 c2 w2 hat2 hb2 hs2; have A2 := Lib.hid hat2.nn; have T2 := Lib.hid hb2; clear hat2 hb2 hs2; obtain ⟨lu, u0, u1⟩ := X.out.keep T2.out)
      | (refine step_appSh1 (wr := W) rfl _ _ rfl W.heap.size va (by go_simp) us xss xss.length (World.ownsRow.alloc R1.out (.cells #[.slice (some ⟨b1, o1, none⟩) zs.length c1] 32)) S1.out rfl (Nat.le_refl _) (B1.out.alloc Z1.out _) (Nat.le_trans Z1.out (alloc_keep _ _).1.size) hl (some ⟨b1, o1, none⟩) zs c1 HZ.out hc1 hc2 ⟨w1.heap.size, 0, none⟩ (World.cell?_alloc_at _ _ _ _ rfl) 1 (by go_simp) ?_; intro a2 c2 w2 hat2 hb2 hs2; have A2 := Lib.hid hat2.nn; have T2 := Lib.hid hb2; clear hat2 hb2 hs2; obtain ⟨lu, u0, u1⟩ := X.out.keep T2.out)
      | (go_at_call 36; refine (LC.out a2 c2 _ T2.out A2.out).mono ?_; rintro e w3 ⟨rfl, hb⟩; have T3 := Lib.hid (T2.out.trans (hb.mono T2.out.size)); clear hb; obtain ⟨lz, z0, z1⟩ := X.out.keep T3.out))
    all_goals
      go_wp2_with fail
      refine (FO.out _ T3.out).mono ?_
      rintro e w4 ⟨rfl, hb⟩
      have T4 := Lib.hid (T3.out.trans (hb.mono T3.out.size))
      clear hb
      go_wp2
      go_ret2
      exact ⟨RV.out, HB.out.trans (T4.out.mono HB.out.size)⟩
  · have RV := Lib.hid (show Ending.returned (.tuple #[.bool false, .int .i64 jc]) = .returned (.tuple #[.bool (gcV n0 xs xss zs), .int .i64 (cqC n0 xs xss zs)]) by rw [gcV, cqV, ← hj, decide_eq_false hz, Bool.false_and])
    clear h0 h1 h2 hat0 hat1 hn hW hl1 hj
    obtain ⟨lt0, x0, x1⟩ := X.out
    go_enter Try.func21, Try.ntmps21
    go_wp2_with fail
    rw [← HW.out]
    go_region_held3 (fun w' => w'.cell? ⟨w.heap.size, 0, none⟩ = some (.int .i64 n0) ∧ w'.cell? ⟨w.heap.size, 1, none⟩ = some (.slice a0 xs.length c0)) (first | exact ⟨z0, z1⟩ | exact ⟨u0, u1⟩ | exact ⟨y0, y1⟩ | exact ⟨x0, x1⟩ | go_keep) (first
      | (refine step_appSh (wr := W) rfl _ _ rfl W.heap.size W.heap.size 0 (by go_simp) OWA.out xss p xss.length c (by go_simp) H.out (Nat.le_refl _) BA.out hl BA.out.size ?_; intro va w1 us hr1 hsh1 hb1 hs1 hg1; have R1 := Lib.hid hr1; have S1 := Lib.hid hsh1; have B1 := Lib.hid hb1; have Z1 := Lib.hid hs1; clear hr1 hsh1 hb1 hs1 hg1; obtain ⟨ly, y0, y1⟩ := X.out.keep B1.out)
      | (refine step_appSh (wr := W) rfl _ _ rfl W.heap.size W.heap.size 0 (by go_simp) OWB.out xss p xss.length c (by go_simp) H.out (Nat.le_refl _) BB.out hl BB.out.size ?_; intro va w1 us hr1 hsh1 hb1 hs1 hg1; have R1 := Lib.hid hr1; have S1 := Lib.hid hsh1; have B1 := Lib.hid hb1; have Z1 := Lib.hid hs1; have C1 := Lib.hid (hg1.cell CB.out (by simp)); clear hr1 hsh1 hb1 hs1 hg1; obtain ⟨ly, y0, y1⟩ := X.out.keep B1.out)
      | (refine step_appSh (wr := W) rfl _ _ rfl W.heap.size (W.heap.size + 1) 0 (by go_simp) OWC.out xss p xss.length c (by go_simp) H.out (Nat.le_refl _) BC.out hl BC.out.size ?_; intro va w1 us hr1 hsh1 hb1 hs1 hg1; have R1 := Lib.hid hr1; have S1 := Lib.hid hsh1; have B1 := Lib.hid hb1; have Z1 := Lib.hid hs1; have C1 := Lib.hid (hg1.cell CC.out (by simp)); clear hr1 hsh1 hb1 hs1 hg1; obtain ⟨ly, y0, y1⟩ := X.out.keep B1.out)
      | (refine step_appSh1 (wr := W) rfl _ _ rfl W.heap.size va (by go_simp) us xss xss.length R1.out S1.out rfl (Nat.le_refl _) B1.out Z1.out hl a1 zs c1 HZ.out hc1 hc2 ⟨_, 0, none⟩ C1.out 1 (by go_simp) ?_; intro a2 c2 w2 hat2 hb2 hs2; have A2 := Lib.hid hat2.nn; have T2 := Lib.hid hb2; clear hat2 hb2 hs2; obtain ⟨lu, u0, u1⟩ := X.out.keep T2.out)
      | (refine step_appSh1 (wr := W) rfl _ _ rfl W.heap.size va (by go_simp) us xss xss.length (World.ownsRow.alloc R1.out (.cells #[.slice a1 zs.length c1] 32)) S1.out rfl (Nat.le_refl _) (B1.out.alloc Z1.out _) (Nat.le_trans Z1.out (alloc_keep _ _).1.size) hl a1 zs c1 HZ.out hc1 hc2 ⟨w1.heap.size, 0, none⟩ (World.cell?_alloc_at _ _ _ _ rfl) 1 (by go_simp) ?_; intro a2 c2 w2 hat2 hb2 hs2; have A2 := Lib.hid hat2.nn; have T2 := Lib.hid hb2; clear hat2 hb2 hs2; obtain ⟨lu, u0, u1⟩ := X.out.keep T2.out)
      | (go_at_call 36; refine (LC.out a2 c2 _ T2.out A2.out).mono ?_; rintro e w3 ⟨rfl, hb⟩; have T3 := Lib.hid (T2.out.trans (hb.mono T2.out.size)); clear hb; obtain ⟨lz, z0, z1⟩ := X.out.keep T3.out))
    all_goals
      go_wp2
      go_ret2
      exact ⟨RV.out, HB.out.trans (T3.out.mono HB.out.size)⟩

end Go.Proofs.Ytnoaaklkbfbdbaa
