/- SequentFormula of both sides. Conditions: those in the theorems. -/
import Derived.Deep.RegionLaw
import Derived.Test.YtpccocmiadpgiaaJn15
import Derived.Test.YtpccocmiadpgiaaAll
namespace Go.Proofs.Ytpccocmiadpgiaa
open Go.RowKit

theorem sdTo_at {ss : List (List UInt8)} : ∀ {n : Nat}, sdTo ss n = true → ∀ j, j < n → gdB (stx (nthS ss j)) = true := by
  intro n
  induction n with
  | zero => intro _ j hj; omega
  | succ n ih =>
    intro h j hj
    rw [sdTo, Bool.and_eq_true, Bool.and_eq_true] at h
    by_cases e : j = n
    · subst e; exact h.2.1
    · exact ih h.1 j (by omega)
theorem sd_all {ss : List (List UInt8)} (h : sdB ss = true) : ss.length ≤ 16 ∧ ∀ j, j < ss.length → ∃ f : Fm, f.ok ∧ f.sz ≤ 40 ∧ pfZ (stx (nthS ss j)) = f.enc := by
  rw [sdB, Bool.and_eq_true, decide_eq_true_eq] at h
  refine ⟨h.1, fun j hj => ?_⟩
  have g := sdTo_at h.2 j hj
  rcases gd_cases (stx (nthS ss j)) with ⟨-, e, -⟩ | ⟨-, f, h1, h2, h3, -⟩
  · rw [e] at g; cases g
  · exact ⟨f, h1, h2, h3⟩
/-- The formulas of a side. -/
def gs (ss : List (List UInt8)) : List (List Nd) := gsTo ss ss.length
theorem gs_len (ss : List (List UInt8)) : (gs ss).length = ss.length := gsTo_len ss (Nat.le_refl _)
theorem gs_pos {ss : List (List UInt8)} (h : sdB ss = true) : ∀ j, j < ss.length → 0 < (nthL (gs ss) j).length ∧ (nthL (gs ss) j).length ≤ 40 := by
  intro j hj
  obtain ⟨f, h1, h2, h3⟩ := (sd_all h).2 j hj
  rw [gs, gsTo_at hj (Nat.le_refl _), h3, Fm.enc_len]
  exact ⟨f.sz_pos, h2⟩
theorem gs_sz {ss : List (List UInt8)} (h : sdB ss = true) : ∀ j, j ≤ ss.length → szTo (gs ss) j ≤ 40 * j
  | 0, _ => by simp [szTo]
  | j + 1, hj => by
    have := gs_sz h j (by omega)
    have := (gs_pos h j (by omega)).2
    rw [szTo]; omega
theorem allL_pos {k : Int} {ss : List (List UInt8)} (h : sdB ss = true) : 0 < (allL k (gs ss)).length ∧ (allL k (gs ss)).length ≤ 700 := by
  have h1 := (sd_all h).1
  have hl := gs_len ss
  by_cases h0 : (gs ss).length = 0
  · rw [allL, if_pos h0]; split <;> simp
  · have e := allL_len k (gs ss) (by omega)
    have h2 := gs_sz h ss.length (Nat.le_refl _)
    have h3 := szTo_ge (xss := gs ss) (n := ss.length) (fun j hj => (gs_pos h j hj).1) ss.length (Nat.le_refl _)
    rw [hl] at e h0
    omega

/-- The formula of a sequent, before it is held against the limit; the answer and its code. -/
def sqW (ls rs : List (List UInt8)) : List Nd := (4, 0) :: (allL 2 (gs ls) ++ allL 3 (gs rs))
noncomputable def sqR (ls rs : List (List UInt8)) : List Nd := if mqB ls rs then lim (sqW ls rs) else []
noncomputable def sqE (ls rs : List (List UInt8)) : Int := if mqB ls rs then limC (sqW ls rs) else 1
theorem SequentFormula_len (ls rs : List (List UInt8)) : (sqR ls rs).length ≤ 1048576 := by
  unfold sqR
  split
  · have := lim_len (sqW ls rs); omega
  · simp
theorem mq_two {ls rs : List (List UInt8)} (h : mqB ls rs = true) : sdB ls = true ∧ sdB rs = true := by
  unfold mqB at h; simpa using h

theorem l11Read_gs (ss : List (List UInt8)) (a : Option Addr) (cap : Nat) (w : World) (hl : ss.length ≤ 16) (hs : ∀ j, j < ss.length → (nthS ss j).length ≤ 1048576) (h : AtS w a ss.length ss) :
    Calls Try.prog 29 #[.slice a ss.length cap] w fun e w' => ∃ v, e = .returned v ∧ OwnL w' w.heap.size v (gs ss) ∧ Below w.heap.size w w' := l11Read_any ss a cap w hl hs h
theorem allNodesOf_gs (ss : List (List UInt8)) (a : Option Addr) (cap : Nat) (w : World) (hl : ss.length ≤ 16) (hs : ∀ j, j < ss.length → (nthS ss j).length ≤ 1048576) (h : AtS w a ss.length ss) :
    Calls Try.prog 31 #[.slice a ss.length cap] w fun e w' => ∃ v, e = .returned v ∧ OwnL w' w.heap.size v (gs ss) ∧ Below w.heap.size w w' := allNodesOf_any ss a cap w hl hs h
theorem belowDrew {C : Nat} {w w' : World} (h : Below C w w') : Below C w w'.drew := ⟨h.os, h.tape, h.output, h.size, h.block⟩

set_option maxHeartbeats 8000000 in
set_option maxRecDepth 100000 in
theorem specSequentFormula_v (ls rs : List (List UInt8)) (a : Option Addr) (cap : Nat) (b : Option Addr) (d : Nat) (w : World) (hl : SmL ls) (hr : SmL rs) (h : AtS w a ls.length ls) (h' : AtS w b rs.length rs) :
    Calls Try.prog 13 #[.agg #[.slice a ls.length cap, .slice b rs.length d]] w fun e w' => ∃ v, e = .returned (.tuple #[v, .int .i64 (sqE ls rs)]) ∧ OwnN w' w.heap.size v (sqR ls rs) ∧ Below w.heap.size w w' := by
  obtain ⟨W, hW⟩ : ∃ W, W = w.alloc (.cells #[.slice a ls.length cap, .slice b rs.length d] 28) := ⟨_, rfl⟩
  have HB := Lib.hid (show Below w.heap.size w W by rw [hW]; exact (Below.refl _ _).alloc (Nat.le_refl _) _)
  have X := Lib.hid (show Bq W w.heap.size a ls.length cap b rs.length d by rw [hW]; exact Bq.new _ _ _ _ _ _ _ _)
  have CL := Lib.hid (l11Is_any ls rs a cap b d W hl hr (h.keep HB.out (Nat.le_refl _)) (h'.keep HB.out (Nat.le_refl _)))
  have H := Lib.hid h
  have H' := Lib.hid h'
  have HW := Lib.hid hW
  clear h h' hW
  cases hm : mqB ls rs with
  | false =>
    have E1 := Lib.hid (show sqE ls rs = 1 by rw [sqE, hm]; rfl)
    have E2 := Lib.hid (show sqR ls rs = [] by rw [sqR, hm]; rfl)
    rw [hm] at CL
    clear hm
    go_enter Try.func13, Try.ntmps13
    go_wp2_with fail
    rw [← HW.out]
    refine CL.out.mono ?_
    rintro e w1 ⟨rfl, hb⟩
    have B1 := Lib.hid (HB.out.trans (hb.mono HB.out.size))
    clear hb
    go_wp2
    go_ret2
    exact ⟨_, by rw [E1.out]; rfl, by rw [E2.out]; exact ownN_nil _ _, B1.out⟩
  | true =>
    have E1 := Lib.hid (show sqE ls rs = limC (sqW ls rs) by rw [sqE, hm]; rfl)
    have E2 := Lib.hid (show sqR ls rs = lim (sqW ls rs) by rw [sqR, hm]; rfl)
    obtain ⟨s1, s2⟩ := mq_two hm
    have CA := Lib.hid (fun W (hW : Below w.heap.size w W) => l11Read_gs ls a cap W (sd_all s1).1 hl.2 (H.out.keep hW (Nat.le_refl _)))
    have CB := Lib.hid (fun W (hW : Below w.heap.size w W) => l11Read_gs rs b d W (sd_all s2).1 hr.2 (H'.out.keep hW (Nat.le_refl _)))
    have DA := Lib.hid (fun (W : World) (a : Option Addr) (len cap : Nat) (hl : len = (gs ls).length) (h : AtNN W a len (gs ls)) => l02All_any 2 (gs ls) a len cap W (by have := (sd_all s1).1; have := gs_len ls; omega) (by have := gs_sz s1 ls.length (Nat.le_refl _); have := (sd_all s1).1; rw [hl, gs_len]; omega) (fun j hj => (gs_pos s1 j (by rw [hl, gs_len] at hj; exact hj)).1) h)
    have DB := Lib.hid (fun (W : World) (a : Option Addr) (len cap : Nat) (hl : len = (gs rs).length) (h : AtNN W a len (gs rs)) => l02All_any 3 (gs rs) a len cap W (by have := (sd_all s2).1; have := gs_len rs; omega) (by have := gs_sz s2 rs.length (Nat.le_refl _); have := (sd_all s2).1; rw [hl, gs_len]; omega) (fun j hj => (gs_pos s2 j (by rw [hl, gs_len] at hj; exact hj)).1) h)
    have p1 := Lib.hid (allL_pos (k := 2) s1)
    have p2 := Lib.hid (allL_pos (k := 3) s2)
    have WW := Lib.hid (show sqW ls rs = (4, 0) :: (allL 2 (gs ls) ++ allL 3 (gs rs)) from rfl)
    rw [hm] at CL
    clear hm s1 s2
    obtain ⟨F, hF⟩ : ∃ F, F = allL 2 (gs ls) := ⟨_, rfl⟩
    obtain ⟨G, hG⟩ : ∃ G, G = allL 3 (gs rs) := ⟨_, rfl⟩
    obtain ⟨Z, hZ⟩ : ∃ Z, Z = sqW ls rs := ⟨_, rfl⟩
    rw [← hF] at DA p1 WW
    rw [← hG] at DB p2 WW
    rw [← hZ] at E1 E2 WW
    clear hF hG hZ
    go_enter Try.func13, Try.ntmps13
    go_wp2_with fail
    rw [← HW.out]
    refine CL.out.mono ?_
    rintro e w1 ⟨rfl, hb⟩
    have TB := Lib.hid (HB.out.trans (hb.mono HB.out.size))
    have XQ := Lib.hid (show Bq w1.drew w.heap.size a ls.length cap b rs.length d from X.out.keep (belowDrew hb))
    replace TB := Lib.hid (belowDrew TB.out)
    obtain ⟨lt, x0, x1⟩ := XQ.out
    clear hb
    go_wp2
    go_region_held3 (fun w' => w'.cell? ⟨w.heap.size, 0, none⟩ = some (.slice a ls.length cap) ∧ w'.cell? ⟨w.heap.size, 1, none⟩ = some (.slice b rs.length d)) (first | exact ⟨x0, x1⟩ | go_keep) (first | ((try go_simp); go_at_call 29; (with_reducible refine (CA.out _ TB.out).mono ?_); rintro e w2 ⟨v2, rfl, ho, hb⟩; obtain ⟨a2, c2, rfl, hat⟩ := ho.at; clear ho; (try have LL := Lib.hid (LL.out.keep hb (Nat.le_refl _))); (try have RL := Lib.hid (RL.out.keep hb (Nat.le_refl _))); (try have LF := Lib.hid (LF.out.keep hb (Nat.le_refl _))); (try have RF := Lib.hid (RF.out.keep hb (Nat.le_refl _))); have TB := Lib.hid (TB.out.trans (hb.mono TB.out.size)); have XQ := Lib.hid (XQ.out.keep hb); obtain ⟨lt, x0, x1⟩ := XQ.out; clear hb; have LL := Lib.hid hat; clear hat) | ((try go_simp); go_at_call 29; (with_reducible refine (CB.out _ TB.out).mono ?_); rintro e w2 ⟨v2, rfl, ho, hb⟩; obtain ⟨a2, c2, rfl, hat⟩ := ho.at; clear ho; (try have LL := Lib.hid (LL.out.keep hb (Nat.le_refl _))); (try have RL := Lib.hid (RL.out.keep hb (Nat.le_refl _))); (try have LF := Lib.hid (LF.out.keep hb (Nat.le_refl _))); (try have RF := Lib.hid (RF.out.keep hb (Nat.le_refl _))); have TB := Lib.hid (TB.out.trans (hb.mono TB.out.size)); have XQ := Lib.hid (XQ.out.keep hb); obtain ⟨lt, x0, x1⟩ := XQ.out; clear hb; have RL := Lib.hid hat; clear hat) | ((try go_simp); go_at_call 28; (with_reducible refine (DA.out _ _ _ _ rfl LL.out).mono ?_); rintro e w2 ⟨v2, rfl, ho, hb⟩; obtain ⟨a2, c2, rfl, hat, -⟩ := ho.at; clear ho; (try have LL := Lib.hid (LL.out.keep hb (Nat.le_refl _))); (try have RL := Lib.hid (RL.out.keep hb (Nat.le_refl _))); (try have LF := Lib.hid (LF.out.keep hb (Nat.le_refl _))); (try have RF := Lib.hid (RF.out.keep hb (Nat.le_refl _))); have TB := Lib.hid (TB.out.trans (hb.mono TB.out.size)); have XQ := Lib.hid (XQ.out.keep hb); obtain ⟨lt, x0, x1⟩ := XQ.out; clear hb; have LF := Lib.hid hat; clear hat) | ((try go_simp); go_at_call 28; (with_reducible refine (DB.out _ _ _ _ rfl RL.out).mono ?_); rintro e w2 ⟨v2, rfl, ho, hb⟩; obtain ⟨a2, c2, rfl, hat, -⟩ := ho.at; clear ho; (try have LL := Lib.hid (LL.out.keep hb (Nat.le_refl _))); (try have RL := Lib.hid (RL.out.keep hb (Nat.le_refl _))); (try have LF := Lib.hid (LF.out.keep hb (Nat.le_refl _))); (try have RF := Lib.hid (RF.out.keep hb (Nat.le_refl _))); have TB := Lib.hid (TB.out.trans (hb.mono TB.out.size)); have XQ := Lib.hid (XQ.out.keep hb); obtain ⟨lt, x0, x1⟩ := XQ.out; clear hb; have RF := Lib.hid hat; clear hat) | ((try go_simp); go_at_call 27; (with_reducible refine (l02Pair_any 4 F G _ _ _ _ _ _ _ (by have := p1.out; have := p2.out; omega) p1.out.1 p2.out.1 LF.out RF.out).mono ?_); rintro e w2 ⟨v2, rfl, ho, hb⟩; have PO := Lib.hid (ho.mono TB.out.size); clear ho; have TB := Lib.hid (TB.out.trans (hb.mono TB.out.size)); have XQ := Lib.hid (XQ.out.keep hb); obtain ⟨lt, x0, x1⟩ := XQ.out; clear hb) | ((try go_simp); go_at_call 26; (with_reducible refine (l02Made_any _ _ _ _ (by have := p1.out; have := p2.out; simp; omega) PO.out).mono ?_); rintro e w2 ⟨v2, rfl, ho, rfl⟩; have MO := Lib.hid ho; clear ho))
    all_goals
      go_wp2
      go_ret2
      exact ⟨_, by rw [E1.out, WW.out]; rfl, by rw [E2.out, WW.out]; exact MO.out, TB.out⟩

set_option maxHeartbeats 8000000 in
set_option maxRecDepth 100000 in
theorem implSequentFormula_v (ls rs : List (List UInt8)) (a : Option Addr) (cap : Nat) (b : Option Addr) (d : Nat) (w : World) (hl : SmL ls) (hr : SmL rs) (h : AtS w a ls.length ls) (h' : AtS w b rs.length rs) :
    Calls Try.prog 14 #[.agg #[.slice a ls.length cap, .slice b rs.length d]] w fun e w' => ∃ v, e = .returned (.tuple #[v, .int .i64 (sqE ls rs)]) ∧ OwnN w' w.heap.size v (sqR ls rs) ∧ Below w.heap.size w w' := by
  obtain ⟨W, hW⟩ : ∃ W, W = w.alloc (.cells #[.slice a ls.length cap, .slice b rs.length d] 28) := ⟨_, rfl⟩
  have HB := Lib.hid (show Below w.heap.size w W by rw [hW]; exact (Below.refl _ _).alloc (Nat.le_refl _) _)
  have X := Lib.hid (show Bq W w.heap.size a ls.length cap b rs.length d by rw [hW]; exact Bq.new _ _ _ _ _ _ _ _)
  have CL := Lib.hid (implIsModalSequent_any ls rs a cap b d W hl hr (h.keep HB.out (Nat.le_refl _)) (h'.keep HB.out (Nat.le_refl _)))
  have H := Lib.hid h
  have H' := Lib.hid h'
  have HW := Lib.hid hW
  clear h h' hW
  cases hm : mqB ls rs with
  | false =>
    have E1 := Lib.hid (show sqE ls rs = 1 by rw [sqE, hm]; rfl)
    have E2 := Lib.hid (show sqR ls rs = [] by rw [sqR, hm]; rfl)
    rw [hm] at CL
    clear hm
    go_enter Try.func14, Try.ntmps14
    go_wp2_with fail
    rw [← HW.out]
    refine CL.out.mono ?_
    rintro e w1 ⟨rfl, hb⟩
    have B1 := Lib.hid (HB.out.trans (hb.mono HB.out.size))
    clear hb
    go_wp2
    go_ret2
    exact ⟨_, by rw [E1.out]; rfl, by rw [E2.out]; exact ownN_nil _ _, B1.out⟩
  | true =>
    have E1 := Lib.hid (show sqE ls rs = limC (sqW ls rs) by rw [sqE, hm]; rfl)
    have E2 := Lib.hid (show sqR ls rs = lim (sqW ls rs) by rw [sqR, hm]; rfl)
    obtain ⟨s1, s2⟩ := mq_two hm
    have CA := Lib.hid (fun W (hW : Below w.heap.size w W) => allNodesOf_gs ls a cap W (sd_all s1).1 hl.2 (H.out.keep hW (Nat.le_refl _)))
    have CB := Lib.hid (fun W (hW : Below w.heap.size w W) => allNodesOf_gs rs b d W (sd_all s2).1 hr.2 (H'.out.keep hW (Nat.le_refl _)))
    have DA := Lib.hid (fun (W : World) (a : Option Addr) (len cap : Nat) (hl : len = (gs ls).length) (h : AtNN W a len (gs ls)) => joinAll_any 2 (.inl rfl) (gs ls) a len cap W (by have := (sd_all s1).1; have := gs_len ls; omega) (by have := gs_sz s1 ls.length (Nat.le_refl _); have := (sd_all s1).1; rw [hl, gs_len]; omega) (fun j hj => (gs_pos s1 j (by rw [hl, gs_len] at hj; exact hj)).1) h)
    have DB := Lib.hid (fun (W : World) (a : Option Addr) (len cap : Nat) (hl : len = (gs rs).length) (h : AtNN W a len (gs rs)) => joinAll_any 3 (.inr rfl) (gs rs) a len cap W (by have := (sd_all s2).1; have := gs_len rs; omega) (by have := gs_sz s2 rs.length (Nat.le_refl _); have := (sd_all s2).1; rw [hl, gs_len]; omega) (fun j hj => (gs_pos s2 j (by rw [hl, gs_len] at hj; exact hj)).1) h)
    have p1 := Lib.hid (allL_pos (k := 2) s1)
    have p2 := Lib.hid (allL_pos (k := 3) s2)
    have WW := Lib.hid (show sqW ls rs = (4, 0) :: (allL 2 (gs ls) ++ allL 3 (gs rs)) from rfl)
    rw [hm] at CL
    clear hm s1 s2
    obtain ⟨F, hF⟩ : ∃ F, F = allL 2 (gs ls) := ⟨_, rfl⟩
    obtain ⟨G, hG⟩ : ∃ G, G = allL 3 (gs rs) := ⟨_, rfl⟩
    obtain ⟨Z, hZ⟩ : ∃ Z, Z = sqW ls rs := ⟨_, rfl⟩
    rw [← hF] at DA p1 WW
    rw [← hG] at DB p2 WW
    rw [← hZ] at E1 E2 WW
    clear hF hG hZ
    go_enter Try.func14, Try.ntmps14
    go_wp2_with fail
    rw [← HW.out]
    refine CL.out.mono ?_
    rintro e w1 ⟨rfl, hb⟩
    have TB := Lib.hid (HB.out.trans (hb.mono HB.out.size))
    have XQ := Lib.hid (show Bq w1.drew w.heap.size a ls.length cap b rs.length d from X.out.keep (belowDrew hb))
    replace TB := Lib.hid (belowDrew TB.out)
    obtain ⟨lt, x0, x1⟩ := XQ.out
    clear hb
    go_wp2
    go_region_held3 (fun w' => w'.cell? ⟨w.heap.size, 0, none⟩ = some (.slice a ls.length cap) ∧ w'.cell? ⟨w.heap.size, 1, none⟩ = some (.slice b rs.length d)) (first | exact ⟨x0, x1⟩ | go_keep) (first | ((try go_simp); go_at_call 31; (with_reducible refine (CA.out _ TB.out).mono ?_); rintro e w2 ⟨v2, rfl, ho, hb⟩; obtain ⟨a2, c2, rfl, hat⟩ := ho.at; clear ho; (try have LL := Lib.hid (LL.out.keep hb (Nat.le_refl _))); (try have RL := Lib.hid (RL.out.keep hb (Nat.le_refl _))); (try have LF := Lib.hid (LF.out.keep hb (Nat.le_refl _))); (try have RF := Lib.hid (RF.out.keep hb (Nat.le_refl _))); have TB := Lib.hid (TB.out.trans (hb.mono TB.out.size)); have XQ := Lib.hid (XQ.out.keep hb); obtain ⟨lt, x0, x1⟩ := XQ.out; clear hb; have LL := Lib.hid hat; clear hat) | ((try go_simp); go_at_call 31; (with_reducible refine (CB.out _ TB.out).mono ?_); rintro e w2 ⟨v2, rfl, ho, hb⟩; obtain ⟨a2, c2, rfl, hat⟩ := ho.at; clear ho; (try have LL := Lib.hid (LL.out.keep hb (Nat.le_refl _))); (try have RL := Lib.hid (RL.out.keep hb (Nat.le_refl _))); (try have LF := Lib.hid (LF.out.keep hb (Nat.le_refl _))); (try have RF := Lib.hid (RF.out.keep hb (Nat.le_refl _))); have TB := Lib.hid (TB.out.trans (hb.mono TB.out.size)); have XQ := Lib.hid (XQ.out.keep hb); obtain ⟨lt, x0, x1⟩ := XQ.out; clear hb; have RL := Lib.hid hat; clear hat) | ((try go_simp); go_at_call 30; (with_reducible refine (DA.out _ _ _ _ rfl LL.out).mono ?_); rintro e w2 ⟨v2, rfl, ho, hb⟩; obtain ⟨a2, c2, rfl, hat, -⟩ := ho.at; clear ho; (try have LL := Lib.hid (LL.out.keep hb (Nat.le_refl _))); (try have RL := Lib.hid (RL.out.keep hb (Nat.le_refl _))); (try have LF := Lib.hid (LF.out.keep hb (Nat.le_refl _))); (try have RF := Lib.hid (RF.out.keep hb (Nat.le_refl _))); have TB := Lib.hid (TB.out.trans (hb.mono TB.out.size)); have XQ := Lib.hid (XQ.out.keep hb); obtain ⟨lt, x0, x1⟩ := XQ.out; clear hb; have LF := Lib.hid hat; clear hat) | ((try go_simp); go_at_call 30; (with_reducible refine (DB.out _ _ _ _ rfl RL.out).mono ?_); rintro e w2 ⟨v2, rfl, ho, hb⟩; obtain ⟨a2, c2, rfl, hat, -⟩ := ho.at; clear ho; (try have LL := Lib.hid (LL.out.keep hb (Nat.le_refl _))); (try have RL := Lib.hid (RL.out.keep hb (Nat.le_refl _))); (try have LF := Lib.hid (LF.out.keep hb (Nat.le_refl _))); (try have RF := Lib.hid (RF.out.keep hb (Nat.le_refl _))); have TB := Lib.hid (TB.out.trans (hb.mono TB.out.size)); have XQ := Lib.hid (XQ.out.keep hb); obtain ⟨lt, x0, x1⟩ := XQ.out; clear hb; have RF := Lib.hid hat; clear hat))
    all_goals
      go_wp2_with fail
      refine (join2_any 4 F G _ _ _ _ _ _ _ _ (by have := p1.out; have := p2.out; omega) p1.out.1 p2.out.1 LF.out RF.out _ rfl).mono ?_
      rintro e w3 ⟨v3, rfl, ho, hb⟩
      have PO := Lib.hid (ho.mono TB.out.size)
      have TB := Lib.hid (TB.out.trans (hb.mono TB.out.size))
      clear ho hb
      go_wp2_with fail
      refine (withinLimit_any _ _ _ _ (by have := p1.out; have := p2.out; simp; omega) PO.out).mono ?_
      rintro e w4 ⟨v4, rfl, ho, rfl⟩
      have MO := Lib.hid ho
      clear ho
      go_wp2
      go_ret2
      exact ⟨_, by rw [E1.out, WW.out]; rfl, by rw [E2.out, WW.out]; exact MO.out, TB.out⟩

end Go.Proofs.Ytpccocmiadpgiaa
