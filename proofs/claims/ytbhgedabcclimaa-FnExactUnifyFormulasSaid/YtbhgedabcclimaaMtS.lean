/- Contracts of the model's l03Match and MatchFormula, at every argument. Conditions: those in the theorems. -/
import Derived.Test.YtbhgedabcclimaaMt
import Derived.Test.YtbhgedabcclimaaInL
import Derived.Deep.RegionWith
import Derived.BigRegion
namespace Go.Proofs.Ytbhgedabcclimaa
open Go.RowKit

theorem infoBo : (Try.prog.info? 4).map (fun i => (i.zero, i.size, i.bytes)) = some (some (.bool false), 1, 1) := by kernel_rfl
theorem makeBo (W : World) : (Instr.makeSlice 107 (.int .i64 6) (.int .i64 6)).run Try.prog W = .ok (.slice (some ⟨W.heap.size, 0, none⟩) 6 6) (W.alloc (.cells #[.bool false, .bool false, .bool false, .bool false, .bool false, .bool false] 4)) := by
  obtain ⟨i0, hi, hz0, hz1, hz2⟩ := info_parts infoBo
  have := run_make (P := Try.prog) W 107 4 i0 (.bool false) Try.underlying107 hi hz0 .i64 .i64 6 6 (by decide) (by decide) (by rw [hz2]; decide) (by decide)
  rw [hz1] at this
  have e : madeCells (Value.bool false).cells (Int.toNat 6 * 1) = #[.bool false, .bool false, .bool false, .bool false, .bool false, .bool false] := by
    apply Array.ext'
    rw [show (Value.bool false).cells = #[.bool false] from rfl, toList_madeCells_one]
    rfl
  rw [e] at this
  exact this
theorem tyB : 4 ≠ 26 ∧ 4 ≠ 61 := by decide
theorem OwnL.kept {w w' : World} {B : Nat} {v : Value} {xss : List (List Nd)} {r : Option Nat} (h : OwnL w B v xss) (hg : w.grownBy w' r) (hr : ∀ k, r = some k → ∃ cs T f, w.heap[k]? = some (.cells cs T f) ∧ T ≠ 26 ∧ T ≠ 61) : OwnL w' B v xss := by
  obtain ⟨us, h1, h2, h3⟩ := h
  exact ⟨us, row_kept h1 hg (fun k hk => by obtain ⟨cs, T, f, a1, a2, a3⟩ := hr k hk; exact ⟨cs, T, f, a1, a2⟩), fun j hj => row_kept (h2 j hj) hg (fun k hk => by obtain ⟨cs, T, f, a1, a2, a3⟩ := hr k hk; exact ⟨cs, T, f, a1, a3⟩), h3⟩
theorem OwnL.cellQ {w : World} {B g c n : Nat} {xss : List (List Nd)} (h : OwnL w B (.slice (some ⟨g, 0, none⟩) n c) xss) {q : Nat} (hq : q < xss.length) : ∃ a' c', w.cell? ⟨g, q, none⟩ = some (.slice a' (nthL xss q).length c') ∧ AtN w a' (nthL xss q).length (nthL xss q) := by
  obtain ⟨a, cap, hv, hat⟩ := h.at
  obtain ⟨b, off, ha, hb, hc⟩ := hat.2.resolve_left (by omega)
  simp only [Value.slice.injEq] at hv
  rw [← hv.1] at ha
  cases ha
  obtain ⟨a', c', h1, h2⟩ := hc q hq
  rw [Nat.zero_add] at h1
  exact ⟨a', c', h1, h2⟩

def kn (ps : List (List Nd)) (j : Nat) : Bool := !(nthL ps j).isEmpty
theorem kn_no {ps : List (List Nd)} {j : Nat} (h : kn ps j = false) : nthL ps j = [] := by simpa [kn] using h
theorem kn_yes {ps : List (List Nd)} {j : Nat} (h : kn ps j = true) : nthL ps j ≠ [] := by simpa [kn] using h
/-- The block KB tells which variables have occurred. -/
def KnB (w : World) (B KB : Nat) (ps : List (List Nd)) : Prop := w.ownsRow B 4 1 (.slice (some ⟨KB, 0, none⟩) 6 6) 6 ((List.range 6).map fun j => Value.bool (kn ps j))
theorem KnB.get {w : World} {B KB : Nat} {ps : List (List Nd)} (h : KnB w B KB ps) {q : Nat} (hq : q < 6) : w.cell? ⟨KB, q, none⟩ = some (.bool (kn ps q)) ∧ w.frozen? ⟨KB, q, none⟩ = false := by
  refine ⟨(World.ownsRow.cellAt h q (by omega)).trans (by simp [hq]), World.ownsRow.frozenAt h q⟩
theorem KnB.lo {w : World} {B KB : Nat} {ps : List (List Nd)} (h : KnB w B KB ps) : B ≤ KB ∧ ∃ cs f, w.heap[KB]? = some (.cells cs 4 f) := row_type h KB rfl
theorem KnB.put {w : World} {B KB q : Nat} {ps : List (List Nd)} {part : List Nd} (h : KnB w B KB ps) (h6 : ps.length = 6) (hq : q ≤ 5) (hp : part ≠ []) : KnB (w.setCell ⟨KB, q, none⟩ (.bool true)) B KB (ps.set q part) := by
  have h1 := (World.ownsRow.stored h q (.bool true)).1
  unfold KnB
  have e : ((List.range 6).map fun j => Value.bool (kn ps j)).set q (.bool true) = (List.range 6).map fun j => Value.bool (kn (ps.set q part) j) := by
    apply List.ext_getElem (by simp)
    intro j hj1 hj2
    have hj : j < 6 := by simpa using hj2
    rw [List.getElem_set]
    simp only [List.getElem_map, List.getElem_range]
    unfold kn
    rw [nthL_set (by rw [h6]; omega)]
    by_cases e : q = j
    · rw [if_pos e, if_pos e.symm]
      have : part.isEmpty = false := by simpa using hp
      rw [this]; rfl
    · rw [if_neg e, if_neg (fun h => e h.symm)]
  rw [← e]
  exact h1
theorem KnB.keep {w w' : World} {B C KB : Nat} {ps : List (List Nd)} (h : KnB w B KB ps) (hb : Below C w w') (hC : w.heap.size ≤ C) : KnB w' B KB ps := ownsRow_below h (fun k hk => Nat.lt_of_lt_of_le (row_lt h k hk) hC) hb
theorem cut_pos {ys : List Nd} {i e : Nat} (hl : (cut ys i).length = e - i) (h : i < e) : cut ys i ≠ [] := by
  intro h2
  rw [h2] at hl
  simp at hl
  omega

def mtB (xs ys : List Nd) : Bool := (mtTo xs ys xs.length).isSome
def mtL (xs ys : List Nd) : List (List Nd) := match mtTo xs ys xs.length with | none => [] | some (_, ps) => fill ps
theorem mtL_false {xs ys : List Nd} (h : mtB xs ys = false) : mtL xs ys = [] := by
  rw [mtB] at h
  rw [mtL]
  cases e : mtTo xs ys xs.length with
  | none => rfl
  | some p => rw [e] at h; cases h
theorem szTo_le' {xss : List (List Nd)} {n m : Nat} (h : ∀ j, j < n → (nthL xss j).length ≤ m) : ∀ k, k ≤ n → szTo xss k ≤ k * m := by
  intro k
  induction k with
  | zero => intro _; simp [szTo]
  | succ k ih =>
    intro hk
    have := ih (by omega)
    have := h k (by omega)
    rw [szTo, Nat.succ_mul]
    omega
theorem mtL_no {xs ys : List Nd} (h : mtTo xs ys xs.length = none) : mtL xs ys = [] ∧ mtB xs ys = false := by rw [mtL, mtB, h]; exact ⟨rfl, rfl⟩
theorem mtL_yes {xs ys : List Nd} {i : Nat} {ps : List (List Nd)} (h : mtTo xs ys xs.length = some (i, ps)) : mtL xs ys = fill ps ∧ mtB xs ys = true := by rw [mtL, mtB, h]; exact ⟨rfl, rfl⟩

set_option maxHeartbeats 16000000 in
set_option maxRecDepth 100000 in
theorem l03Match_any (xs ys : List Nd) (a a' : Option Addr) (cap cap' : Nat) (w : World) (hx : isB xs xs.length = true) (hy : isB ys ys.length = true) (hcap : ys.length ≤ cap') (hcap2 : cap' ≤ 9223372036854775807) (h : AtN w a xs.length xs) (h' : AtN w a' ys.length ys) :
    Calls Try.prog 72 #[.slice a xs.length cap, .slice a' ys.length cap'] w fun e w' => ∃ v', e = .returned (.tuple #[v', .bool (mtB xs ys)]) ∧ OwnL w' w.heap.size v' (mtL xs ys) ∧ Below w.heap.size w w' := by
  have H := Lib.hid h
  have H' := Lib.hid h'
  have HX := Lib.hid hx
  have HY := Lib.hid hy
  have hlx := (is_pos' hx).2
  have hly := (is_pos' hy).2
  have SF : ∀ W, Below w.heap.size w W → Calls Try.prog 106 #[] W fun e w' => ∃ g c, e = .returned (.slice (some ⟨g, 0, none⟩) 6 c) ∧ Hid (OwnL w' W.heap.size (.slice (some ⟨g, 0, none⟩) 6 c) (selfTo 6) ∧ Below W.heap.size W w') := fun W hW => by
    refine (l03Self_any _).mono ?_
    rintro e w1 ⟨v1, rfl, ho1, hb1⟩
    obtain ⟨g, c, rfl, -⟩ := ho1.img six_self
    exact ⟨g, c, rfl, (show _ ∧ _ from ⟨ho1, hb1⟩)⟩
  have hmk := makeBo
  have hne := neNode
  have hgu := guNode
  have FL := Lib.hid fill_rep
  have ST := Lib.hid (mt_start hx hy)
  clear h h' hx hy
  go_enter Try.func72, Try.ntmps72
  go_wp2
  go_region_with (go_at_call 106; refine (SF _ ?_).mono ?_; (first | exact (Below.refl _ _).drew | exact ((Below.refl _ _).drew).alloc (Nat.le_refl _) _); rintro e w1 ⟨g, c, rfl, hh1⟩)
  · have FO := Lib.hid (show OwnL (w1.alloc (.cells #[.bool false, .bool false, .bool false, .bool false, .bool false, .bool false] 4)) w.heap.size (.slice (some ⟨g, 0, none⟩) 6 c) (fill (List.replicate 6 [])) by rw [FL.out]; exact hh1.out.1.alloc _)
    have FB := Lib.hid (show Below w.heap.size w (w1.alloc (.cells #[.bool false, .bool false, .bool false, .bool false, .bool false, .bool false] 4)) from ((Below.refl w.heap.size w).drew.trans hh1.out.2).alloc ((Below.refl w.heap.size w).drew.trans hh1.out.2).size _)
    have FK := Lib.hid (show KnB (w1.alloc (.cells #[.bool false, .bool false, .bool false, .bool false, .bool false, .bool false] 4)) w.heap.size w1.heap.size (List.replicate 6 []) from World.ownsRow_lit w1 #[.bool false, .bool false, .bool false, .bool false, .bool false, .bool false] 6 ((Below.refl w.heap.size w).drew.trans hh1.out.2).size (by decide) rfl)
    clear hh1 SF hmk
    go_wp2
    go_loopw [8, 9] (fun vi vk wr => ∃ (k i : Nat) (ps : List (List Nd)) (o : Nat), k ≤ xs.length ∧ i ≤ ys.length ∧ vk = .int .i64 k ∧ vi = .int .i64 i ∧ Hid (MtI xs ys k i ps o) ∧ OwnL wr w.heap.size (.slice (some ⟨g, 0, none⟩) 6 c) (fill ps) ∧ KnB wr w.heap.size w1.heap.size ps ∧ Below w.heap.size w wr) (fun _ vk _ => xs.length - (intOf vk).toNat)
    case atStart => exact ⟨0, 0, List.replicate 6 [], 1, Nat.zero_le _, Nat.zero_le _, rfl, rfl, ST, FO.out, FK.out, FB.out⟩
    case round =>
      obtain ⟨k, i, ps, o, hk, hi, rfl, rfl, hmt, hol, hkn, hbel⟩ := hrel
      have B := Lib.hid hbel
      have O := Lib.hid hol
      have K := Lib.hid hkn
      clear hbel hol hkn FO FK FB
      by_cases hlt : k < xs.length
      · obtain ⟨hil, ho⟩ := hmt.out.lt hlt
        have HN := Lib.hid (H.out.keep B.out (Nat.le_refl _))
        have HN' := Lib.hid (H'.out.keep B.out (Nat.le_refl _))
        obtain ⟨b, off, rfl, hbb, hc⟩ := HN.out.2.resolve_left (by omega)
        obtain ⟨b', off', rfl, hbb', hc'⟩ := HN'.out.2.resolve_left (by omega)
        obtain ⟨c1, c2⟩ := hc k hlt
        obtain ⟨d1, d2⟩ := hc' i hil
        clear hc hc'
        have hnlt : ¬ ((ys.length : Int) ≤ (i : Int)) := by omega
        cases h0 : (kd xs k != 0)
        · have h0' : kd xs k = 0 := by simpa using h0
          obtain ⟨q, hq, hq5⟩ := sy_six (is_treeTo' HX.out) hlt
          obtain ⟨t, ht, ht1, ht2, hcut, hcl, hcis, hno, hyes⟩ := hmt.out.part hlt hly h0' hq hq5
          have CP := Lib.hid (cut_pos hcl ht1)
          rw [hq] at c2
          have NO := Lib.hid hno
          have YES := Lib.hid hyes
          have P6 := Lib.hid hmt.out.six
          have PT : ∀ (W' : World), AtN W' (some ⟨b', off', none⟩) ys.length ys → Calls Try.prog 93 #[.slice (some ⟨b', off', none⟩) ys.length cap', .int .i64 i] W' fun e' w' => e' = .returned (.int .i64 (t : Int)) ∧ W' = w' := fun W' hW => by
            have := l02Part_any ys (some ⟨b', off', none⟩) ys.length cap' i W' (by omega) (by omega) hW
            rw [ht] at this
            exact this
          have SB := Lib.hid (show AtN wr (some ⟨b', off' + i * 2, none⟩) (t - i) (cut ys i) by rw [hcut]; exact HN'.out.sub i (t - i) (by omega))
          have CL := Lib.hid hcl
          have HC := Lib.hid hcut
          obtain ⟨kc, kf⟩ := K.out.get (q := q) (by omega)
          obtain ⟨a6, c6, oc, oat⟩ := O.out.cellQ (q := q) (by rw [fill_len]; omega)
          obtain ⟨n6, hn6⟩ : ∃ n, n = (nthL (fill ps) q).length := ⟨_, rfl⟩
          rw [← hn6] at oc oat
          have OA := Lib.hid oat
          have hn6l : n6 ≤ 40 := by
            rw [hn6, fill_at (by omega)]
            split
            · simp
            · rename_i hne0
              rcases hmt.out.ok q (by omega) with h1 | h1
              · exact absurd h1 hne0
              · exact (is_pos' h1).2
          have FS := Lib.hid (fill_set (part := cut ys i) P6.out hq5 CP.out)
          have FA := Lib.hid (fill_at (ps := ps) (show q < 6 by omega))
          clear hmt hcut hcl hcis hno hyes ht hq hn6 oat
          go_wp2
          go_quiet ((go_at_call 93; exact q_same (PT _ HN'.out) rfl))
          clear PT
          cases hkq : kn ps q
          · have hps := kn_no hkq
            have N := Lib.hid (YES.out (.inl hps))
            rw [hkq] at kc
            have KP := Lib.hid ((show KnB (wr.drewN nq) w.heap.size w1.heap.size ps from K.out).put P6.out hq5 CP.out)
            have OP := Lib.hid ((show OwnL (wr.drewN nq) w.heap.size (.slice (some ⟨g, 0, none⟩) 6 c) (fill ps) from O.out).kept (rgrown_set (wr.drewN nq) w1.heap.size q (.bool true)) (fun k hk => by cases hk; obtain ⟨-, cs, f, hh⟩ := (K.out).lo; exact ⟨cs, _, f, hh, tyB⟩))
            have BP := Lib.hid ((below_drewN' B.out nq).setCell (p := ⟨w1.heap.size, q, none⟩) (K.out).lo.1 (.bool true))
            have SP := Lib.hid (show AtN ((wr.drewN nq).setCell ⟨w1.heap.size, q, none⟩ (.bool true)) (some ⟨b', off' + i * 2, none⟩) (t - i) (cut ys i) by rw [HC.out]; exact (H'.out.keep BP.out (Nat.le_refl _)).sub i (t - i) (by omega))
            clear hps hkq
            go_wp2_with fail
            refine (l02Own0_any (cut ys i) _ _ (t - i) _ _ (by omega) SP.out).mono ?_
            rintro e w3 ⟨v3, rfl, ho3, hb3⟩
            obtain ⟨s1, s2, ⟨u, s3⟩, s4⟩ := OP.out.set (fill_len ps).symm (show q < 6 by omega) hb3 ho3 BP.out.size
            have S1 := Lib.hid s1
            have B3 := Lib.hid (BP.out.trans s2)
            have KK := Lib.hid ((KP.out.keep hb3 (Nat.le_refl _)))
            obtain ⟨-, csg, fg, hgh⟩ := row_type ((OP.out.keep hb3 (Nat.le_refl _)).choose_spec.1) g rfl
            have K3 := Lib.hid (row_set KK.out hgh (Ne.symm tyB.1) q v3)
            obtain ⟨a3, c3, rfl, -⟩ := ho3.at
            clear s1 s2 ho3 hb3 hgh
            go_wp2
            go_roundw
            case rel => exact ⟨k + 1, t, ps.set q (cut ys i), o - 1, hlt, ht2, by go_num, by go_num, N, by rw [FS.out]; exact S1.out, K3.out, B3.out⟩
            case measure => simp [intOf]; omega
          · have hps := kn_yes hkq
            rw [hkq] at kc
            by_cases heq : nthL ps q = cut ys i
            · have N := Lib.hid (YES.out (.inr heq))
              have EQ := Lib.hid (show decide (nthL (fill ps) q = cut ys i) = true by rw [FA.out, if_neg hps]; exact decide_eq_true heq)
              clear hps heq hkq
              go_wp2_with fail
              refine (l02Equal_any (nthL (fill ps) q) (cut ys i) _ _ _ _ _ _ _ (by omega) (by omega) (show AtN (wr.drewN nq) a6 n6 (nthL (fill ps) q) from OA.out) (show AtN (wr.drewN nq) _ _ _ from SB.out)).mono ?_
              rw [EQ.out]
              rintro e w2 ⟨rfl, hb2⟩
              have B2 := Lib.hid ((below_drewN' B.out nq).trans (hb2.mono (below_drewN' B.out nq).size))
              have O2 := Lib.hid (OwnL.keep (show OwnL (wr.drewN nq) w.heap.size (.slice (some ⟨g, 0, none⟩) 6 c) (fill ps) from O.out) hb2 (Nat.le_refl _))
              have K2 := Lib.hid (KnB.keep (show KnB (wr.drewN nq) w.heap.size w1.heap.size ps from K.out) hb2 (Nat.le_refl _))
              obtain ⟨kc2, kf2⟩ := K2.out.get (q := q) (by omega)
              clear hb2
              have KP := Lib.hid ((show KnB w2 w.heap.size w1.heap.size ps from K2.out).put P6.out hq5 CP.out)
              have OP := Lib.hid ((show OwnL w2 w.heap.size (.slice (some ⟨g, 0, none⟩) 6 c) (fill ps) from O2.out).kept (rgrown_set w2 w1.heap.size q (.bool true)) (fun k hk => by cases hk; obtain ⟨-, cs, f, hh⟩ := (K2.out).lo; exact ⟨cs, _, f, hh, tyB⟩))
              have BP := Lib.hid ((B2.out).setCell (p := ⟨w1.heap.size, q, none⟩) (K2.out).lo.1 (.bool true))
              have SP := Lib.hid (show AtN (w2.setCell ⟨w1.heap.size, q, none⟩ (.bool true)) (some ⟨b', off' + i * 2, none⟩) (t - i) (cut ys i) by rw [HC.out]; exact (H'.out.keep BP.out (Nat.le_refl _)).sub i (t - i) (by omega))
              go_wp2_with fail
              refine (l02Own0_any (cut ys i) _ _ (t - i) _ _ (by omega) SP.out).mono ?_
              rintro e w3 ⟨v3, rfl, ho3, hb3⟩
              obtain ⟨s1, s2, ⟨u, s3⟩, s4⟩ := OP.out.set (fill_len ps).symm (show q < 6 by omega) hb3 ho3 BP.out.size
              have S1 := Lib.hid s1
              have B3 := Lib.hid (BP.out.trans s2)
              have KK := Lib.hid ((KP.out.keep hb3 (Nat.le_refl _)))
              obtain ⟨-, csg, fg, hgh⟩ := row_type ((OP.out.keep hb3 (Nat.le_refl _)).choose_spec.1) g rfl
              have K3 := Lib.hid (row_set KK.out hgh (Ne.symm tyB.1) q v3)
              obtain ⟨a3, c3, rfl, -⟩ := ho3.at
              clear s1 s2 ho3 hb3 hgh
              go_wp2
              go_roundw
              case rel => exact ⟨k + 1, t, ps.set q (cut ys i), o - 1, hlt, ht2, by go_num, by go_num, N, by rw [FS.out]; exact S1.out, K3.out, B3.out⟩
              case measure => simp [intOf]; omega
            · have NO1 := Lib.hid (mt_none (show k + 1 ≤ xs.length from hlt) (NO.out ⟨hps, heq⟩))
              have EQ := Lib.hid (show decide (nthL (fill ps) q = cut ys i) = false by rw [FA.out, if_neg hps]; exact decide_eq_false heq)
              clear hps heq hkq
              go_wp2_with fail
              refine (l02Equal_any (nthL (fill ps) q) (cut ys i) _ _ _ _ _ _ _ (by omega) (by omega) (show AtN (wr.drewN nq) a6 n6 (nthL (fill ps) q) from OA.out) (show AtN (wr.drewN nq) _ _ _ from SB.out)).mono ?_
              rw [EQ.out]
              rintro e w2 ⟨rfl, hb2⟩
              have B2 := Lib.hid ((below_drewN' B.out nq).trans (hb2.mono (below_drewN' B.out nq).size))
              clear hb2
              go_wp2
              go_ret2
              exact ⟨.slice none 0 0, (by rw [(mtL_no NO1.out).2] <;> rfl), by rw [(mtL_no NO1.out).1]; exact ownL_nil _ _, B2.out⟩
        · have h0' : ¬ kd xs k = 0 := by simpa using h0
          obtain ⟨hno, hyes⟩ := hmt.out.node hlt h0'
          cases hqq : (kd xs k == kd ys i && sy xs k == sy ys i)
          · have NO1 := Lib.hid (mt_none (show k + 1 ≤ xs.length from hlt) (hno (fun h => by rw [h.1, h.2] at hqq; simp at hqq)))
            clear hno hyes h0' hmt
            go_wp2
            go_region
            all_goals
              go_wp2
              go_ret2
              exact ⟨.slice none 0 0, (by rw [(mtL_no NO1.out).2] <;> rfl), by rw [(mtL_no NO1.out).1]; exact ownL_nil _ _, B.out.drew⟩
          · have N := Lib.hid (hyes (by simpa using hqq))
            clear hno hyes h0' hmt
            go_wp2
            go_region
            all_goals
              go_wp2
              go_roundw
              case rel => exact ⟨k + 1, i + 1, ps, _, hlt, hil, by go_num, by go_num, N, O.out, K.out, B.out.drew⟩
              case measure => simp [intOf]; omega
      · obtain rfl : k = xs.length := by omega
        have hie := hmt.out.fin
        subst hie
        have Y := Lib.hid (mtL_yes hmt.out.to)
        clear hmt
        go_wp2
        go_ret2
        exact ⟨_, (by rw [Y.out.2] <;> rfl), by rw [Y.out.1]; exact O.out, B.out⟩
  · have FO := Lib.hid (show OwnL w1 w.heap.size (.slice (some ⟨g, 0, none⟩) 6 c) (fill (List.replicate 6 [])) by rw [FL.out]; exact hh1.out.1.mono (by simp))
    have B0 := Lib.hid (show Below w.heap.size w (w.drew.alloc (.cells #[.bool false, .bool false, .bool false, .bool false, .bool false, .bool false] 4)) from (Below.refl w.heap.size w).drew.alloc (Nat.le_refl _) _)
    have FB := Lib.hid (show Below w.heap.size w w1 from B0.out.trans (hh1.out.2.mono B0.out.size))
    have FK := Lib.hid (show KnB w1 w.heap.size w.heap.size (List.replicate 6 []) from KnB.keep (w := w.drew.alloc (.cells #[.bool false, .bool false, .bool false, .bool false, .bool false, .bool false] 4)) (World.ownsRow_lit w.drew #[.bool false, .bool false, .bool false, .bool false, .bool false, .bool false] 6 (Nat.le_refl _) (by decide) rfl) hh1.out.2 (Nat.le_refl _))
    clear hh1 SF hmk
    go_wp2
    go_loopw [8, 9] (fun vi vk wr => ∃ (k i : Nat) (ps : List (List Nd)) (o : Nat), k ≤ xs.length ∧ i ≤ ys.length ∧ vk = .int .i64 k ∧ vi = .int .i64 i ∧ Hid (MtI xs ys k i ps o) ∧ OwnL wr w.heap.size (.slice (some ⟨g, 0, none⟩) 6 c) (fill ps) ∧ KnB wr w.heap.size w.heap.size ps ∧ Below w.heap.size w wr) (fun _ vk _ => xs.length - (intOf vk).toNat)
    case atStart => exact ⟨0, 0, List.replicate 6 [], 1, Nat.zero_le _, Nat.zero_le _, rfl, rfl, ST, FO.out, FK.out, FB.out⟩
    case round =>
      obtain ⟨k, i, ps, o, hk, hi, rfl, rfl, hmt, hol, hkn, hbel⟩ := hrel
      have B := Lib.hid hbel
      have O := Lib.hid hol
      have K := Lib.hid hkn
      clear hbel hol hkn FO FK FB
      by_cases hlt : k < xs.length
      · obtain ⟨hil, ho⟩ := hmt.out.lt hlt
        have HN := Lib.hid (H.out.keep B.out (Nat.le_refl _))
        have HN' := Lib.hid (H'.out.keep B.out (Nat.le_refl _))
        obtain ⟨b, off, rfl, hbb, hc⟩ := HN.out.2.resolve_left (by omega)
        obtain ⟨b', off', rfl, hbb', hc'⟩ := HN'.out.2.resolve_left (by omega)
        obtain ⟨c1, c2⟩ := hc k hlt
        obtain ⟨d1, d2⟩ := hc' i hil
        clear hc hc'
        have hnlt : ¬ ((ys.length : Int) ≤ (i : Int)) := by omega
        cases h0 : (kd xs k != 0)
        · have h0' : kd xs k = 0 := by simpa using h0
          obtain ⟨q, hq, hq5⟩ := sy_six (is_treeTo' HX.out) hlt
          obtain ⟨t, ht, ht1, ht2, hcut, hcl, hcis, hno, hyes⟩ := hmt.out.part hlt hly h0' hq hq5
          have CP := Lib.hid (cut_pos hcl ht1)
          rw [hq] at c2
          have NO := Lib.hid hno
          have YES := Lib.hid hyes
          have P6 := Lib.hid hmt.out.six
          have PT : ∀ (W' : World), AtN W' (some ⟨b', off', none⟩) ys.length ys → Calls Try.prog 93 #[.slice (some ⟨b', off', none⟩) ys.length cap', .int .i64 i] W' fun e' w' => e' = .returned (.int .i64 (t : Int)) ∧ W' = w' := fun W' hW => by
            have := l02Part_any ys (some ⟨b', off', none⟩) ys.length cap' i W' (by omega) (by omega) hW
            rw [ht] at this
            exact this
          have SB := Lib.hid (show AtN wr (some ⟨b', off' + i * 2, none⟩) (t - i) (cut ys i) by rw [hcut]; exact HN'.out.sub i (t - i) (by omega))
          have CL := Lib.hid hcl
          have HC := Lib.hid hcut
          obtain ⟨kc, kf⟩ := K.out.get (q := q) (by omega)
          obtain ⟨a6, c6, oc, oat⟩ := O.out.cellQ (q := q) (by rw [fill_len]; omega)
          obtain ⟨n6, hn6⟩ : ∃ n, n = (nthL (fill ps) q).length := ⟨_, rfl⟩
          rw [← hn6] at oc oat
          have OA := Lib.hid oat
          have hn6l : n6 ≤ 40 := by
            rw [hn6, fill_at (by omega)]
            split
            · simp
            · rename_i hne0
              rcases hmt.out.ok q (by omega) with h1 | h1
              · exact absurd h1 hne0
              · exact (is_pos' h1).2
          have FS := Lib.hid (fill_set (part := cut ys i) P6.out hq5 CP.out)
          have FA := Lib.hid (fill_at (ps := ps) (show q < 6 by omega))
          clear hmt hcut hcl hcis hno hyes ht hq hn6 oat
          go_wp2
          go_quiet ((go_at_call 93; exact q_same (PT _ HN'.out) rfl))
          clear PT
          cases hkq : kn ps q
          · have hps := kn_no hkq
            have N := Lib.hid (YES.out (.inl hps))
            rw [hkq] at kc
            have KP := Lib.hid ((show KnB (wr.drewN nq) w.heap.size w.heap.size ps from K.out).put P6.out hq5 CP.out)
            have OP := Lib.hid ((show OwnL (wr.drewN nq) w.heap.size (.slice (some ⟨g, 0, none⟩) 6 c) (fill ps) from O.out).kept (rgrown_set (wr.drewN nq) w.heap.size q (.bool true)) (fun k hk => by cases hk; obtain ⟨-, cs, f, hh⟩ := (K.out).lo; exact ⟨cs, _, f, hh, tyB⟩))
            have BP := Lib.hid ((below_drewN' B.out nq).setCell (p := ⟨w.heap.size, q, none⟩) (K.out).lo.1 (.bool true))
            have SP := Lib.hid (show AtN ((wr.drewN nq).setCell ⟨w.heap.size, q, none⟩ (.bool true)) (some ⟨b', off' + i * 2, none⟩) (t - i) (cut ys i) by rw [HC.out]; exact (H'.out.keep BP.out (Nat.le_refl _)).sub i (t - i) (by omega))
            clear hps hkq
            go_wp2_with fail
            refine (l02Own0_any (cut ys i) _ _ (t - i) _ _ (by omega) SP.out).mono ?_
            rintro e w3 ⟨v3, rfl, ho3, hb3⟩
            obtain ⟨s1, s2, ⟨u, s3⟩, s4⟩ := OP.out.set (fill_len ps).symm (show q < 6 by omega) hb3 ho3 BP.out.size
            have S1 := Lib.hid s1
            have B3 := Lib.hid (BP.out.trans s2)
            have KK := Lib.hid ((KP.out.keep hb3 (Nat.le_refl _)))
            obtain ⟨-, csg, fg, hgh⟩ := row_type ((OP.out.keep hb3 (Nat.le_refl _)).choose_spec.1) g rfl
            have K3 := Lib.hid (row_set KK.out hgh (Ne.symm tyB.1) q v3)
            obtain ⟨a3, c3, rfl, -⟩ := ho3.at
            clear s1 s2 ho3 hb3 hgh
            go_wp2
            go_roundw
            case rel => exact ⟨k + 1, t, ps.set q (cut ys i), o - 1, hlt, ht2, by go_num, by go_num, N, by rw [FS.out]; exact S1.out, K3.out, B3.out⟩
            case measure => simp [intOf]; omega
          · have hps := kn_yes hkq
            rw [hkq] at kc
            by_cases heq : nthL ps q = cut ys i
            · have N := Lib.hid (YES.out (.inr heq))
              have EQ := Lib.hid (show decide (nthL (fill ps) q = cut ys i) = true by rw [FA.out, if_neg hps]; exact decide_eq_true heq)
              clear hps heq hkq
              go_wp2_with fail
              refine (l02Equal_any (nthL (fill ps) q) (cut ys i) _ _ _ _ _ _ _ (by omega) (by omega) (show AtN (wr.drewN nq) a6 n6 (nthL (fill ps) q) from OA.out) (show AtN (wr.drewN nq) _ _ _ from SB.out)).mono ?_
              rw [EQ.out]
              rintro e w2 ⟨rfl, hb2⟩
              have B2 := Lib.hid ((below_drewN' B.out nq).trans (hb2.mono (below_drewN' B.out nq).size))
              have O2 := Lib.hid (OwnL.keep (show OwnL (wr.drewN nq) w.heap.size (.slice (some ⟨g, 0, none⟩) 6 c) (fill ps) from O.out) hb2 (Nat.le_refl _))
              have K2 := Lib.hid (KnB.keep (show KnB (wr.drewN nq) w.heap.size w.heap.size ps from K.out) hb2 (Nat.le_refl _))
              obtain ⟨kc2, kf2⟩ := K2.out.get (q := q) (by omega)
              clear hb2
              have KP := Lib.hid ((show KnB w2 w.heap.size w.heap.size ps from K2.out).put P6.out hq5 CP.out)
              have OP := Lib.hid ((show OwnL w2 w.heap.size (.slice (some ⟨g, 0, none⟩) 6 c) (fill ps) from O2.out).kept (rgrown_set w2 w.heap.size q (.bool true)) (fun k hk => by cases hk; obtain ⟨-, cs, f, hh⟩ := (K2.out).lo; exact ⟨cs, _, f, hh, tyB⟩))
              have BP := Lib.hid ((B2.out).setCell (p := ⟨w.heap.size, q, none⟩) (K2.out).lo.1 (.bool true))
              have SP := Lib.hid (show AtN (w2.setCell ⟨w.heap.size, q, none⟩ (.bool true)) (some ⟨b', off' + i * 2, none⟩) (t - i) (cut ys i) by rw [HC.out]; exact (H'.out.keep BP.out (Nat.le_refl _)).sub i (t - i) (by omega))
              go_wp2_with fail
              refine (l02Own0_any (cut ys i) _ _ (t - i) _ _ (by omega) SP.out).mono ?_
              rintro e w3 ⟨v3, rfl, ho3, hb3⟩
              obtain ⟨s1, s2, ⟨u, s3⟩, s4⟩ := OP.out.set (fill_len ps).symm (show q < 6 by omega) hb3 ho3 BP.out.size
              have S1 := Lib.hid s1
              have B3 := Lib.hid (BP.out.trans s2)
              have KK := Lib.hid ((KP.out.keep hb3 (Nat.le_refl _)))
              obtain ⟨-, csg, fg, hgh⟩ := row_type ((OP.out.keep hb3 (Nat.le_refl _)).choose_spec.1) g rfl
              have K3 := Lib.hid (row_set KK.out hgh (Ne.symm tyB.1) q v3)
              obtain ⟨a3, c3, rfl, -⟩ := ho3.at
              clear s1 s2 ho3 hb3 hgh
              go_wp2
              go_roundw
              case rel => exact ⟨k + 1, t, ps.set q (cut ys i), o - 1, hlt, ht2, by go_num, by go_num, N, by rw [FS.out]; exact S1.out, K3.out, B3.out⟩
              case measure => simp [intOf]; omega
            · have NO1 := Lib.hid (mt_none (show k + 1 ≤ xs.length from hlt) (NO.out ⟨hps, heq⟩))
              have EQ := Lib.hid (show decide (nthL (fill ps) q = cut ys i) = false by rw [FA.out, if_neg hps]; exact decide_eq_false heq)
              clear hps heq hkq
              go_wp2_with fail
              refine (l02Equal_any (nthL (fill ps) q) (cut ys i) _ _ _ _ _ _ _ (by omega) (by omega) (show AtN (wr.drewN nq) a6 n6 (nthL (fill ps) q) from OA.out) (show AtN (wr.drewN nq) _ _ _ from SB.out)).mono ?_
              rw [EQ.out]
              rintro e w2 ⟨rfl, hb2⟩
              have B2 := Lib.hid ((below_drewN' B.out nq).trans (hb2.mono (below_drewN' B.out nq).size))
              clear hb2
              go_wp2
              go_ret2
              exact ⟨.slice none 0 0, (by rw [(mtL_no NO1.out).2] <;> rfl), by rw [(mtL_no NO1.out).1]; exact ownL_nil _ _, B2.out⟩
        · have h0' : ¬ kd xs k = 0 := by simpa using h0
          obtain ⟨hno, hyes⟩ := hmt.out.node hlt h0'
          cases hqq : (kd xs k == kd ys i && sy xs k == sy ys i)
          · have NO1 := Lib.hid (mt_none (show k + 1 ≤ xs.length from hlt) (hno (fun h => by rw [h.1, h.2] at hqq; simp at hqq)))
            clear hno hyes h0' hmt
            go_wp2
            go_region
            all_goals
              go_wp2
              go_ret2
              exact ⟨.slice none 0 0, (by rw [(mtL_no NO1.out).2] <;> rfl), by rw [(mtL_no NO1.out).1]; exact ownL_nil _ _, B.out.drew⟩
          · have N := Lib.hid (hyes (by simpa using hqq))
            clear hno hyes h0' hmt
            go_wp2
            go_region
            all_goals
              go_wp2
              go_roundw
              case rel => exact ⟨k + 1, i + 1, ps, _, hlt, hil, by go_num, by go_num, N, O.out, K.out, B.out.drew⟩
              case measure => simp [intOf]; omega
      · obtain rfl : k = xs.length := by omega
        have hie := hmt.out.fin
        subst hie
        have Y := Lib.hid (mtL_yes hmt.out.to)
        clear hmt
        go_wp2
        go_ret2
        exact ⟨_, (by rw [Y.out.2] <;> rfl), by rw [Y.out.1]; exact O.out, B.out⟩

theorem fill_bound {ps : List (List Nd)} (h : ∀ j, j < 6 → nthL ps j = [] ∨ isB (nthL ps j) (nthL ps j).length = true) : ∀ j, j < (fill ps).length → (nthL (fill ps) j).length ≤ 40 := by
  intro j hj
  rw [fill_len] at hj
  rw [fill_at hj]
  split
  · simp
  · rename_i hn
    rcases h j hj with h1 | h1
    · exact absurd h1 hn
    · exact (is_pos' h1).2
theorem mt_inv {xs ys : List Nd} (hx : isB xs xs.length = true) (hy : isB ys ys.length = true) : ∀ k, k ≤ xs.length → mtTo xs ys k = none ∨ ∃ i ps o, MtI xs ys k i ps o := by
  intro k
  induction k with
  | zero => intro _; exact .inr ⟨_, _, _, mt_start hx hy⟩
  | succ k ih =>
    intro hk
    rcases ih (by omega) with h | ⟨i, ps, o, h⟩
    · exact .inl (mt_none (by omega) h)
    · by_cases h0 : kd xs k = 0
      · obtain ⟨q, hq, hq5⟩ := sy_six (is_treeTo' hx) (show k < xs.length by omega)
        obtain ⟨t, ht, ht1, ht2, hcut, hcl, hcis, hno, hyes⟩ := h.part (by omega) (is_pos' hy).2 h0 hq hq5
        by_cases e1 : nthL ps q = []
        · exact .inr ⟨_, _, _, hyes (.inl e1)⟩
        · by_cases e2 : nthL ps q = cut ys i
          · exact .inr ⟨_, _, _, hyes (.inr e2)⟩
          · exact .inl (hno ⟨e1, e2⟩)
      · obtain ⟨hno, hyes⟩ := h.node (by omega) h0
        by_cases e : kd xs k = kd ys i ∧ sy xs k = sy ys i
        · exact .inr ⟨_, _, _, hyes e⟩
        · exact .inl (hno e)
theorem MatchFormula_len (xs ys : List Nd) : (mtR xs ys).length ≤ 1048576 ∧ szTo (mtR xs ys) (mtR xs ys).length ≤ 1048576 := by
  cases h : (isB xs xs.length && isB ys ys.length)
  · rw [(mtR_bad h).1]; simp [szTo]
  · have hh : isB xs xs.length = true ∧ isB ys ys.length = true := by simpa using h
    rcases mt_inv hh.1 hh.2 xs.length (Nat.le_refl _) with h2 | ⟨i, ps, o, h2⟩
    · rw [(mtR_no h h2).1]; simp [szTo]
    · rw [(mtR_yes h h2.to).1, fill_len]
      have := szTo_le' (fun j hj => fill_bound h2.ok j (by rw [fill_len]; exact hj)) 6 (Nat.le_refl _)
      omega
theorem mtR_of {xs ys : List Nd} (h : (isB xs xs.length && isB ys ys.length) = true) : mtR xs ys = mtL xs ys ∧ mtC xs ys = (if mtB xs ys then 0 else 4) := by
  rw [mtR, mtC, h, mtL, mtB]
  cases mtTo xs ys xs.length with
  | none => exact ⟨rfl, rfl⟩
  | some p => exact ⟨rfl, rfl⟩

set_option maxHeartbeats 2000000 in
theorem specMatchFormula_v (x0 x1 : List Nd) (v : Value) (lo hi : Nat) (u : Value) (lo' hi' : Nat) (w : World) (hl : x0.length ≤ 1048576) (hl' : x1.length ≤ 1048576) (h : InN w lo hi v x0) (h' : InN w lo' hi' u x1) :
    Calls Try.prog 31 #[v, u] w fun e w' => ∃ v', e = .returned (.tuple #[v', .int .i64 (mtC x0 x1)]) ∧ OwnL w' w.heap.size v' (mtR x0 x1) ∧ Below w.heap.size w w' := by
  obtain ⟨a, cap, rfl, hat⟩ := h.at
  obtain ⟨a', cap', rfl, hat', hca, hcb⟩ := h'.at'
  have H := Lib.hid hat
  have H' := Lib.hid hat'
  clear h h' hat hat'
  unfold maxLen at hcb
  cases hb : (isB x0 x0.length && isB x1 x1.length)
  · obtain ⟨e1, e2⟩ := mtR_bad hb
    rw [e1, e2]
    cases hb0 : isB x0 x0.length
    · have HB := Lib.hid hb0
      clear hb e1 e2 hb0
      go_enter Try.func31, Try.ntmps31
      go_wp2_with (go_at_call 53; refine (l02Is_any _ _ _ _ _ hl H.out).mono ?_; rw [HB.out]; rintro e w' ⟨rfl, rfl⟩)
      go_ret2
      exact ⟨_, rfl, ownL_nil _ _, Below.refl _ _⟩
    · have HB := Lib.hid hb0
      have HB' := Lib.hid (show isB x1 x1.length = false by rw [hb0] at hb; simpa using hb)
      clear hb e1 e2 hb0
      go_enter Try.func31, Try.ntmps31
      go_wp2_with fail
      refine (l02Is_any _ _ _ _ _ hl H.out).mono ?_
      rw [HB.out]
      rintro e w' ⟨rfl, rfl⟩
      go_wp2_with fail
      refine (l02Is_any _ _ _ _ _ hl' H'.out).mono ?_
      rw [HB'.out]
      rintro e w' ⟨rfl, rfl⟩
      go_wp2
      go_ret2
      exact ⟨_, rfl, ownL_nil _ _, Below.refl _ _⟩
  · obtain ⟨e1, e2⟩ := mtR_of hb
    rw [e1, e2]
    have hbb : isB x0 x0.length = true ∧ isB x1 x1.length = true := by simpa using hb
    have HB := Lib.hid hbb.1
    have HB' := Lib.hid hbb.2
    clear hb e1 e2 hbb
    cases hm : mtB x0 x1
    all_goals
      have M := Lib.hid hm
      clear hm
      go_enter Try.func31, Try.ntmps31
      go_wp2_with fail
      refine (l02Is_any _ _ _ _ _ hl H.out).mono ?_
      rw [HB.out]
      rintro e w' ⟨rfl, rfl⟩
      go_wp2_with fail
      refine (l02Is_any _ _ _ _ _ hl' H'.out).mono ?_
      rw [HB'.out]
      rintro e w' ⟨rfl, rfl⟩
      go_wp2_with fail
      refine (l03Match_any x0 x1 _ _ _ _ _ HB.out HB'.out hca (by omega) H.out H'.out).mono ?_
      rw [M.out]
      rintro e w1 ⟨v1, rfl, ho1, hb1⟩
      have O1 := Lib.hid ho1
      have B1 := Lib.hid hb1
      clear ho1 hb1
      go_wp2
      go_ret2
    · have E := mtL_false M.out
      exact ⟨.slice none 0 0, rfl, by rw [E]; exact ownL_nil _ _, B1.out⟩
    · exact ⟨_, rfl, O1.out, B1.out⟩

end Go.Proofs.Ytbhgedabcclimaa
