/- Contracts of the program's matchParts, variableImages and MatchFormula, at every argument. Conditions: those in the theorems. -/
import Derived.Test.YtbhgedabcclimaaMtS
import Derived.Test.YtbhgedabcclimaaOcc
namespace Go.Proofs.Ytbhgedabcclimaa
open Go.RowKit

theorem slClone1_any (xs : List Nd) (b off len cap : Nat) (w : World) (hl : len ≤ 4194304) (h : AtN w (some ⟨b, off, none⟩) len xs) :
    Calls Try.prog 76 #[.slice (some ⟨b, off, none⟩) len cap] w fun e w' => ∃ v, e = .returned v ∧ OwnN w' w.heap.size v xs ∧ Below w.heap.size w w' := by
  have H := Lib.hid h
  clear h
  have b0 : Below w.heap.size w (w.alloc (.cells #[] 61)) := (Below.refl _ _).alloc (Nat.le_refl _) _
  have B0 := Lib.hid b0
  have L0 : Hid (OwnN (w.alloc (.cells #[] 61)) w.heap.size (.slice (some ⟨w.heap.size, 0, none⟩) 0 0) []) := World.ownsRow_lit w #[] 0 (Nat.le_refl _) (by decide) rfl
  clear b0
  have qT : ∀ (w : World) (a : Option Addr) (n c n' c' : Nat), (binOp .eql 26 (.slice a n c) (.slice none n' c')).run Try.prog w = .ok (.bool a.isNone) w := fun w a n c n' c' => Lib.run_eql_slice_nil w _ _ a n c n' c' Try.underlying26
  go_enter Try.func76, Try.ntmps76
  go_wp2_with (at_builtin; refine list_appN0 rfl _ _ rfl w.heap.size _ [] rfl L0.out xs b off len cap rfl (H.out.keep B0.out (Nat.le_refl _)) (by simp; omega) B0.out.size ?_)
  intro v1 w1 ho1 hg1
  have b1 : Below w.heap.size w w1 := below_appN (Below.refl _ _) B0.out (Nat.le_refl _) L0.out hg1
  have B1 := Lib.hid b1
  have O1 := Lib.hid ho1
  clear b1 ho1 hg1
  go_wp2
  go_ret
  exact ⟨_, rfl, O1.out, B1.out⟩

theorem makeNN6 (W : World) : (Instr.makeSlice 30 (.int .i64 6) (.int .i64 6)).run Try.prog W = .ok (.slice (some ⟨W.heap.size, 0, none⟩) 6 6) (W.alloc (.cells #[.slice none 0 0, .slice none 0 0, .slice none 0 0, .slice none 0 0, .slice none 0 0, .slice none 0 0] 26)) := by
  obtain ⟨i0, hi, hz0, hz1, hz2⟩ := info_parts infoNN
  have := run_make (P := Try.prog) W 30 26 i0 (.slice none 0 0) Try.underlying30 hi hz0 .i64 .i64 6 6 (by decide) (by decide) (by rw [hz2]; decide) (by decide)
  rw [hz1] at this
  have e : madeCells (Value.slice none 0 0).cells (Int.toNat 6 * 1) = #[.slice none 0 0, .slice none 0 0, .slice none 0 0, .slice none 0 0, .slice none 0 0, .slice none 0 0] := by
    apply Array.ext'
    rw [show (Value.slice none 0 0).cells = #[.slice none 0 0] from rfl, toList_madeCells_one]
    rfl
  rw [e] at this
  exact this

/-- The values us are the parts ps, which lie in w; nil for one that is not there. -/
def PartsAt (w : World) (us : List Value) (ps : List (List Nd)) : Prop :=
  ∀ j, j < 6 → (nthL ps j = [] ∧ atV us j = .slice none 0 0) ∨ (nthL ps j ≠ [] ∧ ∃ b off c, atV us j = .slice (some ⟨b, off, none⟩) (nthL ps j).length c ∧ AtN w (some ⟨b, off, none⟩) (nthL ps j).length (nthL ps j))
theorem parts_none (w : World) : PartsAt w [.slice none 0 0, .slice none 0 0, .slice none 0 0, .slice none 0 0, .slice none 0 0, .slice none 0 0] (List.replicate 6 []) := by
  intro j hj
  refine .inl ⟨nthL_rep j, ?_⟩
  match j, hj with
  | 0, _ => rfl
  | 1, _ => rfl
  | 2, _ => rfl
  | 3, _ => rfl
  | 4, _ => rfl
  | 5, _ => rfl
theorem PartsAt.set {w : World} {us : List Value} {ps : List (List Nd)} (h : PartsAt w us ps) (h6 : ps.length = 6) (hu : us.length = 6) {q : Nat} (hq : q ≤ 5) {part : List Nd} (hp : part ≠ []) {b off n c : Nat} (hn : n = part.length) (hat : AtN w (some ⟨b, off, none⟩) part.length part) :
    PartsAt w (us.set q (.slice (some ⟨b, off, none⟩) n c)) (ps.set q part) := by
  intro j hj
  rw [nthL_set (by omega), atV_set]
  by_cases e : j = q
  · rw [if_pos e, if_pos ⟨e, by omega⟩]
    exact .inr ⟨hp, b, off, c, by rw [hn], hat⟩
  · rw [if_neg e, if_neg (fun h => e h.1)]
    exact h j hj

set_option maxHeartbeats 16000000 in
set_option maxRecDepth 100000 in
theorem matchParts_any (xs ys : List Nd) (a a' : Option Addr) (cap cap' : Nat) (w : World) (hx : isB xs xs.length = true) (hy : isB ys ys.length = true) (hcap : ys.length ≤ cap') (hcap2 : cap' ≤ 9223372036854775807) (h : AtN w a xs.length xs) (h' : AtN w a' ys.length ys) :
    Calls Try.prog 74 #[.slice a xs.length cap, .slice a' ys.length cap'] w fun e w' => ∃ v', e = .returned (.tuple #[v', .bool (mtB xs ys)]) ∧ (mtB xs ys = true → ∃ g us i ps o, v' = .slice (some ⟨g, 0, none⟩) 6 6 ∧ mtTo xs ys xs.length = some (i, ps) ∧ MtI xs ys xs.length i ps o ∧ w'.ownsRow w.heap.size 26 1 v' 6 us ∧ PartsAt w us ps) ∧ Below w.heap.size w w' := by
  have H := Lib.hid h
  have H' := Lib.hid h'
  have HX := Lib.hid hx
  have HY := Lib.hid hy
  have hlx := (is_pos' hx).2
  have hly := (is_pos' hy).2
  have hmk := makeNN6
  have hne := neNode
  have hgu := guNode
  have qT : ∀ (w : World) (a : Option Addr) (n c n' c' : Nat), (binOp .neq 26 (.slice a n c) (.slice none n' c')).run Try.prog w = .ok (.bool (!a.isNone)) w := fun w a n c n' c' => run_neq_slice_nil_any w _ _ a n c n' c' Try.underlying26
  have ST := Lib.hid (mt_start hx hy)
  have B0 := Lib.hid ((Below.refl w.heap.size w).alloc (Nat.le_refl _) (.cells #[.slice none 0 0, .slice none 0 0, .slice none 0 0, .slice none 0 0, .slice none 0 0, .slice none 0 0] 26))
  have R0 := Lib.hid (World.ownsRow_lit (e := 26) (size := 1) (base := w.heap.size) w #[.slice none 0 0, .slice none 0 0, .slice none 0 0, .slice none 0 0, .slice none 0 0, .slice none 0 0] 6 (Nat.le_refl _) (by decide) rfl)
  have P0 := Lib.hid (parts_none w)
  clear h h' hx hy
  go_enter Try.func74, Try.ntmps74
  go_wp2
  go_loopw [7, 15] (fun vi vk wr => ∃ (k i : Nat) (ps : List (List Nd)) (us : List Value) (o : Nat), k ≤ xs.length ∧ i ≤ ys.length ∧ vk = .int .i64 k ∧ vi = .int .i64 i ∧ Hid (MtI xs ys k i ps o) ∧ Hid (wr.ownsRow w.heap.size 26 1 (.slice (some ⟨w.heap.size, 0, none⟩) 6 6) 6 us) ∧ Hid (PartsAt w us ps) ∧ Below w.heap.size w wr) (fun _ vk _ => xs.length - (intOf vk).toNat)
  case atStart => exact ⟨0, 0, List.replicate 6 [], _, 1, Nat.zero_le _, Nat.zero_le _, rfl, rfl, ST, R0, P0, B0.out⟩
  case round =>
    obtain ⟨k, i, ps, us, o, hk, hi, rfl, rfl, hmt, hrow, hpa, hbel⟩ := hrel
    have B := Lib.hid hbel
    clear hbel B0 R0 P0 hmk
    by_cases hlt : k < xs.length
    · obtain ⟨hil, ho⟩ := hmt.out.lt hlt
      have HN := Lib.hid (H.out.keep B.out (Nat.le_refl _))
      have HN' := Lib.hid (H'.out.keep B.out (Nat.le_refl _))
      obtain ⟨b, off, rfl, hbb, hc⟩ := HN.out.2.resolve_left (by omega)
      obtain ⟨b', off', rfl, hbb', hc'⟩ := HN'.out.2.resolve_left (by omega)
      obtain ⟨c1, c2⟩ := hc k hlt
      obtain ⟨d1, d2⟩ := hc' i hil
      clear hc hc'
      have hce : ¬ cap' = i := by omega
      have BA := Lib.hid (B.out.alloc B.out.size (.cells #[.int .i64 (kd xs k), .int .i64 (sy xs k)] 61))
      have RA := Lib.hid (World.ownsRow.alloc hrow.out (.cells #[.int .i64 (kd xs k), .int .i64 (sy xs k)] 61))
      have ul : us.length = 6 := by have := hrow.out.1; omega
      cases h0 : (kd xs k == 0)
      · have h0' : ¬ kd xs k = 0 := by simpa using h0
        obtain ⟨hno, hyes⟩ := hmt.out.node hlt h0'
        have D1 : (wr.alloc (.cells #[.int .i64 (kd xs k), .int .i64 (sy xs k)] 61)).cell? ⟨b', off' + i * 2, none⟩ = some (.int .i64 (kd ys i)) := by rw [World.cell?_alloc_past _ _ _ hbb']; exact d1
        have D2 : (wr.alloc (.cells #[.int .i64 (kd xs k), .int .i64 (sy xs k)] 61)).cell? ⟨b', off' + i * 2 + 1, none⟩ = some (.int .i64 (sy ys i)) := by rw [World.cell?_alloc_past _ _ _ hbb']; exact d2
        have E1 : (wr.alloc (.cells #[.int .i64 (kd xs k), .int .i64 (sy xs k)] 61)).cell? ⟨wr.heap.size, 0, none⟩ = some (.int .i64 (kd xs k)) := World.cell?_alloc_at _ _ _ _ rfl
        have E2 : (wr.alloc (.cells #[.int .i64 (kd xs k), .int .i64 (sy xs k)] 61)).cell? ⟨wr.heap.size, 1, none⟩ = some (.int .i64 (sy xs k)) := World.cell?_alloc_at _ _ _ _ rfl
        cases hqq : (kd xs k == kd ys i && sy xs k == sy ys i)
        · have NO1 := Lib.hid (mtL_no (mt_none (show k + 1 ≤ xs.length from hlt) (hno (fun h => by rw [h.1, h.2] at hqq; simp at hqq)))).2
          clear hno hyes h0' hmt
          go_wp2
          go_region
          all_goals
            go_wp2
            go_ret2
            exact ⟨.slice none 0 0, (by rw [NO1.out] <;> rfl), (fun hh => by rw [NO1.out] at hh; cases hh), BA.out.drew⟩
        · have N := Lib.hid (hyes (by simpa using hqq))
          clear hno hyes h0' hmt
          go_wp2
          go_region
          all_goals
            go_wp2
            go_roundw
            case rel => exact ⟨k + 1, i + 1, ps, us, _, hlt, hil, by go_num, by go_num, N, RA, hpa, BA.out.drew⟩
            case measure => simp [intOf]; omega
      · have h0' : kd xs k = 0 := by simpa using h0
        obtain ⟨q, hq, hq5⟩ := sy_six (is_treeTo' HX.out) hlt
        obtain ⟨t, ht, ht1, ht2, hcut, hcl, hcis, hno, hyes⟩ := hmt.out.part hlt hly h0' hq hq5
        have CP := Lib.hid (cut_pos hcl ht1)
        rw [hq] at c2 BA RA
        rw [h0'] at c1 BA RA
        have NO := Lib.hid hno
        have YES := Lib.hid hyes
        have P6 := Lib.hid hmt.out.six
        have T := Lib.hid ht
        have SW := Lib.hid (show AtN w (some ⟨b', off' + i * 2, none⟩) (cut ys i).length (cut ys i) by rw [hcl, hcut]; exact H'.out.sub i (t - i) (by omega))
        have SB := Lib.hid (show AtN w (some ⟨b', off' + i * 2, none⟩) (t - i) (cut ys i) by rw [hcut]; exact H'.out.sub i (t - i) (by omega))
        have CL := Lib.hid hcl.symm
        have HW := Lib.hid (H'.out.keep BA.out (Nat.le_refl _))
        have kc := (World.ownsRow.cellAt RA.out q (by omega)).trans (atV_some (by omega))
        have kf := World.ownsRow.frozenAt RA.out q
        have okq := hmt.out.ok q (by omega)
        clear hmt hcut hcl hcis hno hyes ht hq h0 h0'
        rcases hpa.out q (by omega) with ⟨hps, hus⟩ | ⟨hps, bq, oq, cq, hus, hatq⟩
        · have N := Lib.hid (YES.out (.inl hps))
          rw [hus] at kc
          have ST2 := Lib.hid (World.ownsRow.stored RA.out q (.slice (some ⟨b', off' + i * 2, none⟩) (t - i) (cap' - i))).1
          have PA2 := Lib.hid (hpa.out.set P6.out ul hq5 CP.out (n := t - i) (c := cap' - i) CL.out SW.out)
          have B2 := Lib.hid (BA.out.setCell (p := ⟨w.heap.size, q, none⟩) (Nat.le_refl _) (.slice (some ⟨b', off' + i * 2, none⟩) (t - i) (cap' - i)))
          clear hps hus okq
          go_wp2_with fail
          refine (partEnd_any ys _ _ _ i t _ (by omega) (by omega) HW.out T.out (by omega)).mono ?_
          rintro e w' ⟨rfl, rfl⟩
          go_wp2
          go_roundw
          case rel => exact ⟨k + 1, t, _, _, _, hlt, ht2, by go_num, by go_num, N, ST2, PA2, B2.out⟩
          case measure => simp [intOf]; omega
        · have nq40 : (nthL ps q).length ≤ 40 := by
            rcases okq with h1 | h1
            · exact absurd h1 hps
            · exact (is_pos' h1).2
          obtain ⟨nq, hnq⟩ : ∃ n, n = (nthL ps q).length := ⟨_, rfl⟩
          rw [hus] at kc
          rw [← hnq] at kc hatq nq40
          have AQ := Lib.hid (hatq.keep BA.out (Nat.le_refl _))
          have SQ := Lib.hid (SB.out.keep BA.out (Nat.le_refl _))
          by_cases heq : nthL ps q = cut ys i
          · have N := Lib.hid (YES.out (.inr heq))
            have EQ := Lib.hid (show decide (nthL ps q = cut ys i) = true from decide_eq_true heq)
            clear hps hus okq heq hnq hatq
            go_wp2_with fail
            refine (partEnd_any ys _ _ _ i t _ (by omega) (by omega) HW.out T.out (by omega)).mono ?_
            rintro e w' ⟨rfl, rfl⟩
            go_wp2_with fail
            refine (slEqual_any (nthL ps q) (cut ys i) _ _ _ _ _ _ _ (by omega) (by omega) AQ.out SQ.out).mono ?_
            rw [EQ.out]
            rintro e w2 ⟨rfl, hb2⟩
            have R2 := ownsRow_below RA.out (row_lt RA.out) hb2
            have kf2 := World.ownsRow.frozenAt R2 q
            have kc2 := (World.ownsRow.cellAt R2 q (by omega)).trans (atV_some (by omega))
            have BB := Lib.hid (BA.out.trans (hb2.mono BA.out.size))
            obtain ⟨e1, e2⟩ : w2.cell? ⟨wr.heap.size, 0, none⟩ = some (.int .i64 0) ∧ w2.cell? ⟨wr.heap.size, 1, none⟩ = some (.int .i64 (q : Int)) := by
              constructor
              · exact (hb2.cell (p := ⟨wr.heap.size, 0, none⟩) (by simp)).trans (World.cell?_alloc_at _ _ _ _ rfl)
              · exact (hb2.cell (p := ⟨wr.heap.size, 1, none⟩) (by simp)).trans (World.cell?_alloc_at _ _ _ _ rfl)
            have ST2 := Lib.hid (World.ownsRow.stored R2 q (.slice (some ⟨b', off' + i * 2, none⟩) (t - i) (cap' - i))).1
            have PA2 := Lib.hid (hpa.out.set P6.out ul hq5 CP.out (n := t - i) (c := cap' - i) CL.out SW.out)
            have B2 := Lib.hid (BB.out.setCell (p := ⟨w.heap.size, q, none⟩) (Nat.le_refl _) (.slice (some ⟨b', off' + i * 2, none⟩) (t - i) (cap' - i)))
            clear R2 hb2
            go_wp2
            go_roundw
            case rel => exact ⟨k + 1, t, _, _, _, hlt, ht2, by go_num, by go_num, N, ST2, PA2, B2.out⟩
            case measure => simp [intOf]; omega
          · have NO1 := Lib.hid (mtL_no (mt_none (show k + 1 ≤ xs.length from hlt) (NO.out ⟨hps, heq⟩))).2
            have EQ := Lib.hid (show decide (nthL ps q = cut ys i) = false from decide_eq_false heq)
            clear hps hus okq heq hnq hatq
            go_wp2_with fail
            refine (partEnd_any ys _ _ _ i t _ (by omega) (by omega) HW.out T.out (by omega)).mono ?_
            rintro e w' ⟨rfl, rfl⟩
            go_wp2_with fail
            refine (slEqual_any (nthL ps q) (cut ys i) _ _ _ _ _ _ _ (by omega) (by omega) AQ.out SQ.out).mono ?_
            rw [EQ.out]
            rintro e w2 ⟨rfl, hb2⟩
            have BB := Lib.hid (BA.out.trans (hb2.mono BA.out.size))
            clear hb2
            go_wp2
            go_ret2
            exact ⟨.slice none 0 0, (by rw [NO1.out] <;> rfl), (fun hh => by rw [NO1.out] at hh; cases hh), BB.out⟩
    · obtain rfl : k = xs.length := by omega
      have Y := Lib.hid (mtL_yes hmt.out.to).2
      go_wp2
      go_ret2
      exact ⟨_, (by rw [Y.out] <;> rfl), (fun _ => ⟨_, us, i, ps, o, rfl, hmt.out.to, hmt.out, hrow.out, hpa.out⟩), B.out⟩

end Go.Proofs.Ytbhgedabcclimaa
