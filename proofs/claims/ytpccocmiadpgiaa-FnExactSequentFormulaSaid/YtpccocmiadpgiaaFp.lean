/- What the program's ParseFormula answers. Conditions: those in the theorems. -/
import Derived.RangeFuncBox
import Derived.Laws.RangeAny
import Derived.Test.YtpccocmiadpgiaaFr3
import Derived.Test.YtpccocmiadpgiaaJn08
import Derived.Test.YtpccocmiadpgiaaParse
namespace Go.Proofs.Ytpccocmiadpgiaa
open Go.RowKit Go.Shelf

theorem run_next_str (P : Program) (w : World) (I : Nat) (s : ByteArray) (pos : Nat) (ty : TypeId) (hI : w.heap[I]? = some (.stringIter s pos)) (h : pos < s.size) :
    (Instr.next (.pointer (some ⟨I, 0, none⟩)) true ty).run P w = .ok (.tuple #[.bool true, .int .i64 pos, .int .i32 (Utf8.decode s pos).1]) (w.putObj I (.stringIter s (pos + (Utf8.decode s pos).2))) := by
  simp only [Instr.next, getObj, setObj, Sem.run_bind, Sem.run, hI, Result.andThen, h, if_true]
  simp [goInt, World.putObj]
theorem run_next_strend (P : Program) (w : World) (I : Nat) (s : ByteArray) (pos : Nat) (ty : TypeId) (hI : w.heap[I]? = some (.stringIter s pos)) (h : ¬ pos < s.size) :
    (Instr.next (.pointer (some ⟨I, 0, none⟩)) true ty).run P w = .ok (.tuple #[.bool false]) w := by
  simp [Instr.next, getObj, Sem.run, hI, h]
theorem Fl.putO {w : World} {R lo ex I pos : Nat} {s : ByteArray} {W : List Int} {P : List Fm} (h : Fl w R lo ex W P) (hI : w.heap[I]? = some (.stringIter s pos)) (o : Obj) : Fl (w.putObj I o) R lo ex W P := by
  obtain ⟨vW, vP, us, hR, hRl, hW, hP, hPa⟩ := h
  have hne : R ≠ I := fun e => by subst e; rw [hR] at hI; cases hI
  exact ⟨vW, vP, us, (World.putObj_heap_other hne).trans hR, hRl, ownsRow_putObj hW o hI rfl, ownsRow_putObj hP o hI rfl, fun j hj => ownsRow_putObj (hPa j hj) o hI rfl⟩
theorem byte_at {S : List UInt8} {pos : Nat} (h : pos < S.length) (h2 : pos < (sx S).size) : (sx S)[pos]'h2 = S[pos] := by
  simp [sx]
  rfl

theorem bx_below {R : Nat} {w w' : World} (h : BX R (R + 2) w w') : Below R w w' := ⟨h.os, h.tape, h.output, h.size, fun k hk => h.block k (by omega) (by omega)⟩
theorem rd_high (st : St) (r : Int) (h : 128 ≤ r) : rdR st r = none := by
  unfold rdR prtR lnkR varR
  simp [show ¬ r = 93 by omega, show ¬ r = 62 by omega, show ¬ r = 126 by omega, show ¬ r = 40 by omega, show ¬ r = 91 by omega, show ¬ r = 60 by omega, show ¬ r = 70 by omega, show ¬ r = 84 by omega, show ¬ r = 38 by omega, show ¬ r = 124 by omega, show ¬ r = 41 by omega, show ¬ (112 ≤ r ∧ r ≤ 117) by omega]
theorem drop_cons {S : List UInt8} {pos : Nat} (h : pos < S.length) : S.drop pos = S[pos] :: S.drop (pos + 1) := List.drop_eq_getElem_cons h
theorem scan_no {S : List UInt8} {st : St} {pos : Nat} (h : pos < S.length) (hs : scan st0 S = scan st (S.drop pos)) (hn : stp st S[pos] = none) : readF S = none ∧ badAt S = pos := by
  rw [drop_cons h, scan_stop hn] at hs
  refine ⟨?_, ?_⟩
  · unfold readF; rw [hs]
  · unfold badAt; rw [hs]; simp; omega
theorem scan_yes {S : List UInt8} {st st' : St} {pos : Nat} (h : pos < S.length) (hs : scan st0 S = scan st (S.drop pos)) (hn : stp st S[pos] = some st') : scan st0 S = scan st' (S.drop (pos + 1)) := by
  rw [hs, drop_cons h, scan, hn]
theorem scan_end {S : List UInt8} {st : St} (hs : scan st0 S = scan st (S.drop S.length)) : readF S = ends st ∧ badAt S = S.length := by
  rw [List.drop_length, scan] at hs
  refine ⟨?_, ?_⟩
  · unfold readF; rw [hs]
  · unfold badAt; rw [hs]; simp

set_option maxHeartbeats 4000000 in
set_option maxRecDepth 100000 in
theorem implParse_any (S : List UInt8) (w : World) (hS : (∀ c ∈ S, c.toNat < 128) ∨ ∀ r : Int, 128 ≤ r → r ≤ 2147483647 → IxC r) (hsl : S.length ≤ 140737488351232) :
    Calls Try.prog 51 #[.string (sx S)] w fun e w' => ∃ v, e = .returned (.tuple #[v, .int .i64 (pA S), .int .i64 (pC S)]) ∧ OwnN w' w.heap.size v (pZ S) ∧ Below w.heap.size w w' := by
  have hsz := sx_size S
  by_cases hb : 200 < S.length
  · obtain ⟨e1, e2, e3⟩ := p_long hb
    rw [e1, e2, e3]
    have hb' : (200 : Int) < ((sx S).size : Int) := by omega
    clear e1 e2 e3
    go_enter Try.func51, Try.ntmps51
    go_wp2
    go_ret3
    exact ⟨.slice none 0 0, rfl, ownN_nil _ _, Below.refl _ _⟩
  · have hb' : ¬ (200 : Int) < ((sx S).size : Int) := by omega
    have HS := Lib.hid hS
    obtain ⟨W1, hW1⟩ : ∃ W1, W1 = w.alloc (.cells #[.int .i64 0, .slice none 0 0, .slice none 0 0] 78) := ⟨_, rfl⟩
    obtain ⟨W2, hW2⟩ : ∃ W2, W2 = W1.iter (sx S) 0 := ⟨_, rfl⟩
    have s1 : W1.heap.size = w.heap.size + 1 := by rw [hW1]; simp
    have s2 : W2.heap.size = w.heap.size + 2 := by rw [hW2]; show (W1.alloc _).heap.size = _; simp [s1]
    have k1 : Below w.heap.size w W1 := by rw [hW1]; exact (al_keep _ _).1
    have k2 : Below W1.heap.size W1 W2 := by rw [hW2]; exact (al_keep _ _).1
    have B2 := Lib.hid (k1.trans (k2.mono k1.size))
    have I2 := Lib.hid (show W2.heap[w.heap.size + 1]? = some (.stringIter (sx S) 0) by rw [hW2, ← s1]; exact World.iter_heap _ _ _)
    have F2 := Lib.hid (show Fl W2 w.heap.size (w.heap.size + 2) 0 [] [] from ⟨.slice none 0 0, .slice none 0 0, [], by rw [k2.block _ (by omega), hW1]; exact heap_alloc_new w _, trivial, World.ownsRow_nil _ _ _ _, World.ownsRow_nil _ _ _ _, fun j hj => absurd hj (Nat.not_lt_zero _)⟩)
    have S2 := Lib.hid (show w.heap.size + 2 ≤ W2.heap.size by omega)
    have HW1 := Lib.hid hW1
    have HW2 := Lib.hid hW2
    have L2 := Lib.hid (show w.heap.size ≤ W2.heap.size by omega)
    have SZ := Lib.hid hsz
    obtain ⟨n, hn⟩ : ∃ n, n = S.length := ⟨_, rfl⟩
    have HN := Lib.hid hn
    have hn200 : n ≤ 200 := by omega
    clear hS hW1 hW2 s1 s2 k1 k2 hn
    go_enter Try.func51, Try.ntmps51
    go_wp2
    go_loopw [6] (fun _ wr => ∃ (pos : Nat) (st : St), pos ≤ n ∧ Hid (wr.heap[w.heap.size + 1]? = some (.stringIter (sx S) pos)) ∧ Hid (WF pos st) ∧ Hid (scan st0 S = scan st (S.drop pos)) ∧ Hid (Fl wr w.heap.size (w.heap.size + 2) st.ex st.W st.P) ∧ Hid (Below w.heap.size w wr) ∧ w.heap.size + 2 ≤ wr.heap.size) (fun _ wr => n - wr.iterPos (w.heap.size + 1))
    case atStart =>
      rw [← HW1.out, ← HW2.out]
      exact ⟨0, st0, Nat.zero_le _, I2, Lib.hid wf0, Lib.hid rfl, F2, B2, S2.out⟩
    case round =>
      obtain ⟨pos, st, hpn, HI, HWF, HSC, HF, HB, hz2⟩ := hrel
      have LW := Lib.hid HB.out.size
      by_cases hp : pos < n
      · have hp1 : pos < S.length := by have := HN.out; omega
        have hp2 : pos < (sx S).size := by have := SZ.out; omega
        obtain ⟨c, hc⟩ : ∃ c, c = S[pos] := ⟨_, rfl⟩
        have hbyte : (sx S)[pos]'hp2 = c := by rw [hc]; exact byte_at hp1 hp2
        have STC := Lib.hid (show rdR st (c.toNat : Int) = stp st S[pos] by rw [← hc]; exact rd_stp st c)
        obtain ⟨r, wd, hd⟩ : ∃ r wd, Utf8.decode (sx S) pos = (r, wd) := ⟨_, _, rfl⟩
        have KEY : (r = c.toNat ∧ wd = 1 ∧ c.toNat < 128) ∨ (128 ≤ r ∧ r ≤ 2147483647 ∧ 1 ≤ wd ∧ 128 ≤ c.toNat) := by
          by_cases ha : c.toNat < 128
          · have q := decode_ascii (sx S) pos hp2 (by rw [hbyte]; exact ha)
            rw [hbyte, hd] at q
            cases q
            exact .inl ⟨rfl, rfl, ha⟩
          · have q := decode_high (sx S) pos hp2 (by rw [hbyte]; omega)
            have q2 := decode_le (sx S) pos
            rw [hd] at q q2
            exact .inr ⟨q.1, by exact_mod_cast q2, q.2, by omega⟩
        have IX : IxC (r : Int) := by
          rcases KEY with ⟨rfl, -, ha⟩ | ⟨h1, h2, -, ha⟩
          · exact fun w' => (indexVar_ascii _ (by omega) (by omega) w').mono fun e w'' h => ⟨h.1, h.2 ▸ Below.refl _ _⟩
          · rcases HS.out with h | h
            · have := h c (by rw [hc]; exact List.getElem_mem _); omega
            · exact h _ (by omega) (by omega)
        have hnx : ∀ ty, (Instr.next (.pointer (some ⟨w.heap.size + 1, 0, none⟩)) true ty).run Try.prog wr = .ok (.tuple #[.bool true, .int .i64 pos, .int .i32 r]) (wr.putObj (w.heap.size + 1) (.stringIter (sx S) (pos + wd))) := fun ty => by
          have q := run_next_str Try.prog wr (w.heap.size + 1) (sx S) pos ty HI.out hp2
          rw [hd] at q
          exact q
        obtain ⟨W3, hW3⟩ : ∃ W3, W3 = wr.putObj (w.heap.size + 1) (.stringIter (sx S) (pos + wd)) := ⟨_, rfl⟩
        have F3 := Lib.hid (show Fl W3 w.heap.size (w.heap.size + 2) st.ex st.W st.P by rw [hW3]; exact HF.out.putO HI.out _)
        have hlt : w.heap.size + 1 < wr.heap.size := (Array.getElem?_eq_some_iff.1 HI.out).1
        have I3 := Lib.hid (show W3.heap[w.heap.size + 1]? = some (.stringIter (sx S) (pos + wd)) by rw [hW3]; exact World.putObj_heap_same hlt)
        have B3 := Lib.hid (show Below w.heap.size w W3 by rw [hW3]; exact HB.out.grown (grownBy_putObj' wr (w.heap.size + 1) _) LW.out (fun k hk => by cases hk; omega))
        have L3 := Lib.hid (show w.heap.size + 2 ≤ W3.heap.size by rw [hW3]; simpa [World.putObj] using hz2)
        have KK := Lib.hid KEY
        have STP := Lib.hid (show rdR st (r : Int) = stp st S[pos] by
          rcases KEY with ⟨rfl, -, -⟩ | ⟨h1, -, -, ha⟩
          · exact STC.out
          · rw [← STC.out, rd_high st _ (by omega), rd_high st _ (by omega)])
        have RD := Lib.hid (read_any w.heap.size (w.heap.size + 2) pos st r W3 (by omega) HWF.out L3.out F3.out IX)
        rw [← hW3] at hnx
        clear hbyte hd KEY IX hW3 hlt hc
        go_wp2_with fail
        refine RD.out.mono ?_
        rintro e w4 ⟨b, rfl, hA, hBB⟩
        rw [STP.out] at hA
        have B4 := Lib.hid (B3.out.trans (bx_below hBB))
        have L4 := Lib.hid (Nat.le_trans L3.out hBB.size)
        cases hst : stp st S[pos] with
        | none =>
          rw [hst] at hA
          obtain rfl : b = false := hA
          obtain ⟨q1, q2⟩ := scan_no hp1 HSC.out hst
          obtain ⟨e1, e2, e3⟩ := p_bad hb q1
          have E := Lib.hid (show Ending.returned (.tuple #[.slice none 0 0, .int .i64 (pos : Int), .int .i64 6]) = .returned (.tuple #[.slice none 0 0, .int .i64 (pA S), .int .i64 (pC S)]) by rw [e2, e3, q2])
          have E1 := Lib.hid e1
          clear hBB q1 q2 e1 e2 e3 hst
          go_wp2
          go_ret3
          exact ⟨_, E.out, by rw [E1.out]; exact ownN_nil _ _, B4.out⟩
        | some st' =>
          rw [hst] at hA
          obtain ⟨rfl, hF4⟩ := hA
          have WF4 := Lib.hid (stp_wf HWF.out hst)
          have SC4 := Lib.hid (scan_yes hp1 HSC.out hst)
          have F4 := Lib.hid hF4
          have hwd : wd = 1 := by
            rcases KK.out with ⟨-, h, -⟩ | ⟨h1, -, -, -⟩
            · exact h
            · have q := STP.out
              rw [rd_high st _ (by omega)] at q
              rw [hst] at q
              cases q
          have I4 := Lib.hid (show w4.heap[w.heap.size + 1]? = some (.stringIter (sx S) (pos + 1)) by
            have q := I3.out
            rw [hwd] at q
            exact (hBB.block (w.heap.size + 1) (by omega) (by omega)).trans q)
          clear hF4 hBB hst hwd
          go_wp2
          go_roundw
          case rel => exact ⟨pos + 1, st', hp, I4, WF4, SC4, F4, B4, L4.out⟩
          case measure =>
            have q4 : w4.iterPos (w.heap.size + 1) = pos + 1 := by unfold World.iterPos; rw [I4.out]
            have q0 : wr.iterPos (w.heap.size + 1) = pos := by unfold World.iterPos; rw [HI.out]
            omega
      · obtain rfl : pos = n := by omega
        have hp2 : ¬ pos < (sx S).size := by have := SZ.out; have := HN.out; omega
        have hnx : ∀ ty, (Instr.next (.pointer (some ⟨w.heap.size + 1, 0, none⟩)) true ty).run Try.prog wr = .ok (.tuple #[.bool false]) wr := fun ty => run_next_strend Try.prog wr (w.heap.size + 1) (sx S) pos ty HI.out hp2
        have EN := Lib.hid (scan_end (S := S) (st := st) (by have q := HSC.out; rw [HN.out] at q; exact q))
        have FI := Lib.hid (finish_any w.heap.size (w.heap.size + 2) pos st wr (by omega) HWF.out hz2 HF.out)
        clear hp2
        go_wp2_with fail
        refine FI.out.mono ?_
        rintro e w4 ⟨hB4, ⟨he, rfl⟩ | ⟨f, v, he, rfl, ho, hfs⟩⟩
        · have B4 := Lib.hid (HB.out.trans (bx_below hB4))
          obtain ⟨e1, e2, e3⟩ := p_bad hb (by rw [EN.out.1, he])
          have E := Lib.hid (show Ending.returned (.tuple #[.slice none 0 0, .int .i64 ((sx S).size : Int), .int .i64 6]) = .returned (.tuple #[.slice none 0 0, .int .i64 (pA S), .int .i64 (pC S)]) by rw [e2, e3, EN.out.2, SZ.out])
          have E1 := Lib.hid e1
          clear hB4 he e1 e2 e3
          go_wp2
          go_ret3
          exact ⟨_, E.out, by rw [E1.out]; exact ownN_nil _ _, B4.out⟩
        · have B4 := Lib.hid (HB.out.trans (bx_below hB4))
          have O4 := Lib.hid ho
          have hfz : f.enc.length ≤ 8388608 := by rw [Fm.enc_len]; omega
          have R0 := Lib.hid (show readF S = some f by rw [EN.out.1, he])
          clear hB4 he ho
          go_wp2_with fail
          refine (withinLimit_any f.enc v (w.heap.size + 2) w4 hfz O4.out).mono ?_
          rintro e w5 ⟨v5, rfl, ho, rfl⟩
          have O5 := Lib.hid ho
          clear ho
          have E := Lib.hid (show Ending.returned (.tuple #[v5, .int .i64 0, .int .i64 (limC f.enc)]) = .returned (.tuple #[v5, .int .i64 (pA S), .int .i64 (pC S)]) by
            by_cases h40 : 40 < f.sz
            · obtain ⟨e1, e2, e3⟩ := p_big hb R0.out h40
              rw [e2, e3, limC, if_pos (by rw [Fm.enc_len]; exact h40)]
            · obtain ⟨e1, e2, e3⟩ := p_ok hb R0.out h40
              rw [e2, e3, limC, if_neg (by rw [Fm.enc_len]; exact h40)])
          have EZ := Lib.hid (show pZ S = lim f.enc by
            by_cases h40 : 40 < f.sz
            · obtain ⟨e1, e2, e3⟩ := p_big hb R0.out h40
              rw [e1, lim, if_pos (by rw [Fm.enc_len]; exact h40)]
            · obtain ⟨e1, e2, e3⟩ := p_ok hb R0.out h40
              rw [e1, lim, if_neg (by rw [Fm.enc_len]; exact h40)])
          go_wp2
          go_ret3
          exact ⟨_, E.out, by rw [EZ.out]; exact ownsRow_mono O5.out (by omega), B4.out⟩

end Go.Proofs.Ytpccocmiadpgiaa
