/- The first row with a value by the model; IsTautology of the model and of the program. Conditions: the package's table for the program, and those in the theorems. -/
import Derived.Test.YtfpnmeacnhcakaaDoorMa
import Derived.Test.YtfpnmeacnhcakaaDoorTv
namespace Go.Proofs.YtfpnmeacnhcakaaDoor
open Go.RowKit

/-- The number of the first element that is v, counted from k; -1 if none is. -/
def fs : List Bool → Bool → Nat → Int
  | [], _, _ => -1
  | b :: bs, v, k => if b = v then k else fs bs v (k + 1)
theorem fs_end {bs : List Bool} {v : Bool} {k n : Nat} (h : fs bs v 0 = fs (bs.drop k) v k) (hk : k = n) (hn : n = bs.length) : fs bs v 0 = -1 := by
  rw [h, List.drop_eq_nil_of_le (by omega)]; rfl
theorem fs_hit {bs : List Bool} {v : Bool} {k n : Nat} (h : fs bs v 0 = fs (bs.drop k) v k) (hk : k < n) (hn : n = bs.length) (e : bs.getD k false = v) : fs bs v 0 = k := by
  subst hn
  rw [h, List.drop_eq_getElem_cons hk, fs, if_pos (by rw [← e]; simp [List.getD, hk])]
theorem fs_go {bs : List Bool} {v : Bool} {k n : Nat} (h : fs bs v 0 = fs (bs.drop k) v k) (hk : k < n) (hn : n = bs.length) (e : bs.getD k false ≠ v) : fs bs v 0 = fs (bs.drop (k + 1)) v (k + 1) := by
  subst hn
  rw [h, List.drop_eq_getElem_cons hk, fs, if_neg (by intro e2; exact e (by rw [← e2]; simp [List.getD, hk]))]
theorem fs_neg {bs : List Bool} {v : Bool} (k : Nat) : fs bs v k < 0 ↔ ∀ b ∈ bs, b ≠ v := by
  induction bs generalizing k with
  | nil => simp [fs]
  | cons b bs ih =>
    rw [fs]
    split
    · rename_i h; subst h; simp
    · rename_i h
      rw [ih]; simp [h]
theorem fs_tbl {f : Fm} {v : Bool} : fs (tbl f 64) v 0 < 0 ↔ ∀ r, r < 64 → f.ev r ≠ v := by
  rw [fs_neg]
  simp [tbl]
theorem all_ones (f : Fm) (hf : f.ok) : (U f.mw == 18446744073709551615) = decide (fs (tbl f 64) false 0 < 0) := by
  rw [U_all, U_beq, Bool.eq_iff_iff, beq_iff_eq, decide_eq_true_eq, fs_tbl]
  constructor
  · intro h r hr
    rw [← Fm.mw_row f hf r hr, h, BitVec.getLsbD_allOnes]; simp [hr]
  · intro h
    refine word_ext fun r hr => ?_
    rw [Fm.mw_row f hf r hr, BitVec.getLsbD_allOnes]
    have := h r hr
    cases e : f.ev r
    · exact (this e).elim
    · simp [hr]

set_option maxHeartbeats 1000000 in
theorem l04First_any (bs : List Bool) (v : Bool) (a : Option Addr) (len cap : Nat) (w : World) (hl : len ≤ 1048576) (h : AtB w a len bs) :
    Calls Tryd.prog 32 #[.slice a len cap, .bool v] w fun e w' => e = .returned (.int .i64 (fs bs v 0)) ∧ w = w' := by
  have H := Lib.hid h
  have L := Lib.hid h.1
  clear h
  go_enter Tryd.func32, Tryd.ntmps32
  go_wp2
  go_loop [5] (fun i => ∃ j : Nat, j ≤ len ∧ i = .int .i64 j ∧ Hid (fs bs v 0 = fs (bs.drop j) v j)) (fun i => len - (intOf i).toNat)
  case atStart => exact ⟨0, Nat.zero_le _, rfl, (show _ = _ from rfl)⟩
  case round =>
    obtain ⟨k, hk, rfl, hm⟩ := hrel
    by_cases hlt : k < len
    · obtain ⟨b, off, rfl, hb, hc⟩ := H.out.2.resolve_left (by omega)
      have hc1 := hc k hlt
      obtain ⟨z, hz⟩ : ∃ z, z = bs.getD k false := ⟨_, rfl⟩
      rw [← hz] at hc1
      by_cases e : z = v
      · have E := Lib.hid (fs_hit hm.out hlt L.out (by rw [← hz]; exact e))
        subst e
        clear hc hz hm
        cases z
        all_goals
          go_wp2
          go_ret
          exact ⟨ret_int E.out.symm, rfl⟩
      · have E := Lib.hid (fs_go hm.out hlt L.out (by rw [← hz]; exact e))
        clear hc hz hm
        cases z <;> cases v <;> first | exact (e rfl).elim | skip
        all_goals
          clear e
          go_wp2
          go_round
          case rel => exact ⟨k + 1, hlt, by go_num, E⟩
          case measure => simp [intOf]; omega
    · obtain rfl : k = len := by omega
      have E := Lib.hid (fs_end hm.out rfl L.out)
      clear hm
      go_wp2
      go_ret
      exact ⟨ret_int E.out.symm, rfl⟩

noncomputable def tauR (xs : List Nd) : Bool := if ck xs = 0 then decide (fs (tbl (toFm xs) 64) false 0 < 0) else false
theorem tauR_bad {xs : List Nd} (h : ck xs ≠ 0) : tauR xs = false := if_neg h
theorem tauR_good {xs : List Nd} (h : ck xs = 0) : tauR xs = decide (fs (tbl (toFm xs) 64) false 0 < 0) := if_pos h

theorem plain_at {xs : List Nd} {a : Option Addr} {cap : Nat} {w : World} (hc : ck xs = 0) (h : AtN w a xs.length xs) (h1 : xs.length ≤ cap) (h2 : cap ≤ maxLen) :
    ∃ b off, a = some ⟨b, off, none⟩ ∧ AtF w b off xs.length cap (toFm xs) ∧ (toFm xs).ok ∧ (toFm xs).pl ∧ xs.length ≤ 40 := by
  obtain ⟨hb, hpl⟩ := ck_good hc
  obtain ⟨b, off, ha, hf⟩ := h.formula hb h1 h2
  exact ⟨b, off, ha, hf, (toFm_of hb).1, toFm_pl hb hpl, (is_pos' hb).2⟩
theorem ret_bi {a b : Bool} {i j : Int} (h1 : a = b) (h2 : i = j) : Ending.returned (.tuple #[.bool a, .int .i64 i]) = .returned (.tuple #[.bool b, .int .i64 j]) := by rw [h1, h2]

set_option maxHeartbeats 1000000 in
theorem specIsTautology_v (x0 : List Nd) (v : Value) (lo hi : Nat) (w : World) (hl : x0.length ≤ 1048576) (h : InN w lo hi v x0) :
    Calls Tryd.prog 10 #[v] w fun e w' => e = .returned (.tuple #[.bool (tauR x0), .int .i64 (ck x0)]) ∧ Below w.heap.size w w' := by
  obtain ⟨a, cap, rfl, hat, hca, hcb⟩ := h.at'
  have CN := code1_any x0 a x0.length cap w.heap.size w hl hat 26 rfl
  have H := Lib.hid hat
  clear h hat
  by_cases hc : ck x0 = 0
  · rw [tauR_good hc]
    rw [hc] at CN ⊢
    obtain ⟨b, off, rfl, hf, f1, f4, h40⟩ := plain_at hc H.out hca hcb
    have C := Lib.hid CN
    have F := Lib.hid hf
    have F1 := Lib.hid f1
    have F4 := Lib.hid f4
    clear CN hf f1 f4 hc H
    generalize toFm x0 = f at F F1 F4 ⊢
    go_enter Tryd.func10, Tryd.ntmps10
    go_wp2_with fail
    refine C.out.mono ?_
    rintro e w1 ⟨rfl, hb1⟩
    have B1 := Lib.hid hb1
    clear hb1 C
    go_wp2_with fail
    refine (l04Table_any f F1.out F4.out b off _ cap _ hl (F.out.keep B1.out (Nat.le_refl _))).mono ?_
    rintro e w2 ⟨v2, rfl, ho2, hb2⟩
    obtain ⟨a2, cap2, rfl, hat2⟩ := OwnB.at ho2
    have A2 := Lib.hid hat2
    have B2 := Lib.hid (B1.out.trans (hb2.mono B1.out.size))
    have hln := tbl_len f 64
    clear hb2 ho2 hat2
    go_wp2_with fail
    refine (l04First_any (tbl f 64) false a2 _ cap2 w2 (by omega) A2.out).mono ?_
    rintro e w' ⟨rfl, rfl⟩
    go_wp2
    go_ret2
    exact ⟨ret_bi (by first | rfl | simp) rfl, B2.out⟩
  · rw [tauR_bad hc]
    have C := Lib.hid CN
    have hne : (ck x0 == 0) = false := by simpa using hc
    generalize ck x0 = z at C hne ⊢
    clear CN hc
    go_enter Tryd.func10, Tryd.ntmps10
    go_wp2_with fail
    refine C.out.mono ?_
    rintro e w1 ⟨rfl, hb1⟩
    have B1 := Lib.hid hb1
    clear hb1
    go_wp2
    go_ret2
    exact ⟨rfl, B1.out⟩

set_option maxHeartbeats 1000000 in
theorem implIsTautology_v (x0 : List Nd) (v : Value) (lo hi : Nat) (w : World) (hl : x0.length ≤ 1048576) (h : InN w lo hi v x0) (hT : Tb w) :
    Calls Tryd.prog 12 #[v] w fun e w' => e = .returned (.tuple #[.bool (tauR x0), .int .i64 (ck x0)]) ∧ Below w.heap.size w w' := by
  obtain ⟨a, cap, rfl, hat, hca, hcb⟩ := h.at'
  have MM := modelsOf_any x0 a cap w hl hat hT
  clear h hat hT
  by_cases hc : ck x0 = 0
  · have E := Lib.hid (all_ones (toFm x0) (toFm_of (ck_good hc).1).1)
    rw [tauR_good hc]
    rw [hc, mwR_good hc] at MM
    rw [hc]
    have C := Lib.hid MM
    clear MM hc
    generalize U (toFm x0).mw = y at C E ⊢
    go_enter Tryd.func12, Tryd.ntmps12
    go_wp2_with fail
    refine C.out.mono ?_
    rintro e w1 ⟨rfl, hb1⟩
    have B1 := Lib.hid hb1
    clear hb1 C
    go_wp2
    go_ret2
    exact ⟨ret_bi (by first | exact E.out | simpa using E.out) rfl, B1.out⟩
  · rw [tauR_bad hc]
    rw [mwR_bad hc] at MM
    have C := Lib.hid MM
    have hne : (ck x0 == 0) = false := by simpa using hc
    generalize ck x0 = z at C hne ⊢
    clear MM hc
    go_enter Tryd.func12, Tryd.ntmps12
    go_wp2_with fail
    refine C.out.mono ?_
    rintro e w1 ⟨rfl, hb1⟩
    have B1 := Lib.hid hb1
    clear hb1
    go_wp2
    go_ret2
    exact ⟨rfl, B1.out⟩

end Go.Proofs.YtfpnmeacnhcakaaDoor
