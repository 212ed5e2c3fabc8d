/- The table of logics: what the program makes, its search in it, and LogicAxioms of both sides. Conditions: those in the theorems. -/
import Derived.Test.YtbaeacppojpplaaTb
namespace Go.Proofs.Ytbaeacppojpplaa
open Go.RowKit

def liS (j : Nat) : Nat := if j < 4 then j else j - 1
def liT (j : Nat) : Nat := if j < 4 then j else j + 1
def liV (B j : Nat) : Value := if j = 4 then .slice none 0 0 else .slice (some ⟨B + liS j, 0, none⟩) (lax j).length (lax j).length
def liO : List Obj := (List.range 15).map fun j => .cells (cS (lax (liT j))).toArray 9
def liR (B : Nat) : Array Value := ((List.range 32).map fun j => if j % 2 = 0 then Value.string (stx (nthS nmL (j / 2))) else liV B (j / 2)).toArray
/-- The table of the logics lies in block b, the lists of axioms in blocks of the call's own. -/
def TbL (w : World) (B b : Nat) : Prop := b < w.heap.size ∧ ∀ j, j < 16 → w.cell? ⟨b, j * 2, none⟩ = some (.string (stx (nthS nmL j))) ∧ w.cell? ⟨b, j * 2 + 1, none⟩ = some (liV B j) ∧ OwnS w B (liV B j) (lax j) ∧ ∀ g, (liV B j).ownBlock = some g → g < b
theorem TbL.keep {w w' : World} {B b : Nat} (h : TbL w B b) (hb : Below w.heap.size w w') : TbL w' B b := by
  refine ⟨Nat.lt_of_lt_of_le h.1 hb.size, fun j hj => ?_⟩
  obtain ⟨h1, h2, h3, h4⟩ := h.2 j hj
  exact ⟨(hb.cell (p := ⟨b, j * 2, none⟩) h.1).trans h1, (hb.cell (p := ⟨b, j * 2 + 1, none⟩) h.1).trans h2, (h3.inS.below hb (Nat.le_refl _)).1, h4⟩
theorem liO_at (j : Nat) (h : j < 15) : liO[j]? = some (.cells (cS (lax (liT j))).toArray 9) := by
  unfold liO
  rw [List.getElem?_map, List.getElem?_range h]; rfl
theorem liR_at (B j : Nat) (h : j < 32) : (liR B)[j]? = some (if j % 2 = 0 then Value.string (stx (nthS nmL (j / 2))) else liV B (j / 2)) := by
  unfold liR
  rw [List.getElem?_toArray, List.getElem?_map, List.getElem?_range h]; rfl
theorem tbl_of (w : World) : TbL ((lots w liO).alloc (.cells (liR w.heap.size) 82)) w.heap.size (w.heap.size + 15) ∧ Below w.heap.size w ((lots w liO).alloc (.cells (liR w.heap.size) 82)) := by
  have hs : (lots w liO).heap.size = w.heap.size + 15 := lots_size liO w
  have b1 : Below (w.heap.size + 15) (lots w liO) ((lots w liO).alloc (.cells (liR w.heap.size) 82)) := (Below.refl _ _).alloc (by omega) _
  refine ⟨⟨by simp [World.alloc_eq, hs], fun j hj => ⟨?_, ?_, ?_, ?_⟩⟩, (lots_below liO w).trans (b1.mono (by omega))⟩
  · have c1 := World.cell?_alloc_new (lots w liO) (liR w.heap.size) 82 (j * 2)
    rw [hs, liR_at _ _ (by omega), if_pos (by omega), Nat.mul_div_cancel _ (by decide)] at c1
    exact c1
  · have c1 := World.cell?_alloc_new (lots w liO) (liR w.heap.size) 82 (j * 2 + 1)
    rw [hs, liR_at _ _ (by omega), if_neg (by omega), show (j * 2 + 1) / 2 = j by omega] at c1
    exact c1
  · unfold liV
    by_cases h4 : j = 4
    · rw [if_pos h4, h4]; exact ownS_nil _ _
    · rw [if_neg h4]
      have hj2 : liS j < 15 := by unfold liS; split <;> omega
      have e : liT (liS j) = j := by unfold liT liS; (repeat' split) <;> omega
      refine own_lit_at ?_ (by omega) (by have := lax_len j; unfold maxLen; omega)
      rw [b1.block _ (by omega), lots_block liO w _ (by rw [liO, List.length_map, List.length_range]; exact hj2), liO_at _ hj2, e]
  · intro g hg
    unfold liV at hg
    by_cases h4 : j = 4
    · rw [if_pos h4] at hg; cases hg
    · rw [if_neg h4] at hg
      have hj2 : liS j < 15 := by unfold liS; split <;> omega
      have : w.heap.size + liS j = g := Option.some.inj hg
      omega

set_option maxHeartbeats 2000000 in
theorem logicTable_any (w : World) : Calls Try.prog 42 #[] w fun e w' => ∃ b, e = .returned (.slice (some ⟨b, 0, none⟩) 16 16) ∧ w.heap.size ≤ b ∧ TbL w' w.heap.size b ∧ Below w.heap.size w w' := by
  go_enter Try.func42, Try.ntmps42
  go_wp2
  go_ret
  exact ⟨w.heap.size + 15, rfl, by omega, (tbl_of w).1, (tbl_of w).2⟩

/-- What a search in a table answers. -/
def fdI (ns : List (List UInt8)) (s : ByteArray) : Int := if fdV ns s = -1 then 0 else fdV ns s
def fdC (ns : List (List UInt8)) (s : ByteArray) : Int := if fdV ns s = -1 then 4 else 0

set_option maxHeartbeats 2000000 in
theorem findL_any (s : ByteArray) (B b : Nat) (w : World) (h : TbL w B b) :
    Calls Try.prog 62 #[.slice (some ⟨b, 0, none⟩) 16 16, .string s] w fun e w' => e = .returned (.tuple #[.int .i64 (fdI nmL s), .int .i64 (fdC nmL s)]) ∧ Below w.heap.size w w' := by
  have H := Lib.hid h
  have hbs := h.1
  clear h
  go_enter Try.func62, Try.ntmps62
  go_wp2
  go_loopw [10] (fun i wr => ∃ k : Nat, k ≤ 16 ∧ i = .int .i64 k ∧ Hid (fdF (nmL.drop k) s (k : Int) = fdV nmL s) ∧ Hid (Below w.heap.size w wr)) (fun i _ => 16 - (intOf i).toNat)
  case atStart => exact ⟨0, by omega, rfl, Lib.hid rfl, Lib.hid (Below.refl _ _)⟩
  case round =>
    obtain ⟨k, hk, rfl, HF, HB⟩ := hrel
    by_cases hlt : k < 16
    · obtain ⟨t, ht⟩ : ∃ t, t = stx (nthS nmL k) := ⟨_, rfl⟩
      obtain ⟨u, hu⟩ : ∃ u, u = liV B k := ⟨_, rfl⟩
      obtain ⟨h1, h2, h3, -⟩ := H.out.2 k hlt
      have g1 : wr.cell? ⟨b, k * 2, none⟩ = some (.string t) := by rw [ht]; exact (HB.out.cell (p := ⟨b, k * 2, none⟩) hbs).trans h1
      have g2 : wr.cell? ⟨b, k * 2 + 1, none⟩ = some u := by rw [hu]; exact (HB.out.cell (p := ⟨b, k * 2 + 1, none⟩) hbs).trans h2
      obtain ⟨a, cap, hv, -⟩ := h3.at
      rw [← hu] at hv
      have ST := HF.out
      rw [fd_step (by show k < 16; omega), ← ht] at ST
      have ST := Lib.hid ST
      generalize (lax k).length = n at hv
      clear ht hu h1 h2 h3
      subst hv
      have B2 := Lib.hid (HB.out.alloc HB.out.size (.cells #[.string t, .slice a n cap] 82))
      by_cases e : t = s
      · subst e
        have R := Lib.hid (show Ending.returned (.tuple #[.int .i64 (k : Int), .int .i64 0]) = .returned (.tuple #[.int .i64 (fdI nmL t), .int .i64 (fdC nmL t)]) by have q := ST.out; rw [if_pos rfl] at q; rw [fdI, fdC, ← q, if_neg (by omega), if_neg (by omega)])
        clear ST HF HB
        go_wp2
        go_ret2
        exact ⟨R.out, B2.out⟩
      · have R := Lib.hid (show fdF (nmL.drop (k + 1)) s ((k + 1 : Nat) : Int) = fdV nmL s by have q := ST.out; rwa [if_neg e] at q)
        have en := bs_no e
        go_wp2
        go_roundw
        case rel => exact ⟨k + 1, hlt, by go_num, R, B2⟩
        case measure => simp [intOf]; omega
    · obtain rfl : k = 16 := by omega
      have R := Lib.hid (show (-1 : Int) = fdV nmL s by have q := HF.out; exact q)
      go_wp2
      go_ret2
      exact ⟨by rw [fdI, fdC, ← R.out]; rfl, HB.out⟩

/-- The axioms of the logic with a name; the code. -/
def laR (s : ByteArray) : List (List UInt8) := if fdV nmL s = -1 then [] else lax (fdV nmL s).toNat
def laC (s : ByteArray) : Int := fdC nmL s
theorem la_len (s : ByteArray) : (laR s).length ≤ 1048576 := by
  unfold laR
  split
  · simp
  · have := lax_len (fdV nmL s).toNat; omega

theorem LogicAxioms_len (s : ByteArray) : (laR s).length ≤ 1048576 := la_len s

set_option maxHeartbeats 2000000 in
theorem entryL_any (s : ByteArray) (B b : Nat) (w : World) (h : TbL w B b) :
    Calls Try.prog 45 #[.slice (some ⟨b, 0, none⟩) 16 16, .string s] w fun e w' => ∃ v, e = .returned (.tuple #[v, .int .i64 (laC s)]) ∧ OwnS w' B v (laR s) ∧ Below w.heap.size w w' ∧ ∀ g, v.ownBlock = some g → g < b := by
  rcases fd_cases nmL s with e0 | ⟨i, hi, hs, e0⟩
  · have E1 := Lib.hid (show fdI nmL s = 0 by rw [fdI, if_pos e0])
    have E2 := Lib.hid (show fdC nmL s = 4 by rw [fdC, if_pos e0])
    have E3 := Lib.hid (show laR s = [] by rw [laR, if_pos e0])
    have E4 := Lib.hid (show laC s = 4 by rw [laC, fdC, if_pos e0])
    have H := Lib.hid h
    clear h e0
    go_enter Try.func45, Try.ntmps45
    go_wp2_with fail
    refine (findL_any s B b w H.out).mono ?_
    rw [E1.out, E2.out]
    rintro e w1 ⟨rfl, hb⟩
    go_wp2
    go_ret2
    exact ⟨_, by rw [E4.out]; rfl, by rw [E3.out]; exact ownS_nil _ _, hb, fun g hg => by cases hg⟩
  · have hi2 : i < 16 := hi
    have hi3 : (i : Int) < 16 := by omega
    have E1 := Lib.hid (show fdI nmL s = i by rw [fdI, if_neg (by rw [e0]; omega), e0])
    have E2 := Lib.hid (show fdC nmL s = 0 by rw [fdC, if_neg (by rw [e0]; omega)])
    have E3 := Lib.hid (show laR s = lax i by rw [laR, if_neg (by rw [e0]; omega), e0]; rfl)
    have E4 := Lib.hid (show laC s = 0 by rw [laC, fdC, if_neg (by rw [e0]; omega)])
    have H := Lib.hid h
    have hbs := h.1
    clear h e0 hs hi
    go_enter Try.func45, Try.ntmps45
    go_wp2_with fail
    refine (findL_any s B b w H.out).mono ?_
    rw [E1.out, E2.out]
    rintro e w1 ⟨rfl, hb⟩
    obtain ⟨-, g2, ho, hg⟩ := (H.out.keep hb).2 i hi2
    have HO := Lib.hid ho
    have HG := Lib.hid hg
    clear ho hg
    obtain ⟨u, hu⟩ : ∃ u, u = liV B i := ⟨_, rfl⟩
    rw [← hu] at g2 HO HG
    clear hu
    go_wp2
    go_ret2
    exact ⟨_, by rw [E4.out]; rfl, by rw [E3.out]; exact HO.out, hb, HG.out⟩

set_option maxHeartbeats 2000000 in
theorem implLogicAxioms_v (s : ByteArray) (w : World) :
    Calls Try.prog 19 #[.string s] w fun e w' => ∃ v, e = .returned (.tuple #[v, .int .i64 (laC s)]) ∧ OwnS w' w.heap.size v (laR s) ∧ Below w.heap.size w w' := by
  go_enter Try.func19, Try.ntmps19
  go_wp2_with fail
  refine (logicTable_any _).mono ?_
  rintro e w1 ⟨b, rfl, -, ht, hb⟩
  have HT := Lib.hid ht
  have HB := Lib.hid hb
  clear ht hb
  go_wp2_with fail
  refine (entryL_any s _ _ _ HT.out).mono ?_
  rintro e w2 ⟨v, rfl, ho, hb2, -⟩
  have HB2 := Lib.hid (HB.out.trans (hb2.mono HB.out.size))
  have HO := Lib.hid ho
  clear ho hb2
  go_wp2
  go_ret2
  exact ⟨_, rfl, HO.out, HB2.out⟩

set_option maxHeartbeats 2000000 in
theorem specLogicAxioms_v (s : ByteArray) (w : World) :
    Calls Try.prog 18 #[.string s] w fun e w' => ∃ v, e = .returned (.tuple #[v, .int .i64 (laC s)]) ∧ OwnS w' w.heap.size v (laR s) ∧ Below w.heap.size w w' := by
  rcases fd_cases nmL s with e0 | ⟨i, hi, hs, e0⟩
  · have E0 := Lib.hid e0
    have E3 := Lib.hid (show laR s = [] by rw [laR, if_pos e0])
    have E4 := Lib.hid (show laC s = 4 by rw [laC, fdC, if_pos e0])
    clear e0
    go_enter Try.func18, Try.ntmps18
    go_wp2_with fail
    refine (l09Logics_any _).mono ?_
    rintro e w1 ⟨v, rfl, ho, hb⟩
    obtain ⟨a, cap, rfl, hat, -⟩ := ho.at
    have hat2 := Lib.hid hat
    have B1 := Lib.hid hb
    clear ho hb hat
    go_wp2_with fail
    refine (l09Find_any nmL s a cap w1 (by decide) hat2.out).mono ?_
    rw [E0.out]
    rintro e w2 ⟨rfl, hb2⟩
    have B2 := Lib.hid (B1.out.trans (hb2.mono B1.out.size))
    clear hb2
    go_wp2
    go_ret2
    exact ⟨_, by rw [E4.out]; rfl, by rw [E3.out]; exact ownS_nil _ _, B2.out⟩
  · have hi2 : i < 16 := hi
    have hi3 : (i : Int) < 16 := by omega
    have E0 := Lib.hid e0
    have E3 := Lib.hid (show laR s = lax i by rw [laR, if_neg (by rw [e0]; omega), e0]; rfl)
    have E4 := Lib.hid (show laC s = 0 by rw [laC, fdC, if_neg (by rw [e0]; omega)])
    clear e0 hs hi
    go_enter Try.func18, Try.ntmps18
    go_wp2_with fail
    refine (l09Logics_any _).mono ?_
    rintro e w1 ⟨v, rfl, ho, hb⟩
    obtain ⟨a, cap, rfl, hat, -⟩ := ho.at
    have hat2 := Lib.hid hat
    have B1 := Lib.hid hb
    clear ho hb hat
    go_wp2_with fail
    refine (l09Find_any nmL s a cap w1 (by decide) hat2.out).mono ?_
    rw [E0.out]
    rintro e w2 ⟨rfl, hb2⟩
    have B2 := Lib.hid (B1.out.trans (hb2.mono B1.out.size))
    clear hb2
    go_wp2_with fail
    refine (l09Axioms_any i hi2 s E0.out _).mono ?_
    rintro e w3 ⟨v, rfl, ho, hb⟩
    have B3 := Lib.hid (B2.out.trans (hb.mono B2.out.size))
    have HO := Lib.hid (ho.mono B2.out.size)
    clear ho hb
    go_wp2
    go_ret2
    exact ⟨_, by rw [E4.out]; rfl, by rw [E3.out]; exact HO.out, B3.out⟩

set_option maxHeartbeats 2000000 in
theorem implLogicName_any (i : Int) (w : World) : Calls Try.prog 17 #[.int .i64 i] w fun e w' => e = .returned (.tuple #[.string (atR nmL i), .int .i64 (atC nmL i)]) ∧ Below w.heap.size w w' := by
  have E : (inB i 0 15 = true ∧ atR nmL i = stx (nthS nmL i.toNat) ∧ atC nmL i = 0 ∧ 0 ≤ i ∧ i < 16) ∨ (inB i 0 15 = false ∧ atR nmL i = stx [] ∧ atC nmL i = 2) := at_cases nmL i 15 rfl
  go_enter Try.func17, Try.ntmps17
  go_wp2_with fail
  refine (logicTable_any _).mono ?_
  rintro e w1 ⟨b, rfl, -, ht, hb⟩
  have HB := Lib.hid hb
  clear hb
  rcases E with ⟨e1, e2, e3, h0, h1⟩ | ⟨e1, e2, e3⟩
  · obtain ⟨j, rfl⟩ := Int.eq_ofNat_of_zero_le h0
    obtain ⟨t, he⟩ : ∃ t, t = stx (nthS nmL j) := ⟨_, rfl⟩
    have g1 : w1.cell? ⟨b, j * 2, none⟩ = some (.string t) := by rw [he]; exact (ht.2 j (by omega)).1
    have R := Lib.hid (show Ending.returned (.tuple #[.string t, .int .i64 0]) = .returned (.tuple #[.string (atR nmL (j : Int)), .int .i64 (atC nmL (j : Int))]) by rw [e2, e3, he]; rfl)
    clear e1 e2 e3 he ht h0
    go_wp2
    go_ret2
    exact ⟨R.out, HB.out⟩
  · have R := Lib.hid (show Ending.returned (.tuple #[.string (stx []), .int .i64 2]) = .returned (.tuple #[.string (atR nmL i), .int .i64 (atC nmL i)]) by rw [e2, e3])
    have h3 : i < 0 ∨ 16 ≤ i := by
      have := e1; unfold inB at this; simp at this; omega
    clear e1 e2 e3 ht
    rcases h3 with h3 | h3
    · go_wp2
      go_ret2
      exact ⟨R.out, HB.out⟩
    · have h5 : decide (i < 16) = false := decide_eq_false (by omega)
      go_wp2
      go_ret2
      exact ⟨R.out, HB.out⟩

end Go.Proofs.Ytbaeacppojpplaa
