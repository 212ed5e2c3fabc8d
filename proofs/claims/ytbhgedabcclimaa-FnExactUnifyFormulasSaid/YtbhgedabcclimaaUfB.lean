/- Contract of the method bind of the program's unification. Conditions: those in the theorems. -/
import Derived.Test.YtbhgedabcclimaaUfJ
import Derived.Test.YtbhgedabcclimaaComp2
import Derived.Laws.Rows
namespace Go.Proofs.Ytbhgedabcclimaa
open Go.RowKit

set_option maxHeartbeats 4000000 in
theorem imagesB_any (R R' : Nat) (s : Int → List Nd) (xss : List (List Nd)) (a : Option Addr) (len cap : Nat) (w : World) (hl : len ≤ 4096) (hf : fms xss) (h : AtNN w a len xss) (hi : Img1 w 108 #[.pointer (some ⟨R, 0, none⟩), .pointer (some ⟨R', 0, none⟩)] s) (hs : ∀ q : Nat, q ≤ 5 → 0 < (s q).length ∧ (s q).length ≤ 40) :
    Calls Try.prog 70 #[.func (.func 108) #[] #[.pointer (some ⟨R, 0, none⟩), .pointer (some ⟨R', 0, none⟩)], .slice a len cap] w fun e w' => ∃ v, e = .returned v ∧ OwnL w' w.heap.size v (thTo s xss len) ∧ Below w.heap.size w w' := by
  have H := Lib.hid h
  have HI := Lib.hid hi
  have HS := Lib.hid hs
  have F := Lib.hid hf
  have X := Lib.hid h.1
  obtain ⟨i0, hinf, hz0, hz1, hz2⟩ := info_parts infoNN
  clear h hi hs hf
  go_enter Try.func70, Try.ntmps70
  go_wp2_with (at_make; refine wpList_make_own _ rfl _ _ 30 rfl w.heap.size 26 i0 (.slice none 0 0) 1 Try.underlying30 hinf hz0 hz1 _ _ _ len rfl rfl rfl ?b2 ?b3 (Nat.le_refl _) ?_)
  case b2 => rw [hz2]; omega
  case b3 => unfold maxLen; omega
  intro w0 hown0 hgrow0
  have L0 := Lib.hid (ownL_row hown0)
  have B0 := Lib.hid ((Below.refl w.heap.size w).grown hgrow0 (Nat.le_refl _) (fun k h => by cases h))
  clear hown0 hinf hz0 hz1 hz2 hgrow0
  go_wp2
  go_loopw [5, 13] (fun v i wr => ∃ j : Nat, j ≤ len ∧ i = .int .i64 j ∧ OwnL wr w.heap.size v (thTo s xss j) ∧ Below w.heap.size w wr) (fun _ i _ => len - (intOf i).toNat)
  case atStart => exact ⟨0, Nat.zero_le _, rfl, L0.out, B0.out⟩
  case round =>
    obtain ⟨k, hk, rfl, hown, hbel⟩ := hrel
    have HO := Lib.hid hown
    have B := Lib.hid hbel
    have LN := Lib.hid (thTo_len s xss k)
    clear hown hbel
    by_cases hlt : k < len
    · have N := Lib.hid (thTo_succ s xss k)
      obtain ⟨b, off, rfl, hb, hc⟩ := (H.out.keep B.out (Nat.le_refl _)).2.resolve_left (by omega)
      obtain ⟨a1, c1, hcell, hat1⟩ := hc k hlt
      have hfk := F.out k (by rw [← X.out]; exact hlt)
      have A1 := Lib.hid hat1
      have FK := Lib.hid (is_treeTo' hfk)
      obtain ⟨m, hm⟩ : ∃ m, m = (nthL xss k).length := ⟨_, rfl⟩
      have hm40 : m ≤ 40 := by rw [hm]; exact (is_pos' hfk).2
      rw [← hm] at hcell A1 FK N
      clear hc hat1 hfk hm
      go_wp2_with fail
      refine (imageB_any R R' s (nthL xss k) a1 m c1 _ hm40 FK.out A1.out (HI.out.keep B.out) HS.out).mono ?_
      rintro e w1 ⟨v1, rfl, ho1, hb1⟩
      obtain ⟨a2, c2, rfl, -⟩ := ho1.at
      have O1 := Lib.hid ho1
      have B1 := Lib.hid hb1
      clear ho1 hb1
      go_wp2_with (at_builtin; refine list_appLL rfl _ _ rfl w.heap.size _ _ rfl HO.out B1.out _ _ O1.out ((Below.refl _ _).alloc (Nat.le_refl _) _) ⟨w1.heap.size, 0, none⟩ 1 rfl (World.cell?_alloc_at _ _ _ _ rfl) (by rw [LN.out]; omega) B.out.size ?_; intro v2 w2 ho2 hb2)
      have O2 := Lib.hid ho2
      have B2 := Lib.hid (B.out.trans hb2)
      clear ho2 hb2
      go_roundw
      case rel => exact ⟨k + 1, hlt, by go_num, by rw [N.out]; exact O2.out, B2.out⟩
      case measure => simp [intOf]; omega
    · obtain rfl : k = len := by omega
      go_wp2
      go_ret
      exact ⟨_, rfl, HO.out, B.out⟩

theorem OwnL.setR {w : World} {B R : Nat} {va vb vi v : Value} {xss : List (List Nd)} (h : OwnL w B v xss) (hR : UnR w R va vb vi) (o : Nat) (u : Value) : OwnL (w.setCell ⟨R, o, none⟩ u) B v xss := by
  obtain ⟨us, h1, h2, h3⟩ := h
  exact ⟨us, row_set h1 hR tyU.1 o u, fun j hj => row_set (h2 j hj) hR tyU.2 o u, h3⟩
theorem OwnN.setR {w : World} {B R : Nat} {va vb vi v : Value} {xs : List Nd} (h : OwnN w B v xs) (hR : UnR w R va vb vi) (o : Nat) (u : Value) : OwnN (w.setCell ⟨R, o, none⟩ u) B v xs := row_set h hR tyU.2 o u
theorem UnR.set0 {w : World} {R : Nat} {va vb vi : Value} (h : UnR w R va vb vi) (u : Value) : UnR (w.setCell ⟨R, 0, none⟩ u) R u vb vi := heap_setCell_same w R 0 _ _ u h
theorem UnR.set1 {w : World} {R : Nat} {va vb vi : Value} (h : UnR w R va vb vi) (u : Value) : UnR (w.setCell ⟨R, 1, none⟩ u) R va u vi := heap_setCell_same w R 1 _ _ u h
theorem UnR.set2 {w : World} {R : Nat} {va vb vi : Value} (h : UnR w R va vb vi) (u : Value) : UnR (w.setCell ⟨R, 2, none⟩ u) R va vb u := heap_setCell_same w R 2 _ _ u h
theorem AtN.setO {w : World} {a : Option Addr} {n : Nat} {xs : List Nd} (h : AtN w a n xs) (R o : Nat) (u : Value) (hne : ∀ b off, a = some ⟨b, off, none⟩ → b ≠ R) : AtN (w.setCell ⟨R, o, none⟩ u) a n xs := by
  have hg := rgrown_set w R o u
  refine ⟨h.1, h.2.imp id ?_⟩
  rintro ⟨b, off, rfl, hb, hc⟩
  have hh := hg.block b hb (fun e => hne b off rfl (by cases e; rfl))
  refine ⟨b, off, rfl, by simpa [World.setCell] using hb, fun j hj => ?_⟩
  have := hc j hj
  simp only [World.cell?, hh] at this ⊢
  exact this

end Go.Proofs.Ytbhgedabcclimaa
