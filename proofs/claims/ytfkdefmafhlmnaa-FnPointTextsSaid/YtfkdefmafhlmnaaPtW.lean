/- What the readers of point formulas make of the text of a point formula: this formula. Conditions: those in the theorems. -/
import Derived.Test.YtfkdefmafhlmnaaJn05
import Derived.Test.YtfkdefmafhlmnaaJn08
namespace Go.Proofs.Ytfkdefmafhlmnaa
open Go.RowKit

theorem hdN_cons (c : UInt8) (r : List UInt8) : hdN (c :: r) = c.toNat := rfl
theorem hd_dg {x : Int} (h0 : 0 ≤ x) (h1 : x ≤ 9) (r : List UInt8) : (hdN (dg x :: r) : Int) = 48 + x := dg_cases h0 h1
theorem pt_dg {x : Int} (h0 : 0 ≤ x) (h1 : x ≤ 9) (r : List UInt8) : ptN (dg x :: r) = x := by
  have := hd_dg h0 h1 r
  unfold ptN; omega
theorem dgB_dg {x : Int} (h0 : 0 ≤ x) (h1 : x ≤ 9) (r : List UInt8) : dgB (dg x :: r) = true := by
  have := hd_dg h0 h1 r
  unfold dgB; simp; omega
theorem dv_dg {x : Int} (h0 : 0 ≤ x) (h1 : x ≤ 9) (r : List UInt8) : dvN (dg x :: r) = x := by
  have := hd_dg h0 h1 r
  unfold dvN; rw [dgB_dg h0 h1]; simp; omega
theorem hd_va {x : Int} (h0 : 0 ≤ x) (h1 : x ≤ 5) (r : List UInt8) : (hdN (UInt8.ofNat (112 + x.toNat) :: r) : Int) = 112 + x ∧ ixB vaB (hdN (UInt8.ofNat (112 + x.toNat) :: r)) = x := by
  have hx : x = 0 ∨ x = 1 ∨ x = 2 ∨ x = 3 ∨ x = 4 ∨ x = 5 := by omega
  rcases hx with rfl | rfl | rfl | rfl | rfl | rfl <;> exact ⟨by rfl, by rw [hdN_cons]; decide⟩
theorem ix_dg {c : Nat} (h0 : 48 ≤ c) (h1 : c ≤ 57) : ixB vaB c = -1 := by
  have hx : c = 48 ∨ c = 49 ∨ c = 50 ∨ c = 51 ∨ c = 52 ∨ c = 53 ∨ c = 54 ∨ c = 55 ∨ c = 56 ∨ c = 57 := by omega
  rcases hx with rfl | rfl | rfl | rfl | rfl | rfl | rfl | rfl | rfl | rfl <;> decide
theorem encP_leF {f : Pt} (hf : f.ok) (h : f.enc = [(3, 0, 0)]) : f = .le 3 0 0 := by
  have h3 : (Pt.le 3 0 0).ok := .inr (.inr ⟨rfl, rfl, rfl⟩)
  exact (encP_inj f hf (.le 3 0 0) [] [] h3 (by rw [h]; rfl)).1

theorem kdS_app (ls : List Pd) (a : Pd) (zs : List Pd) (k : Int) : kdS (ls ++ a :: zs) ls.length k = ls ++ (k, a.2.1, a.2.2) :: zs := by
  unfold kdS fp tp
  simp [List.getD_eq_getElem?_getD]

/-- The program's reader. -/
theorem rd_wr (f : Pt) : f.ok → ∀ (n : Nat) (r : List UInt8) (ls : List Pd), ls.length + f.sz ≤ 120 → 122 ≤ n + ls.length → rd n (f.wr ++ r) ls = (r, ls ++ f.enc) := by
  induction f with
  | le k x y =>
    intro hf n r ls hl hn
    obtain ⟨n, rfl⟩ : ∃ m, n = m + 1 := ⟨n - 1, by simp only [Pt.sz] at hl; omega⟩
    have hb : ¬ 120 < ls.length := by simp only [Pt.sz] at hl; omega
    rcases hf with ⟨rfl | rfl, h1, h2, h3, h4⟩ | ⟨rfl, h1, h2, h3, h4⟩ | ⟨rfl, rfl, rfl⟩
    · show rd (n + 1) (82 :: dg x :: dg y :: r) ls = _
      rw [rd, if_neg hb, if_pos (by rfl)]
      simp only [List.tail_cons, pt_dg h1 h2, pt_dg h3 h4]
      rfl
    · show rd (n + 1) (dg x :: 61 :: dg y :: r) ls = _
      have hh := hd_dg h1 h2 (61 :: dg y :: r)
      have hi := ix_dg (c := hdN (dg x :: 61 :: dg y :: r)) (by omega) (by omega)
      rw [rd, if_neg hb, if_neg (by omega), if_neg (by omega), if_neg (by omega), if_neg (by omega), if_neg (by omega), if_neg (by rw [hi]; decide)]
      simp only [List.tail_cons, pt_dg h3 h4]
      rw [show ((hdN (dg x :: 61 :: dg y :: r) : Nat) : Int) - 48 = x by omega]
      rfl
    · show rd (n + 1) (UInt8.ofNat (112 + x.toNat) :: dg y :: r) ls = _
      obtain ⟨hh, hi⟩ := hd_va h1 h2 (dg y :: r)
      rw [rd, if_neg hb, if_neg (by omega), if_neg (by omega), if_neg (by omega), if_neg (by omega), if_neg (by omega), if_pos (by rw [hi]; exact h1), hi]
      simp only [List.tail_cons, pt_dg h3 h4]
      rfl
    · show rd (n + 1) (70 :: r) ls = _
      rw [rd, if_neg hb, if_neg (by simp only [hdN_cons]; decide), if_pos (by rfl)]
      rfl
  | un k x a ih =>
    intro hf n r ls hl hn
    simp only [Pt.sz] at hl
    obtain ⟨hk, ⟨h1, h2⟩, ha⟩ := hf
    obtain ⟨n, rfl⟩ : ∃ m, n = m + 1 := ⟨n - 1, by omega⟩
    have hb : ¬ 120 < ls.length := by omega
    rcases hk with rfl | rfl
    · show rd (n + 1) (65 :: dg x :: (a.wr ++ r)) ls = _
      rw [rd, if_neg hb, if_neg (by simp only [hdN_cons]; decide), if_neg (by simp only [hdN_cons]; decide), if_pos (.inl rfl)]
      simp only [List.tail_cons, pt_dg h1 h2]
      rw [show 7 + ixB qtL (hdN (65 :: dg x :: (a.wr ++ r))) = 7 by simp only [hdN_cons]; decide, ih ha n r _ (by simp; omega) (by simp; omega)]
      simp [Pt.enc]
    · show rd (n + 1) (69 :: dg x :: (a.wr ++ r)) ls = _
      rw [rd, if_neg hb, if_neg (by simp only [hdN_cons]; decide), if_neg (by simp only [hdN_cons]; decide), if_pos (.inr rfl)]
      simp only [List.tail_cons, pt_dg h1 h2]
      rw [show 7 + ixB qtL (hdN (69 :: dg x :: (a.wr ++ r))) = 8 by simp only [hdN_cons]; decide, ih ha n r _ (by simp; omega) (by simp; omega)]
      simp [Pt.enc]
  | bi k a b iha ihb =>
    intro hf n r ls hl hn
    simp only [Pt.sz] at hl
    obtain ⟨hk, ha, hb'⟩ := hf
    obtain ⟨n, rfl⟩ : ∃ m, n = m + 1 := ⟨n - 1, by omega⟩
    have hb : ¬ 120 < ls.length := by omega
    by_cases hq : k = 6 ∧ b.enc = [(3, 0, 0)]
    · obtain ⟨rfl, hq2⟩ := hq
      have e : (Pt.bi 6 a b).wr ++ r = 126 :: (a.wr ++ r) := by rw [Pt.wr, if_pos ⟨rfl, hq2⟩]; rfl
      rw [e, rd, if_neg hb, if_neg (by simp only [hdN_cons]; decide), if_neg (by simp only [hdN_cons]; decide), if_neg (by simp only [hdN_cons]; decide), if_pos (by rfl)]
      simp only [List.tail_cons]
      rw [iha ha n r _ (by simp; omega) (by simp; omega)]
      simp [Pt.enc, hq2]
    · have e : (Pt.bi k a b).wr ++ r = 40 :: (a.wr ++ ((if k = 4 then 38 else if k = 5 then 124 else 62) :: (b.wr ++ (41 :: r)))) := by rw [Pt.wr, if_neg hq]; simp
      rw [e, rd, if_neg hb, if_neg (by simp only [hdN_cons]; decide), if_neg (by simp only [hdN_cons]; decide), if_neg (by simp only [hdN_cons]; decide), if_neg (by simp only [hdN_cons]; decide), if_pos (by rfl)]
      simp only [List.tail_cons]
      have hk2 : 4 + ixB lkL (hdN ((if k = 4 then (38 : UInt8) else if k = 5 then 124 else 62) :: (b.wr ++ (41 :: r)))) = k := by
        rcases hk with rfl | rfl | rfl <;> (simp only [hdN_cons]; decide)
      rw [iha ha n _ _ (by simp; omega) (by simp; omega)]
      simp only [List.tail_cons, hk2]
      rw [show ls ++ [(0, 0, 0)] ++ a.enc = ls ++ (0, 0, 0) :: a.enc by simp, kdS_app, ihb hb' n _ _ (by simp [Pt.enc_len]; omega) (by simp [Pt.enc_len]; omega)]
      simp [Pt.enc]

/-- The model's reader. -/
theorem mr_wr (f : Pt) : f.ok → ∀ (n : Nat) (r : List UInt8), (f.wr ++ r).length < n → mr n (f.wr ++ r) false = (r, false, f.enc) := by
  induction f with
  | le k x y =>
    intro hf n r hn
    obtain ⟨n, rfl⟩ : ∃ m, n = m + 1 := ⟨n - 1, by omega⟩
    rcases hf with ⟨rfl | rfl, h1, h2, h3, h4⟩ | ⟨rfl, h1, h2, h3, h4⟩ | ⟨rfl, rfl, rfl⟩
    · show mr (n + 1) (82 :: dg x :: dg y :: r) false = _
      rw [mr, if_neg (by simp), if_pos (by rfl)]
      simp only [List.tail_cons, dv_dg h1 h2, dv_dg h3 h4, dgB_dg h1 h2, dgB_dg h3 h4]
      rfl
    · show mr (n + 1) (dg x :: 61 :: dg y :: r) false = _
      have hh := hd_dg h1 h2 (61 :: dg y :: r)
      rw [mr, if_neg (by simp), if_neg (by omega), if_neg (by omega), if_neg (by omega), if_neg (by omega), if_neg (by omega), if_pos (by omega)]
      simp only [List.tail_cons, dv_dg h3 h4, dgB_dg h3 h4]
      rw [show ((hdN (dg x :: 61 :: dg y :: r) : Nat) : Int) - 48 = x by omega]
      rfl
    · show mr (n + 1) (UInt8.ofNat (112 + x.toNat) :: dg y :: r) false = _
      obtain ⟨hh, -⟩ := hd_va h1 h2 (dg y :: r)
      rw [mr, if_neg (by simp), if_neg (by omega), if_neg (by omega), if_neg (by omega), if_neg (by omega), if_pos (by omega)]
      simp only [List.tail_cons, dv_dg h3 h4, dgB_dg h3 h4]
      rw [show ((hdN (UInt8.ofNat (112 + x.toNat) :: dg y :: r) : Nat) : Int) - 112 = x by omega]
      rfl
    · show mr (n + 1) (70 :: r) false = _
      rw [mr, if_neg (by simp), if_neg (by simp only [hdN_cons]; decide), if_pos (by rfl)]
      rfl
  | un k x a ih =>
    intro hf n r hn
    obtain ⟨hk, ⟨h1, h2⟩, ha⟩ := hf
    obtain ⟨n, rfl⟩ : ∃ m, n = m + 1 := ⟨n - 1, by omega⟩
    rcases hk with rfl | rfl
    · have e : (Pt.un 7 x a).wr ++ r = 65 :: dg x :: (a.wr ++ r) := rfl
      rw [e] at hn ⊢
      rw [mr, if_neg (by simp), if_neg (by simp only [hdN_cons]; decide), if_neg (by simp only [hdN_cons]; decide), if_neg (by simp only [hdN_cons]; decide), if_pos (.inl rfl)]
      simp only [List.tail_cons, dv_dg h1 h2, dgB_dg h1 h2, Bool.not_true]
      rw [ih ha n r (by simp only [List.length_cons] at hn; omega)]
      rfl
    · have e : (Pt.un 8 x a).wr ++ r = 69 :: dg x :: (a.wr ++ r) := rfl
      rw [e] at hn ⊢
      rw [mr, if_neg (by simp), if_neg (by simp only [hdN_cons]; decide), if_neg (by simp only [hdN_cons]; decide), if_neg (by simp only [hdN_cons]; decide), if_pos (.inr rfl)]
      simp only [List.tail_cons, dv_dg h1 h2, dgB_dg h1 h2, Bool.not_true]
      rw [ih ha n r (by simp only [List.length_cons] at hn; omega)]
      rfl
  | bi k a b iha ihb =>
    intro hf n r hn
    obtain ⟨hk, ha, hb'⟩ := hf
    obtain ⟨n, rfl⟩ : ∃ m, n = m + 1 := ⟨n - 1, by omega⟩
    by_cases hq : k = 6 ∧ b.enc = [(3, 0, 0)]
    · obtain ⟨rfl, hq2⟩ := hq
      have e : (Pt.bi 6 a b).wr ++ r = 126 :: (a.wr ++ r) := by rw [Pt.wr, if_pos ⟨rfl, hq2⟩]; rfl
      rw [e] at hn ⊢
      rw [mr, if_neg (by simp), if_neg (by simp only [hdN_cons]; decide), if_neg (by simp only [hdN_cons]; decide), if_pos (by rfl)]
      simp only [List.tail_cons]
      rw [iha ha n r (by simp only [List.length_cons] at hn; omega)]
      simp [Pt.enc, hq2]
    · have e : (Pt.bi k a b).wr ++ r = 40 :: (a.wr ++ ((if k = 4 then 38 else if k = 5 then 124 else 62) :: (b.wr ++ (41 :: r)))) := by rw [Pt.wr, if_neg hq]; simp
      rw [e] at hn ⊢
      rw [mr, if_neg (by simp), if_neg (by simp only [hdN_cons]; decide), if_neg (by simp only [hdN_cons]; decide), if_neg (by simp only [hdN_cons]; decide), if_neg (by simp only [hdN_cons]; decide), if_neg (by simp only [hdN_cons]; decide), if_neg (by simp only [hdN_cons]; decide), if_pos (by rfl)]
      simp only [List.tail_cons]
      have hk2 : sgK (hdN ((if k = 4 then (38 : UInt8) else if k = 5 then 124 else 62) :: (b.wr ++ (41 :: r)))) = k ∧ sgB (hdN ((if k = 4 then (38 : UInt8) else if k = 5 then 124 else 62) :: (b.wr ++ (41 :: r)))) = true := by
        rcases hk with rfl | rfl | rfl <;> (simp only [hdN_cons]; exact ⟨by decide, by decide⟩)
      have ea := iha ha n ((if k = 4 then 38 else if k = 5 then 124 else 62) :: (b.wr ++ (41 :: r))) (by simp only [List.length_cons] at hn; omega)
      have eb := ihb hb' n (41 :: r) (by simp only [List.length_cons, List.length_append] at hn ⊢; omega)
      simp only [ea, List.tail_cons, hk2.1, hk2.2, List.isEmpty_cons, Bool.or_false, eb]
      simp [Pt.enc, hdN]

end Go.Proofs.Ytfkdefmafhlmnaa
