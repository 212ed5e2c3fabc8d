/- LogicsOfFrame of both sides. Conditions: those in the theorems. -/
import Derived.Test.YtbaeacppojpplaaAn
namespace Go.Proofs.Ytbaeacppojpplaa
open Go.RowKit

def loR (n : Int) (xs : List Int) : List (List UInt8) := if frB n xs then lnTo (fun j => lgB j xs) 16 else []
def loC (n : Int) (xs : List Int) : Int := if frB n xs then 0 else 1
theorem LogicsOfFrame_len (n : Int) (xs : List Int) : (loR n xs).length ≤ 1048576 := by
  unfold loR
  split
  · have := lnTo_len (fun j => lgB j xs) 16; omega
  · simp

set_option maxHeartbeats 2000000 in
set_option maxRecDepth 100000 in
theorem specLogicsOfFrame_any (n : Int) (xs : List Int) (a : Option Addr) (len cap : Nat) (w : World) (hl : len ≤ 1048576) (h : At w a len xs) :
    Calls Try.prog 25 #[.agg #[.int .i64 n, .slice a len cap]] w fun e w' => ∃ v, e = .returned (.tuple #[v, .int .i64 (loC n xs)]) ∧ OwnS w' w.heap.size v (loR n xs) ∧ Below w.heap.size w w' := by
  obtain ⟨W, hW, HB, X⟩ : ∃ W : World, W = w.alloc (.cells #[.int .i64 n, .slice a len cap] 31) ∧ Hid (Below w.heap.size w W) ∧ Hid (Bx W w.heap.size n a len cap) := ⟨_, rfl, Lib.hid (alloc_keep _ _).1, Lib.hid (Bx.new _ _ _ _ _ _)⟩
  have HW := Lib.hid hW
  have H := Lib.hid (h.keep HB.out (Nat.le_refl _))
  have h0 := h.1
  clear h hW
  cases hb : frB n xs
  · have EC := Lib.hid (show loC n xs = 1 by rw [loC, hb]; rfl)
    have ER := Lib.hid (show loR n xs = [] by rw [loR, hb]; rfl)
    have FB := Lib.hid hb
    clear hb h0
    obtain ⟨lt, x0, x1⟩ := X.out
    go_enter Try.func25, Try.ntmps25
    go_wp2_with fail
    rw [← HW.out]
    refine (l05Is_any n xs a len cap _ hl H.out).mono ?_
    rw [FB.out]
    rintro e w1 ⟨rfl, hb⟩
    have B1 := Lib.hid (HB.out.trans (hb.mono HB.out.size))
    clear hb
    go_wp2
    go_ret2
    exact ⟨_, by rw [EC.out]; rfl, by rw [ER.out]; exact ownS_nil _ _, B1.out⟩
  · obtain ⟨hn, h8, -, hr⟩ := frB_ok hb
    have EC := Lib.hid (show loC n xs = 0 by rw [loC, hb]; rfl)
    have ER := Lib.hid (show loR n xs = lnTo (fun j => lgB j xs) 16 by rw [loR, hb]; rfl)
    have FB := Lib.hid hb
    have HR := Lib.hid hr
    subst hn
    obtain rfl := h0
    clear hb hr
    obtain ⟨lt, x0, x1⟩ := X.out
    go_enter Try.func25, Try.ntmps25
    go_wp2_with fail
    rw [← HW.out]
    refine (l05Is_any xs.length xs a xs.length cap _ hl H.out).mono ?_
    rw [FB.out]
    rintro e w1 ⟨rfl, hb⟩
    have T1 := Lib.hid hb
    clear hb x0 x1
    obtain ⟨ly, x0, x1⟩ := X.out.keep T1.out
    go_wp2_with fail
    refine (l09LogicsOf_any xs a cap _ h8 HR.out (H.out.keep T1.out (Nat.le_refl _))).mono ?_
    rintro e w2 ⟨v, rfl, ho, hb⟩
    have T2 := Lib.hid (T1.out.trans (hb.mono T1.out.size))
    have O2 := Lib.hid ho
    clear hb ho
    go_wp2
    go_ret2
    exact ⟨_, by rw [EC.out]; rfl, by rw [ER.out]; exact O2.out.mono (HB.out.trans (T1.out.mono HB.out.size)).size, HB.out.trans (T2.out.mono HB.out.size)⟩
theorem specLogicsOfFrame_v (n : Int) (xs : List Int) (v : Value) (lo hi : Nat) (w : World) (hl : xs.length ≤ 1048576) (h : InF w lo hi v n xs) :
    Calls Try.prog 25 #[v] w fun e w' => ∃ v, e = .returned (.tuple #[v, .int .i64 (loC n xs)]) ∧ OwnS w' w.heap.size v (loR n xs) ∧ Below w.heap.size w w' := by
  obtain ⟨a, cap, rfl, hat, -⟩ := h.at
  exact specLogicsOfFrame_any n xs a _ cap w hl hat

set_option maxHeartbeats 2000000 in
set_option maxRecDepth 100000 in
theorem implLogicsOfFrame_any (n : Int) (xs : List Int) (a : Option Addr) (len cap : Nat) (w : World) (hl : len ≤ 1048576) (h : At w a len xs) :
    Calls Try.prog 26 #[.agg #[.int .i64 n, .slice a len cap]] w fun e w' => ∃ v, e = .returned (.tuple #[v, .int .i64 (loC n xs)]) ∧ OwnS w' w.heap.size v (loR n xs) ∧ Below w.heap.size w w' := by
  obtain ⟨W, hW, HB, X⟩ : ∃ W : World, W = w.alloc (.cells #[.int .i64 n, .slice a len cap] 31) ∧ Hid (Below w.heap.size w W) ∧ Hid (Bx W w.heap.size n a len cap) := ⟨_, rfl, Lib.hid (alloc_keep _ _).1, Lib.hid (Bx.new _ _ _ _ _ _)⟩
  have HW := Lib.hid hW
  have H := Lib.hid (h.keep HB.out (Nat.le_refl _))
  have h0 := h.1
  clear h hW
  cases hb : frB n xs
  · have EC := Lib.hid (show loC n xs = 1 by rw [loC, hb]; rfl)
    have ER := Lib.hid (show loR n xs = [] by rw [loR, hb]; rfl)
    have FB := Lib.hid hb
    clear hb h0
    obtain ⟨lt, x0, x1⟩ := X.out
    go_enter Try.func26, Try.ntmps26
    go_wp2_with fail
    rw [← HW.out]
    refine (implIsFrame_any n xs a len cap _ hl H.out).mono ?_
    rw [FB.out]
    rintro e w1 ⟨rfl, hb⟩
    have B1 := Lib.hid (HB.out.trans (hb.mono HB.out.size))
    clear hb
    go_wp2
    go_ret2
    exact ⟨_, by rw [EC.out]; rfl, by rw [ER.out]; exact ownS_nil _ _, B1.out⟩
  · obtain ⟨hn, h8, -, hr⟩ := frB_ok hb
    have EC := Lib.hid (show loC n xs = 0 by rw [loC, hb]; rfl)
    have ER := Lib.hid (show loR n xs = lnTo (fun j => lgB j xs) 16 by rw [loR, hb]; rfl)
    have FB := Lib.hid hb
    have HR := Lib.hid hr
    subst hn
    obtain rfl := h0
    clear hb hr
    obtain ⟨lt, x0, x1⟩ := X.out
    go_enter Try.func26, Try.ntmps26
    go_wp2_with fail
    rw [← HW.out]
    refine (implIsFrame_any xs.length xs a xs.length cap _ hl H.out).mono ?_
    rw [FB.out]
    rintro e w1 ⟨rfl, hb⟩
    have T1 := Lib.hid hb
    clear hb x0 x1
    obtain ⟨ly, x0, x1⟩ := X.out.keep T1.out
    go_wp2_with fail
    refine (logics_any xs.length xs a cap _ h8 HR.out (H.out.keep T1.out (Nat.le_refl _))).mono ?_
    rintro e w3 ⟨rfl, hb⟩
    have T3 := Lib.hid (T1.out.trans (hb.mono T1.out.size))
    have HT3 := Lib.hid hb.size
    clear hb x0 x1
    go_wp2_with fail
    refine (namesOfLogics_any _ _ (mkTo_bit (fun j => lgB j xs)) _).mono ?_
    rintro e w2 ⟨v, rfl, ho, hb⟩
    have T2 := Lib.hid (T3.out.trans (hb.mono T3.out.size))
    have O2 := Lib.hid (ho.mono HT3.out)
    clear hb ho
    go_wp2
    go_ret2
    exact ⟨_, by rw [EC.out]; rfl, by rw [ER.out]; exact O2.out.mono (HB.out.trans (T1.out.mono HB.out.size)).size, HB.out.trans (T2.out.mono HB.out.size)⟩
theorem implLogicsOfFrame_v (n : Int) (xs : List Int) (v : Value) (lo hi : Nat) (w : World) (hl : xs.length ≤ 1048576) (h : InF w lo hi v n xs) :
    Calls Try.prog 26 #[v] w fun e w' => ∃ v, e = .returned (.tuple #[v, .int .i64 (loC n xs)]) ∧ OwnS w' w.heap.size v (loR n xs) ∧ Below w.heap.size w w' := by
  obtain ⟨a, cap, rfl, hat, -⟩ := h.at
  exact implLogicsOfFrame_any n xs a _ cap w hl hat

end Go.Proofs.Ytbaeacppojpplaa
