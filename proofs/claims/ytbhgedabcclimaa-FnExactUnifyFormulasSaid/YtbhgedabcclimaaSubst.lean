/- Images of formulas under a substitution: the model's l03Sub and the program's imageOf over its two closures. Conditions: those in the theorems. -/
import Derived.Test.YtbhgedabcclimaaPut
import Derived.Test.YtbhgedabcclimaaAreF
import Derived.OwnWalk
namespace Go.Proofs.Ytbhgedabcclimaa
open Go.RowKit

/-- The image of the first k nodes, where s tells the image of a variable. -/
def subTo (s : Int → List Nd) (xs : List Nd) : Nat → List Nd
  | 0 => []
  | k + 1 => subTo s xs k ++ (if kd xs k = 0 then s (sy xs k) else [(kd xs k, sy xs k)])
def sgI (xss : List (List Nd)) (v : Int) : List Nd := nthL xss v.toNat
def sgB (x : Int) (b : List Nd) (v : Int) : List Nd := if v = x then b else [(0, v)]
theorem sub_var {s : Int → List Nd} {xs : List Nd} {k : Nat} (h : kd xs k = 0) : subTo s xs (k + 1) = subTo s xs k ++ s (sy xs k) := by rw [subTo, if_pos h]
theorem sub_else {s : Int → List Nd} {xs : List Nd} {k : Nat} (h : ¬ kd xs k = 0) : subTo s xs (k + 1) = subTo s xs k ++ [(kd xs k, sy xs k)] := by rw [subTo, if_neg h]
theorem sy_six {xs : List Nd} {len k : Nat} (h : treeTo xs len = true) (hk : k < len) : ∃ q : Nat, sy xs k = q ∧ q ≤ 5 := by
  have := ok_at h hk
  simp only [okN, inB, Bool.and_eq_true, decide_eq_true_eq] at this
  obtain ⟨q, hq⟩ := Int.eq_ofNat_of_zero_le this.1.2.1
  exact ⟨q, hq, by omega⟩
theorem subTo_len {s : Int → List Nd} {xs : List Nd} {len m : Nat} (hm : 1 ≤ m) (ht : treeTo xs len = true) (hs : ∀ q : Nat, q ≤ 5 → (s q).length ≤ m) : ∀ k, k ≤ len → (subTo s xs k).length ≤ k * m := by
  intro k
  induction k with
  | zero => intro _; simp [subTo]
  | succ k ih =>
    intro hk
    have := ih (by omega)
    rw [Nat.succ_mul]
    by_cases h : kd xs k = 0
    · obtain ⟨q, hq, hq5⟩ := sy_six ht (show k < len by omega)
      have := hs q hq5
      rw [sub_var h, List.length_append, hq]
      omega
    · rw [sub_else h, List.length_append]
      simp
      omega
theorem lit_at (w : World) (k s : Int) : AtN (w.alloc (.cells #[.int .i64 k, .int .i64 s] 61)) (some ⟨w.heap.size, 0, none⟩) 1 [(k, s)] := by
  obtain ⟨aa, cc, hv, at1, -⟩ := (litN w w.heap.size k s (Nat.le_refl _)).at
  simp only [List.length_cons, List.length_nil, Value.slice.injEq] at hv
  rw [← hv.1] at at1
  exact at1
theorem OwnN.alloc {w : World} {B : Nat} {v : Value} {xs : List Nd} (h : OwnN w B v xs) (o : Obj) : OwnN (w.alloc o) B v xs := World.ownsRow.alloc h o
theorem OwnN.keepN {w w' : World} {B C : Nat} {v : Value} {xs : List Nd} (h : OwnN w B v xs) (hb : Below C w w') (hC : w.heap.size ≤ C) : OwnN w' B v xs :=
  (h.inn.below hb hC).1

/-- Where six images lie, each a formula or at least not empty and short. -/
def Img (w : World) (a : Option Addr) (xss : List (List Nd)) : Prop := AtNN w a 6 xss ∧ ∀ q : Nat, q ≤ 5 → 0 < (nthL xss q).length ∧ (nthL xss q).length ≤ 40
theorem Img.get {w : World} {a : Option Addr} {xss : List (List Nd)} (h : Img w a xss) {q : Nat} (hq : q ≤ 5) : ∃ b off a' cap', a = some ⟨b, off, none⟩ ∧ b < w.heap.size ∧ w.cell? ⟨b, off + q, none⟩ = some (.slice a' (nthL xss q).length cap') ∧ AtN w a' (nthL xss q).length (nthL xss q) := by
  obtain ⟨b, off, ha, hb, hc⟩ := h.1.2.resolve_left (by omega)
  obtain ⟨a', cap', h1, h2⟩ := hc q (by omega)
  exact ⟨b, off, a', cap', ha, hb, h1, h2⟩
theorem Img.keep {w w' : World} {C : Nat} {a : Option Addr} {xss : List (List Nd)} (h : Img w a xss) (hb : Below C w w') (hC : w.heap.size ≤ C) : Img w' a xss := ⟨h.1.keep hb hC, h.2⟩

set_option maxHeartbeats 2000000 in
theorem l03Sub_any (xs : List Nd) (xss : List (List Nd)) (a a' : Option Addr) (len cap cap' : Nat) (w : World) (hl : len ≤ 40) (ht : treeTo xs len = true) (h : AtN w a len xs) (h' : Img w a' xss) :
    Calls Try.prog 56 #[.slice a len cap, .slice a' 6 cap'] w fun e w' => ∃ v, e = .returned v ∧ OwnN w' w.heap.size v (subTo (sgI xss) xs len) ∧ Below w.heap.size w w' := by
  have H := Lib.hid h
  have H' := Lib.hid h'
  have T := Lib.hid ht
  have SL := Lib.hid (fun k hk => subTo_len (s := sgI xss) (m := 40) (by omega) ht (fun q hq => by have := h'.2 q hq; simp only [sgI, Int.toNat_natCast]; omega) k hk)
  have B0 := Lib.hid ((Below.refl w.heap.size w).alloc (Nat.le_refl _) (.cells #[] 61))
  have L0 : Hid (OwnN (w.alloc (.cells #[] 61)) w.heap.size (.slice (some ⟨w.heap.size, 0, none⟩) 0 0) []) := World.ownsRow_lit w #[] 0 (Nat.le_refl _) (by decide) rfl
  clear h h' ht
  go_enter Try.func56, Try.ntmps56
  go_wp2
  go_loopw [5, 6] (fun v i wr => ∃ j : Nat, j ≤ len ∧ i = .int .i64 j ∧ OwnN wr w.heap.size v (subTo (sgI xss) xs j) ∧ Below w.heap.size w wr) (fun _ i _ => len - (intOf i).toNat)
  case atStart => exact ⟨0, Nat.zero_le _, rfl, L0.out, B0.out⟩
  case round =>
    obtain ⟨k, hk, rfl, hown, hbel⟩ := hrel
    have HO := Lib.hid hown
    have B := Lib.hid hbel
    have hbs := hbel.size
    clear hown hbel
    have hlen := SL.out k hk
    by_cases hlt : k < len
    · obtain ⟨b, off, rfl, hbb, hc⟩ := (H.out.keep B.out (Nat.le_refl _)).2.resolve_left (by omega)
      obtain ⟨c1, c2⟩ := hc k hlt
      obtain ⟨q, hq, hq5⟩ := sy_six T.out hlt
      obtain ⟨b', off', a1, cap1, rfl, hbb', d1, d2⟩ := (H'.out.keep B.out (Nat.le_refl _)).get hq5
      have hn := H'.out.2 q hq5
      rw [hq] at c2
      obtain ⟨n, hnn⟩ : ∃ n, n = (nthL xss q).length := ⟨_, rfl⟩
      rw [← hnn] at d1 d2 hn
      have D2 := Lib.hid d2
      have LK : (subTo (sgI xss) xs k).length ≤ 1600 := by omega
      have LKH := Lib.hid LK
      have hS : sgI xss (sy xs k) = nthL xss q := by rw [hq, sgI, Int.toNat_natCast]
      clear hc d2 hnn hlen LK
      cases h0 : (kd xs k == 0)
      · have N := Lib.hid (sub_else (s := sgI xss) (show ¬ kd xs k = 0 by simpa using h0))
        rw [hq] at N
        have BA := Lib.hid (B.out.alloc B.out.size (.cells #[.int .i64 (kd xs k), .int .i64 (q : Int)] 61))
        clear hS hq
        go_wp2_with (at_builtin; refine list_appN rfl _ _ rfl w.heap.size _ _ rfl (HO.out.alloc _) [(kd xs k, (q : Int))] (some ⟨wr.heap.size, 0, none⟩) 1 _ rfl (lit_at wr _ _) (by omega) (by have := LKH.out; omega) BA.out.size ?_; intro v2 w2 ho2 hg2)
        have B2 := Lib.hid (below_appN BA.out (Below.refl _ _) BA.out.size (HO.out.alloc _) hg2)
        have O2 := Lib.hid ho2
        clear ho2 hg2
        go_roundw
        case rel => exact ⟨k + 1, hlt, by go_num, by rw [N.out]; exact O2.out, B2.out⟩
        case measure => simp [intOf]; omega
      · have N := Lib.hid (sub_var (s := sgI xss) (show kd xs k = 0 by simpa using h0))
        rw [hS] at N
        clear hS hq
        go_wp2_with (at_builtin; refine list_appN rfl _ _ rfl w.heap.size _ _ rfl HO.out (nthL xss q) a1 n _ rfl D2.out hn.1 (by have := LKH.out; omega) B.out.size ?_; intro v2 w2 ho2 hg2)
        have B2 := Lib.hid (below_appN B.out (Below.refl _ _) B.out.size HO.out hg2)
        have O2 := Lib.hid ho2
        clear ho2 hg2
        go_roundw
        case rel => exact ⟨k + 1, hlt, by go_num, by rw [N.out]; exact O2.out, B2.out⟩
        case measure => simp [intOf]; omega
    · obtain rfl : k = len := by omega
      go_wp2
      go_ret
      exact ⟨_, rfl, HO.out, B.out⟩

theorem variableNodes_any (s : Int) (w : World) : Calls Try.prog 109 #[.int .i64 s] w fun e w' => e = .returned (.slice (some ⟨w.heap.size, 0, none⟩) 1 1) ∧ AtN w' (some ⟨w.heap.size, 0, none⟩) 1 [(0, s)] ∧ OwnN w' w.heap.size (.slice (some ⟨w.heap.size, 0, none⟩) 1 1) [(0, s)] ∧ Below w.heap.size w w' := by
  have A := Lib.hid (lit_at w 0 s)
  have L := Lib.hid (litN w w.heap.size 0 s (Nat.le_refl _))
  go_enter Try.func109, Try.ntmps109
  go_wp2
  go_ret
  exact ⟨rfl, A.out, L.out, (Below.refl _ _).alloc (Nat.le_refl _) _⟩

/-- What a closure of the program leaves at the variable q, of which s is the image. -/
def Img1 (w : World) (g : FuncId) (caps : Array Value) (s : Int → List Nd) : Prop :=
  ∀ (q : Nat) (wr : World), q ≤ 5 → Below w.heap.size w wr → Calls Try.prog g (#[.int .i64 q] ++ caps) wr fun e w' => ∃ a n c, e = .returned (.slice a n c) ∧ AtN w' a n (s q) ∧ Below wr.heap.size wr w'

theorem subOf_img {w : World} {R cap : Nat} {a : Option Addr} {xss : List (List Nd)} (hR : w.cell? ⟨R, 0, none⟩ = some (.slice a 6 cap)) (hRw : R < w.heap.size) (h : Img w a xss) : Img1 w 105 #[.pointer (some ⟨R, 0, none⟩)] (sgI xss) := by
  intro q wr hq hb
  obtain ⟨b, off, a1, cap1, rfl, hbb, d1, d2⟩ := (h.keep hb (Nat.le_refl _)).get hq
  have r1 : wr.cell? ⟨R, 0, none⟩ = some (.slice (some ⟨b, off, none⟩) 6 cap) := (hb.cell (p := ⟨R, 0, none⟩) hRw).trans hR
  have D2 := Lib.hid d2
  show Calls Try.prog 105 #[.int .i64 q, .pointer (some ⟨R, 0, none⟩)] wr _
  obtain ⟨n, hn⟩ : ∃ n, n = (nthL xss q).length := ⟨_, rfl⟩
  rw [← hn] at d1 D2
  have E := Lib.hid (show sgI xss (q : Int) = nthL xss q by rw [sgI, Int.toNat_natCast])
  clear d2 hn hR h hb
  go_enter Try.func105, Try.ntmps105
  go_wp2
  go_ret
  exact ⟨_, _, _, rfl, by rw [E.out]; exact D2.out, Below.refl _ _⟩

theorem bind_img {w : World} {R R' : Nat} {x : Int} {a : Option Addr} {len cap : Nat} {bs : List Nd} (hR : w.cell? ⟨R, 0, none⟩ = some (.int .i64 x)) (hR' : w.cell? ⟨R', 0, none⟩ = some (.slice a len cap)) (hRw : R < w.heap.size) (hRw' : R' < w.heap.size) (h : AtN w a len bs) : Img1 w 108 #[.pointer (some ⟨R, 0, none⟩), .pointer (some ⟨R', 0, none⟩)] (sgB x bs) := by
  intro q wr hq hb
  have H := Lib.hid (h.keep hb (Nat.le_refl _))
  have r1 : wr.cell? ⟨R, 0, none⟩ = some (.int .i64 x) := (hb.cell (p := ⟨R, 0, none⟩) hRw).trans hR
  have r2 : wr.cell? ⟨R', 0, none⟩ = some (.slice a len cap) := (hb.cell (p := ⟨R', 0, none⟩) hRw').trans hR'
  show Calls Try.prog 108 #[.int .i64 q, .pointer (some ⟨R, 0, none⟩), .pointer (some ⟨R', 0, none⟩)] wr _
  cases he : ((q : Int) == x)
  · have E := Lib.hid (show sgB x bs (q : Int) = [(0, (q : Int))] by rw [sgB, if_neg (by simpa using he)])
    clear hR hR' h hb
    go_enter Try.func108, Try.ntmps108
    go_wp2_with fail
    refine (variableNodes_any _ _).mono ?_
    rintro e w1 ⟨rfl, h1, -, h2⟩
    have H1 := Lib.hid h1
    have H2 := Lib.hid h2
    clear h1 h2
    go_wp2
    go_ret
    exact ⟨_, _, _, rfl, by rw [E.out]; exact H1.out, H2.out⟩
  · have E := Lib.hid (show sgB x bs (q : Int) = bs by rw [sgB, if_pos (by simpa using he)])
    clear hR hR' h hb
    go_enter Try.func108, Try.ntmps108
    go_wp2
    go_ret
    exact ⟨_, _, _, rfl, by rw [E.out]; exact H.out, Below.refl _ _⟩

set_option maxHeartbeats 4000000 in
theorem imageS_any (R : Nat) (s : Int → List Nd) (xs : List Nd) (a : Option Addr) (len cap : Nat) (w : World) (hl : len ≤ 40) (ht : treeTo xs len = true) (h : AtN w a len xs) (hi : Img1 w 105 #[.pointer (some ⟨R, 0, none⟩)] s) (hs : ∀ q : Nat, q ≤ 5 → 0 < (s q).length ∧ (s q).length ≤ 40) :
    Calls Try.prog 62 #[.func (.func 105) #[] #[.pointer (some ⟨R, 0, none⟩)], .slice a len cap] w fun e w' => ∃ v, e = .returned v ∧ OwnN w' w.heap.size v (subTo s xs len) ∧ Below w.heap.size w w' := by
  have H := Lib.hid h
  have HI := Lib.hid hi
  have HS := Lib.hid hs
  have T := Lib.hid ht
  have SL := Lib.hid (fun k hk => subTo_len (s := s) (m := 40) (by omega) ht (fun q hq => (hs q hq).2) k hk)
  obtain ⟨i0, hinf, hz0, hz1, hz2⟩ := info_parts infoNd
  clear h hi hs ht
  go_enter Try.func62, Try.ntmps62
  go_wp2_with (at_make; refine wpList_make_own _ rfl _ _ 26 rfl w.heap.size 61 i0 (.agg #[.int .i64 0, .int .i64 0]) 2 Try.underlying26 hinf hz0 hz1 _ _ _ len rfl rfl rfl ?b2 ?b3 (Nat.le_refl _) ?_)
  case b2 => rw [hz2]; omega
  case b3 => unfold maxLen; omega
  intro w0 hown0 hgrow0
  have L0 : Hid (OwnN w0 w.heap.size (.slice (some ⟨w.heap.size, 0, none⟩) 0 len) []) := hown0
  have B0 := Lib.hid ((Below.refl w.heap.size w).grown hgrow0 (Nat.le_refl _) (fun k h => by cases h))
  clear hown0 hinf hz0 hz1 hz2 hgrow0
  go_wp2
  go_loopw [5, 13] (fun v i wr => ∃ j : Nat, j ≤ len ∧ i = .int .i64 j ∧ OwnN wr w.heap.size v (subTo s xs j) ∧ Below w.heap.size w wr) (fun _ i _ => len - (intOf i).toNat)
  case atStart => exact ⟨0, Nat.zero_le _, rfl, L0.out, B0.out⟩
  case round =>
    obtain ⟨k, hk, rfl, hown, hbel⟩ := hrel
    have HO := Lib.hid hown
    have B := Lib.hid hbel
    have hbs := hbel.size
    clear hown hbel
    have hlen := SL.out k hk
    by_cases hlt : k < len
    · obtain ⟨b, off, rfl, hbb, hc⟩ := (H.out.keep B.out (Nat.le_refl _)).2.resolve_left (by omega)
      obtain ⟨c1, c2⟩ := hc k hlt
      obtain ⟨q, hq, hq5⟩ := sy_six T.out hlt
      rw [hq] at c2
      have hn := HS.out q hq5
      have LKH := Lib.hid (show (subTo s xs k).length ≤ 1600 by omega)
      have BA := Lib.hid (B.out.alloc B.out.size (.cells #[.int .i64 (kd xs k), .int .i64 (q : Int)] 61))
      have hS : s (sy xs k) = s (q : Int) := by rw [hq]
      clear hc hlen
      cases h0 : (kd xs k == 0)
      · have N := Lib.hid (sub_else (s := s) (show ¬ kd xs k = 0 by simpa using h0))
        rw [hq] at N
        have BB := Lib.hid (BA.out.alloc BA.out.size (.cells #[.int .i64 (kd xs k), .int .i64 (q : Int)] 61))
        have la := lit_at (wr.alloc (.cells #[.int .i64 (kd xs k), .int .i64 (q : Int)] 61)) (kd xs k) (q : Int)
        rw [show (wr.alloc (.cells #[.int .i64 (kd xs k), .int .i64 (q : Int)] 61)).heap.size = wr.heap.size + 1 by simp] at la
        have LA := Lib.hid la
        clear la
        have OA := Lib.hid ((HO.out.alloc (.cells #[.int .i64 (kd xs k), .int .i64 (q : Int)] 61)).alloc (.cells #[.int .i64 (kd xs k), .int .i64 (q : Int)] 61))
        clear hS hq
        go_wp2_with (at_builtin; refine list_appN rfl _ _ rfl w.heap.size _ _ rfl OA.out [(kd xs k, (q : Int))] (some ⟨wr.heap.size + 1, 0, none⟩) 1 _ rfl LA.out (by omega) (by have := LKH.out; omega) BB.out.size ?_; intro v2 w2 ho2 hg2)
        have B2 := Lib.hid (below_appN BB.out (Below.refl _ _) BB.out.size OA.out hg2)
        have O2 := Lib.hid ho2
        clear ho2 hg2
        go_roundw
        case rel => exact ⟨k + 1, hlt, by go_num, by rw [N.out]; exact O2.out, B2.out⟩
        case measure => simp [intOf]; omega
      · have N := Lib.hid (sub_var (s := s) (show kd xs k = 0 by simpa using h0))
        rw [hS] at N
        clear hS hq
        go_wp2_with fail
        refine (HI.out q _ hq5 BA.out).mono ?_
        rintro e w1 ⟨a1, n1, cx, rfl, hat1, hb1⟩
        have O1 := Lib.hid ((HO.out.alloc (.cells #[.int .i64 (kd xs k), .int .i64 (q : Int)] 61)).keepN hb1 (Nat.le_refl _))
        have B1 := Lib.hid (BA.out.trans (hb1.mono BA.out.size))
        have hn1 : 0 < n1 ∧ n1 ≤ 40 := by rw [hat1.1]; exact hn
        have A1 := Lib.hid hat1
        clear hat1 hb1
        go_wp2_with (at_builtin; refine list_appN rfl _ _ rfl w.heap.size _ _ rfl O1.out (s (q : Int)) a1 n1 _ rfl A1.out hn1.1 (by have := LKH.out; omega) B1.out.size ?_; intro v2 w2 ho2 hg2)
        have B2 := Lib.hid (below_appN B1.out (Below.refl _ _) B1.out.size O1.out hg2)
        have O2 := Lib.hid ho2
        clear ho2 hg2
        go_roundw
        case rel => exact ⟨k + 1, hlt, by go_num, by rw [N.out]; exact O2.out, B2.out⟩
        case measure => simp [intOf]; omega
    · obtain rfl : k = len := by omega
      go_wp2
      go_ret
      exact ⟨_, rfl, HO.out, B.out⟩

set_option maxHeartbeats 4000000 in
theorem imageB_any (R R' : Nat) (s : Int → List Nd) (xs : List Nd) (a : Option Addr) (len cap : Nat) (w : World) (hl : len ≤ 40) (ht : treeTo xs len = true) (h : AtN w a len xs) (hi : Img1 w 108 #[.pointer (some ⟨R, 0, none⟩), .pointer (some ⟨R', 0, none⟩)] s) (hs : ∀ q : Nat, q ≤ 5 → 0 < (s q).length ∧ (s q).length ≤ 40) :
    Calls Try.prog 62 #[.func (.func 108) #[] #[.pointer (some ⟨R, 0, none⟩), .pointer (some ⟨R', 0, none⟩)], .slice a len cap] w fun e w' => ∃ v, e = .returned v ∧ OwnN w' w.heap.size v (subTo s xs len) ∧ Below w.heap.size w w' := by
  have H := Lib.hid h
  have HI := Lib.hid hi
  have HS := Lib.hid hs
  have T := Lib.hid ht
  have SL := Lib.hid (fun k hk => subTo_len (s := s) (m := 40) (by omega) ht (fun q hq => (hs q hq).2) k hk)
  obtain ⟨i0, hinf, hz0, hz1, hz2⟩ := info_parts infoNd
  clear h hi hs ht
  go_enter Try.func62, Try.ntmps62
  go_wp2_with (at_make; refine wpList_make_own _ rfl _ _ 26 rfl w.heap.size 61 i0 (.agg #[.int .i64 0, .int .i64 0]) 2 Try.underlying26 hinf hz0 hz1 _ _ _ len rfl rfl rfl ?b2 ?b3 (Nat.le_refl _) ?_)
  case b2 => rw [hz2]; omega
  case b3 => unfold maxLen; omega
  intro w0 hown0 hgrow0
  have L0 : Hid (OwnN w0 w.heap.size (.slice (some ⟨w.heap.size, 0, none⟩) 0 len) []) := hown0
  have B0 := Lib.hid ((Below.refl w.heap.size w).grown hgrow0 (Nat.le_refl _) (fun k h => by cases h))
  clear hown0 hinf hz0 hz1 hz2 hgrow0
  go_wp2
  go_loopw [5, 13] (fun v i wr => ∃ j : Nat, j ≤ len ∧ i = .int .i64 j ∧ OwnN wr w.heap.size v (subTo s xs j) ∧ Below w.heap.size w wr) (fun _ i _ => len - (intOf i).toNat)
  case atStart => exact ⟨0, Nat.zero_le _, rfl, L0.out, B0.out⟩
  case round =>
    obtain ⟨k, hk, rfl, hown, hbel⟩ := hrel
    have HO := Lib.hid hown
    have B := Lib.hid hbel
    have hbs := hbel.size
    clear hown hbel
    have hlen := SL.out k hk
    by_cases hlt : k < len
    · obtain ⟨b, off, rfl, hbb, hc⟩ := (H.out.keep B.out (Nat.le_refl _)).2.resolve_left (by omega)
      obtain ⟨c1, c2⟩ := hc k hlt
      obtain ⟨q, hq, hq5⟩ := sy_six T.out hlt
      rw [hq] at c2
      have hn := HS.out q hq5
      have LKH := Lib.hid (show (subTo s xs k).length ≤ 1600 by omega)
      have BA := Lib.hid (B.out.alloc B.out.size (.cells #[.int .i64 (kd xs k), .int .i64 (q : Int)] 61))
      have hS : s (sy xs k) = s (q : Int) := by rw [hq]
      clear hc hlen
      cases h0 : (kd xs k == 0)
      · have N := Lib.hid (sub_else (s := s) (show ¬ kd xs k = 0 by simpa using h0))
        rw [hq] at N
        have BB := Lib.hid (BA.out.alloc BA.out.size (.cells #[.int .i64 (kd xs k), .int .i64 (q : Int)] 61))
        have la := lit_at (wr.alloc (.cells #[.int .i64 (kd xs k), .int .i64 (q : Int)] 61)) (kd xs k) (q : Int)
        rw [show (wr.alloc (.cells #[.int .i64 (kd xs k), .int .i64 (q : Int)] 61)).heap.size = wr.heap.size + 1 by simp] at la
        have LA := Lib.hid la
        clear la
        have OA := Lib.hid ((HO.out.alloc (.cells #[.int .i64 (kd xs k), .int .i64 (q : Int)] 61)).alloc (.cells #[.int .i64 (kd xs k), .int .i64 (q : Int)] 61))
        clear hS hq
        go_wp2_with (at_builtin; refine list_appN rfl _ _ rfl w.heap.size _ _ rfl OA.out [(kd xs k, (q : Int))] (some ⟨wr.heap.size + 1, 0, none⟩) 1 _ rfl LA.out (by omega) (by have := LKH.out; omega) BB.out.size ?_; intro v2 w2 ho2 hg2)
        have B2 := Lib.hid (below_appN BB.out (Below.refl _ _) BB.out.size OA.out hg2)
        have O2 := Lib.hid ho2
        clear ho2 hg2
        go_roundw
        case rel => exact ⟨k + 1, hlt, by go_num, by rw [N.out]; exact O2.out, B2.out⟩
        case measure => simp [intOf]; omega
      · have N := Lib.hid (sub_var (s := s) (show kd xs k = 0 by simpa using h0))
        rw [hS] at N
        clear hS hq
        go_wp2_with fail
        refine (HI.out q _ hq5 BA.out).mono ?_
        rintro e w1 ⟨a1, n1, cx, rfl, hat1, hb1⟩
        have O1 := Lib.hid ((HO.out.alloc (.cells #[.int .i64 (kd xs k), .int .i64 (q : Int)] 61)).keepN hb1 (Nat.le_refl _))
        have B1 := Lib.hid (BA.out.trans (hb1.mono BA.out.size))
        have hn1 : 0 < n1 ∧ n1 ≤ 40 := by rw [hat1.1]; exact hn
        have A1 := Lib.hid hat1
        clear hat1 hb1
        go_wp2_with (at_builtin; refine list_appN rfl _ _ rfl w.heap.size _ _ rfl O1.out (s (q : Int)) a1 n1 _ rfl A1.out hn1.1 (by have := LKH.out; omega) B1.out.size ?_; intro v2 w2 ho2 hg2)
        have B2 := Lib.hid (below_appN B1.out (Below.refl _ _) B1.out.size O1.out hg2)
        have O2 := Lib.hid ho2
        clear ho2 hg2
        go_roundw
        case rel => exact ⟨k + 1, hlt, by go_num, by rw [N.out]; exact O2.out, B2.out⟩
        case measure => simp [intOf]; omega
    · obtain rfl : k = len := by omega
      go_wp2
      go_ret
      exact ⟨_, rfl, HO.out, B.out⟩

end Go.Proofs.Ytbhgedabcclimaa
