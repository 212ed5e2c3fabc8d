/- 3 texts in one: VlM, Tr, TrM. -/
import Derived.Test.YtnoaaklkbfbdbaaDoorJn08
import Derived.Test.YtnoaaklkbfbdbaaDoorMsk
import Derived.Test.YtnoaaklkbfbdbaaDoorKinds
import Derived.Test.YtnoaaklkbfbdbaaDoorJn09
import Derived.Test.YtnoaaklkbfbdbaaDoorVarS
import Derived.Test.YtnoaaklkbfbdbaaDoorJn10
import Derived.Test.YtnoaaklkbfbdbaaDoorBox
import Derived.Test.YtnoaaklkbfbdbaaDoorDeep
import Derived.Test.YtnoaaklkbfbdbaaDoorJn06
/- The values of the models of a number: filled upward by the program, downward by the model. Plain mathematics. -/
namespace Go.Proofs.YtnoaaklkbfbdbaaDoor
open Go.RowKit

def upF (F : Nat → Int) (vs : List Int) : Nat → Nat → Int
  | 0, _ => 0
  | i + 1, t => if t = (nth vs i).toNat then F i else upF F vs i t
def dnF (F : Nat → Int) (vs : List Int) (c : Nat) : Nat → Nat → Int
  | 0, _ => 0
  | m + 1, t => if t = (nth vs (c - 1 - m)).toNat then F (c - 1 - m) else dnF F vs c m t
theorem up_miss {F : Nat → Int} {vs : List Int} {t : Nat} : ∀ {k : Nat}, (∀ j, j < k → t ≠ (nth vs j).toNat) → upF F vs k t = 0
  | 0, _ => rfl
  | k + 1, h => by rw [upF, if_neg (h k (by omega)), up_miss (fun j hj => h j (by omega))]
theorem dn_miss {F : Nat → Int} {vs : List Int} {c t : Nat} : ∀ {m : Nat}, m ≤ c → (∀ j, j < c → c - m ≤ j → t ≠ (nth vs j).toNat) → dnF F vs c m t = 0
  | 0, _, _ => rfl
  | m + 1, hm, h => by rw [dnF, if_neg (h _ (by omega) (by omega)), dn_miss (by omega) (fun j hj h2 => h j hj (by omega))]
/-- The numbers differ. -/
def Dst (vs : List Int) (c : Nat) : Prop := ∀ i j, i < c → j < c → (nth vs i).toNat = (nth vs j).toNat → i = j
theorem up_hit {F : Nat → Int} {vs : List Int} {c t j : Nat} (hd : Dst vs c) (ht : t = (nth vs j).toNat) : ∀ {k : Nat}, k ≤ c → j < k → upF F vs k t = F j
  | 0, _, h => absurd h (by omega)
  | k + 1, hk, h => by
    rw [upF]
    by_cases e : t = (nth vs k).toNat
    · have := hd j k (by omega) (by omega) (by omega)
      rw [if_pos e, this]
    · rw [if_neg e]
      exact up_hit hd ht (by omega) (by
        by_cases e2 : j = k
        · subst e2; exact absurd ht e
        · omega)
theorem dn_hit {F : Nat → Int} {vs : List Int} {c t j : Nat} (hd : Dst vs c) (ht : t = (nth vs j).toNat) (hj : j < c) : ∀ {m : Nat}, m ≤ c → c - m ≤ j → dnF F vs c m t = F j
  | 0, _, h => absurd h (by omega)
  | m + 1, hm, h => by
    rw [dnF]
    by_cases e : t = (nth vs (c - 1 - m)).toNat
    · have := hd j (c - 1 - m) hj (by omega) (by omega)
      rw [if_pos e, this]
    · rw [if_neg e]
      exact dn_hit hd ht hj (by omega) (by
        by_cases e2 : j = c - 1 - m
        · subst e2; exact absurd ht e
        · omega)
theorem up_dn {F : Nat → Int} {vs : List Int} {c : Nat} (hd : Dst vs c) (t : Nat) : dnF F vs c c t = upF F vs c t := by
  by_cases h : ∃ j, j < c ∧ t = (nth vs j).toNat
  · obtain ⟨j, h1, h2⟩ := h
    rw [up_hit hd h2 (Nat.le_refl c) h1, dn_hit hd h2 h1 (Nat.le_refl c) (by omega)]
  · have h' : ∀ j, j < c → t ≠ (nth vs j).toNat := fun j h1 h2 => h ⟨j, h1, h2⟩
    rw [up_miss h', dn_miss (Nat.le_refl c) (fun j h1 _ => h' j h1)]
theorem up_set {F : Nat → Int} {vs : List Int} {k q : Nat} {z : Int} (hq : nth vs k = (q : Int)) (hz : z = F k) (t : Nat) : (if t = q then z else upF F vs k t) = upF F vs (k + 1) t := by
  rw [upF, hq, Int.toNat_natCast, hz]
theorem dn_set {F : Nat → Int} {vs : List Int} {c m q : Nat} {z : Int} (hq : nth vs (c - 1 - m) = (q : Int)) (hz : z = F (c - 1 - m)) (t : Nat) : (if t = q then z else dnF F vs c m t) = dnF F vs c (m + 1) t := by
  rw [dnF, hq, Int.toNat_natCast, hz]

theorem mkF_in {n c k j : Nat} : InMk n (mkF n c k j) := InMk.of (Nat.mod_lt _ (Nat.two_pow_pos n))
theorem upF_in {n : Nat} {F : Nat → Int} (hF : ∀ j, InMk n (F j)) (vs : List Int) (t : Nat) : ∀ k, InMk n (upF F vs k t)
  | 0 => InMk.zero n
  | k + 1 => by
    rw [upF]
    split
    · exact hF k
    · exact upF_in hF vs t k

/-- A list of variables. -/
structure Vs (vs : List Int) : Prop where
  l6 : vs.length ≤ 6
  lt : ∀ i, i < vs.length → ∃ q : Nat, nth vs i = q ∧ q < 6
  ds : Dst vs vs.length

/-- The values of the model with the number k. -/
def vlL (n : Nat) (vs : List Int) (k : Nat) : List Int := tab 6 (upF (mkF n vs.length k) vs vs.length)
theorem vlL_len (n : Nat) (vs : List Int) (k : Nat) : (vlL n vs k).length = 6 := tab_len _ _
theorem vlL_in (n : Nat) (vs : List Int) (k i : Nat) : InMk n (nth (vlL n vs k) i) := by
  by_cases h : i < 6
  · rw [vlL, tab_nth _ _ _ h]; exact upF_in (fun j => mkF_in) _ _ _
  · rw [nth_high (by rw [vlL_len]; omega)]; exact InMk.zero _
theorem vlL_mks (n : Nat) (hn : n ≤ 30) (vs : List Int) (k : Nat) : mksTo n (vlL n vs k) (vlL n vs k).length = true := (mksTo_iff hn _ _).2 fun i _ => vlL_in n vs k i
/-- The number, shifted down as far as the model has read it. -/
def shN (n k m : Nat) : Nat := k / 2 ^ (m * n)
theorem shN_next (n k m : Nat) : shN n k m / 2 ^ n = shN n k (m + 1) := by
  unfold shN
  rw [Nat.div_div_eq_div_mul, ← Nat.pow_add, Nat.succ_mul]
theorem shN_mk {n c k m : Nat} (h : m < c) : shN n k m % 2 ^ n = mkQ n c k (c - 1 - m) := by
  unfold shN mkQ
  rw [show c - 1 - (c - 1 - m) = m by omega]
theorem nth_app1 (xs : List Int) (z : Int) (i : Nat) : nth (xs ++ [z]) i = if i < xs.length then nth xs i else if i = xs.length then z else 0 := by
  show ((xs ++ [z])[i]?).getD 0 = _
  by_cases h : i < xs.length
  · rw [if_pos h, List.getElem?_append_left h]; rfl
  · rw [if_neg h, List.getElem?_append_right (by omega)]
    by_cases e : i = xs.length
    · subst e; simp
    · rw [if_neg e, List.getElem?_eq_none (by simp; omega)]; rfl
theorem memTo_inc (m : Nat) : ∀ k i j, i < j → j < (memTo m k).length → nth (memTo m k) i < nth (memTo m k) j := by
  intro k
  induction k with
  | zero => intro i j _ hj; simp [memTo] at hj
  | succ k ih =>
    intro i j hij hj
    rw [memTo] at hj ⊢
    split
    · rename_i hb
      rw [if_pos hb, List.length_append] at hj
      simp at hj
      rw [nth_app1, nth_app1]
      by_cases e : j < (memTo m k).length
      · rw [if_pos (by omega), if_pos e]; exact ih i j hij e
      · rw [if_pos (by omega), if_neg e, if_pos (by omega)]
        obtain ⟨p, hp, hl⟩ := memTo_ok m k i (by omega)
        omega
    · rename_i hb
      rw [if_neg hb] at hj
      exact ih i j hij hj
theorem mem_vs {m : Nat} (h : m < 64) : Vs (memTo m 30) := by
  have e : memTo m 30 = memTo m 6 := memTo_high (i := 6) h 30 (by omega)
  refine ⟨by rw [e]; have := memTo_len m 6; omega, fun i hi => ?_, fun i j hi hj hq => ?_⟩
  · rw [e] at hi ⊢
    obtain ⟨p, hp, hl⟩ := memTo_ok m 6 i hi
    exact ⟨p, hp, hl⟩
  · obtain ⟨p, hp1, -⟩ := memTo_ok m 30 i hi
    obtain ⟨r, hr1, -⟩ := memTo_ok m 30 j hj
    rcases Nat.lt_trichotomy i j with q | q | q
    · have := memTo_inc m 30 i j q hj; omega
    · exact q
    · have := memTo_inc m 30 j i q hi; omega

end Go.Proofs.YtnoaaklkbfbdbaaDoor

/- The truth set of a formula in a model, and what the model answers for it. Conditions: those in the theorems. -/
namespace Go.Proofs.YtnoaaklkbfbdbaaDoor
open Go.RowKit

def Fm.tr (xs ys : List Int) : Fm → Int
  | .va s => nth ys s.toNat
  | .fa => 0
  | .un k a => if k = 5 then boxTo xs (a.tr xs ys) xs.length else bits .andNot .i64 (full xs.length) (boxTo xs (bits .andNot .i64 (full xs.length) (a.tr xs ys)) xs.length)
  | .bi k a b => if k = 2 then bits .and .i64 (a.tr xs ys) (b.tr xs ys) else if k = 3 then bits .or .i64 (a.tr xs ys) (b.tr xs ys) else bits .or .i64 (bits .andNot .i64 (full xs.length) (a.tr xs ys)) (b.tr xs ys)

theorem AtF.drw {w : World} {b off len cap : Nat} {f : Fm} (h : AtF w b off len cap f) : AtF w.drew b off len cap f := h

/-- What l06Truth does at a formula. -/
def TrC (f : Fm) : Prop := ∀ (n : Int) (xs ys : List Int) (a : Option Addr) (cap : Nat) (a' : Option Addr) (cap' : Nat) (b off len cp : Nat) (w : World), len ≤ 1048576 → Mo w n a a' xs ys → AtF w b off len cp f →
    Calls Tryd.prog 39 #[.agg #[.int .i64 n, .slice a xs.length cap, .slice a' ys.length cap'], .slice (some ⟨b, off, none⟩) len cp] w fun e w' => e = .returned (.int .i64 (f.tr xs ys)) ∧ Below w.heap.size w w'

set_option maxHeartbeats 1000000 in
theorem tr_va (s : Int) (hf : (Fm.va s).ok) : TrC (.va s) := by
  intro n xs ys a cap a' cap' b off len cp w hl hm h
  obtain ⟨W, hW, hb0, hx, hWs⟩ := boxM (w := w) n a xs.length cap a' ys.length cap' 59
  have HB := Lib.hid hb0
  have X := Lib.hid hx
  have M := Lib.hid (hm.keep hb0)
  have HF := Lib.hid (h.keep hb0 (Nat.le_refl _))
  have HW := Lib.hid hW
  obtain ⟨hb, c1, c2⟩ := HF.out.head
  have h0 : 0 < len := by rw [h.len]; exact Fm.sz_pos _
  have h1 : 0 ≤ s := hf.1
  have h2 := hf.2
  obtain ⟨hn, h8, -, h6, -, hy⟩ := M.out
  have hn0 : 0 ≤ n := by omega
  have hn30 : n ≤ 30 := by omega
  obtain ⟨s', rfl⟩ := Int.eq_ofNat_of_zero_le h1
  have hlt : s' < ys.length := by omega
  obtain ⟨b', off', rfl, hb', hc'⟩ := hy.2.resolve_left (by omega)
  have hcell := hc' s' hlt
  obtain ⟨lt, x0, x1, x2⟩ := X.out
  replace c1 : W.cell? ⟨b, off, none⟩ = some (.int .i64 0) := c1
  replace c2 : W.cell? ⟨b, off + 1, none⟩ = some (.int .i64 (s' : Int)) := c2
  have E := Lib.hid (show nth ys s' = (Fm.va (s' : Int)).tr xs ys by rw [Fm.tr, Int.toNat_natCast])
  clear h hf hm hb0 hx hW hc' hn h8 h6
  go_enter Tryd.func39, Tryd.ntmps39
  go_wp2_with fail
  rw [← HW.out]
  refine (l01Full_any _ _ hn0 hn30).mono ?_
  rintro e w' ⟨rfl, rfl⟩
  go_wp2
  go_region
  all_goals
    go_wp2
    go_ret
    exact ⟨ret_int E.out, HB.out.drew⟩

theorem tr_fa : TrC .fa := by
  intro n xs ys a cap a' cap' b off len cp w hl hm h
  obtain ⟨W, hW, hb0, hx, hWs⟩ := boxM (w := w) n a xs.length cap a' ys.length cap' 59
  have HB := Lib.hid hb0
  have HF := Lib.hid (h.keep hb0 (Nat.le_refl _))
  have HW := Lib.hid hW
  obtain ⟨hb, c1, -⟩ := HF.out.head
  have h0 : 0 < len := by rw [h.len]; exact Fm.sz_pos _
  obtain ⟨hn, h8, -⟩ := hm
  have hn0 : 0 ≤ n := by omega
  have hn30 : n ≤ 30 := by omega
  obtain ⟨lt, x0, x1, x2⟩ := hx
  replace c1 : W.cell? ⟨b, off, none⟩ = some (.int .i64 1) := c1
  clear h hb0 hW hn h8
  go_enter Tryd.func39, Tryd.ntmps39
  go_wp2_with fail
  rw [← HW.out]
  refine (l01Full_any _ _ hn0 hn30).mono ?_
  rintro e w' ⟨rfl, rfl⟩
  go_wp2
  go_ret
  exact ⟨rfl, HB.out⟩

set_option maxHeartbeats 4000000 in
set_option maxRecDepth 100000 in
theorem tr_un (k : Int) (g : Fm) (hk : k = 5 ∨ k = 6) (ih : TrC g) : TrC (.un k g) := by
  intro n xs ys a cap a' cap' b off len cp w hl hm h
  obtain ⟨W, hW, hb0, hx, hWs⟩ := boxM (w := w) n a xs.length cap a' ys.length cap' 59
  have HB := Lib.hid hb0
  have X := Lib.hid hx
  have M := Lib.hid (hm.keep hb0)
  have HF := Lib.hid (h.keep hb0 (Nat.le_refl _))
  have HW := Lib.hid hW
  obtain ⟨hb, c1, -⟩ := HF.out.head
  have hsz : (Fm.un k g).sz = 1 + g.sz := rfl
  have hgp := g.sz_pos
  have hlen := h.len
  have h0 : 1 < len := by omega
  have h1 := h.2.1
  have h2 := h.2.2
  unfold maxLen at h2
  obtain ⟨hn, h8, -⟩ := hm
  have hn0 : 0 ≤ n := by omega
  have hn30 : n ≤ 30 := by omega
  have HN := Lib.hid hn
  obtain ⟨lt, x0, x1, x2⟩ := X.out
  replace c1 : W.cell? ⟨b, off, none⟩ = some (.int .i64 k) := c1
  have G := Lib.hid (HF.out.under)
  obtain ⟨y, hy⟩ : ∃ y, y = g.tr xs ys := ⟨_, rfl⟩
  have I := Lib.hid (show ∀ w1 : World, Below W.heap.size W w1 → Calls Tryd.prog 39 #[.agg #[.int .i64 n, .slice a xs.length cap, .slice a' ys.length cap'], .slice (some ⟨b, off + 2, none⟩) (len - 1) (cp - 1)] w1 fun e w' => e = .returned (.int .i64 y) ∧ Below w1.heap.size w1 w' from
    fun w1 hw => by rw [hy]; exact ih n xs ys a cap a' cap' b (off + 2) (len - 1) (cp - 1) w1 (by omega) (M.out.keep hw) (G.out.keep hw (Nat.le_refl _)))
  have BX := Lib.hid (show ∀ (w1 : World) (z : Int), Below W.heap.size W w1 → Calls Tryd.prog 52 #[.slice a xs.length cap, .int .i64 z] w1 (SomeDrew w1 fun e => e = .returned (.int .i64 (boxTo xs z xs.length))) from
    fun w1 z hw => l01Box_any xs z a _ cap w1 (by omega) (M.out.keep hw).2.2.2.2.1)
  have E5 := Lib.hid (show k = 5 → boxTo xs y xs.length = (Fm.un k g).tr xs ys by intro e; rw [Fm.tr, if_pos e, hy])
  have E6 := Lib.hid (show k = 6 → bits .andNot .i64 (full n) (boxTo xs (bits .andNot .i64 (full n) y) xs.length) = (Fm.un k g).tr xs ys by intro e; rw [Fm.tr, if_neg (by omega), hy, hn])
  clear h hb0 hx hW hn h8 hsz hgp hlen hy ih
  have hlz : ((1 : Int) ≤ (len : Int)) := by omega
  have hcp : ¬ cp = 1 := by omega
  rcases hk with rfl | rfl
  · go_enter Tryd.func39, Tryd.ntmps39
    go_wp2_with fail
    rw [← HW.out]
    refine (l01Full_any _ _ hn0 hn30).mono ?_
    rintro e w' ⟨rfl, rfl⟩
    go_wp2
    go_region_held3 (fun w' => w'.cell? ⟨w.heap.size, 0, none⟩ = some (.int .i64 n) ∧ w'.cell? ⟨w.heap.size, 1, none⟩ = some (.slice a xs.length cap) ∧ w'.cell? ⟨w.heap.size, 2, none⟩ = some (.slice a' ys.length cap')) (first | exact ⟨z0, z1, z2⟩ | exact ⟨y0, y1, y2⟩ | exact ⟨x0, x1, x2⟩ | go_keep) (first | (go_at_call 39; refine (I.out _ (Below.refl _ _).drew).mono ?_; rintro e w1 ⟨rfl, hb⟩; have T1 := Lib.hid (show Below W.heap.size W w1 from below_of_drew hb); clear hb; obtain ⟨ly, y0, y1, y2⟩ := X.out.keep T1.out) | (go_at_call 52; refine (BX.out _ _ T1.out).mono ?_; rintro e w2 ⟨rfl, q, rfl⟩; have T2 := Lib.hid (show Below W.heap.size W (w1.drewN q) from below_drewN T1.out q); obtain ⟨lz, z0, z1, z2⟩ := X.out.keep T2.out))
    all_goals
      go_wp2
      go_ret
      exact ⟨ret_int (E5.out (by first | rfl | trivial)), HB.out.trans (T2.out.mono HB.out.size)⟩
  · go_enter Tryd.func39, Tryd.ntmps39
    go_wp2_with fail
    rw [← HW.out]
    refine (l01Full_any _ _ hn0 hn30).mono ?_
    rintro e w' ⟨rfl, rfl⟩
    go_wp2
    go_region_held3 (fun w' => w'.cell? ⟨w.heap.size, 0, none⟩ = some (.int .i64 n) ∧ w'.cell? ⟨w.heap.size, 1, none⟩ = some (.slice a xs.length cap) ∧ w'.cell? ⟨w.heap.size, 2, none⟩ = some (.slice a' ys.length cap')) (first | exact ⟨z0, z1, z2⟩ | exact ⟨y0, y1, y2⟩ | exact ⟨x0, x1, x2⟩ | go_keep) (first | (go_at_call 39; refine (I.out _ (Below.refl _ _).drew).mono ?_; rintro e w1 ⟨rfl, hb⟩; have T1 := Lib.hid (show Below W.heap.size W w1 from below_of_drew hb); clear hb; obtain ⟨ly, y0, y1, y2⟩ := X.out.keep T1.out) | (go_at_call 52; refine (BX.out _ _ T1.out).mono ?_; rintro e w2 ⟨rfl, q, rfl⟩; have T2 := Lib.hid (show Below W.heap.size W (w1.drewN q) from below_drewN T1.out q); obtain ⟨lz, z0, z1, z2⟩ := X.out.keep T2.out))
    all_goals
      go_wp2
      go_ret
      exact ⟨ret_int (E6.out (by first | rfl | trivial)), HB.out.trans (T2.out.mono HB.out.size)⟩

def trB (n k : Int) (x y : Int) : Int := if k = 2 then bits .and .i64 x y else if k = 3 then bits .or .i64 x y else bits .or .i64 (bits .andNot .i64 (full n) x) y

end Go.Proofs.YtnoaaklkbfbdbaaDoor

/- Facts of masks: and, and not; the truth set of a formula in a model is a set of its worlds. Conditions: those in the theorems. -/
namespace Go.Proofs.YtnoaaklkbfbdbaaDoor
open Go.RowKit

/-- The truth set is a set of worlds. -/
theorem tr_in {xs ys : List Int} (hn : xs.length ≤ 30) (hr : Rel xs.length (nth xs)) (hy : ∀ i, InMk xs.length (nth ys i)) (f : Fm) : InMk xs.length (f.tr xs ys) := by
  have hF := InMk.full hn
  induction f with
  | va s => exact hy _
  | fa => exact InMk.zero _
  | un k a ih =>
    rw [Fm.tr]
    split
    · exact (boxTo_T hn hr (ih.bd hn) _ (Nat.le_refl _)).1
    · exact hF.not hn (boxTo_T hn hr ((hF.not hn ih).bd hn) _ (Nat.le_refl _)).1
  | bi k a b iha ihb =>
    rw [Fm.tr]
    split
    · exact iha.an hn ihb
    · split
      · exact iha.or hn ihb
      · exact (hF.not hn iha).or hn ihb
theorem full_iff {n : Nat} (hn : n ≤ 30) {x : Int} (hx : InMk n x) : (x == full n) = (bits .andNot .i64 (full n) x == 0) := by
  rw [Bool.eq_iff_iff, beq_iff_eq, beq_iff_eq, andNot_zero hn (InMk.full hn) hx]
  constructor
  · rintro rfl i h; exact h
  · intro h
    refine T_ext hx (InMk.full hn) fun i => ?_
    cases hi : T (full n) i
    · rw [T_full hn] at hi
      exact T_high hx (by simpa using hi)
    · exact h i hi

end Go.Proofs.YtnoaaklkbfbdbaaDoor
