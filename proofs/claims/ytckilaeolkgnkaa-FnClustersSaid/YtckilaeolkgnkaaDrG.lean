/- The contract of l05Draw: a frame is drawn, rarely something else. Conditions: those in the theorems. -/
import Derived.Test.YtckilaeolkgnkaaDrF
namespace Go.Proofs.Ytckilaeolkgnkaa
open Go.RowKit

/-- A frame lies in a block that may be stored to. -/
def Bf (w : World) (b : Nat) (n : Int) (a : Option Addr) (len cap : Nat) : Prop := Bx w b n a len cap ∧ w.frozen? ⟨b, 0, none⟩ = false ∧ w.frozen? ⟨b, 1, none⟩ = false
theorem Bf.grown {w w' : World} {r b : Nat} {n : Int} {a : Option Addr} {len cap : Nat} (h : Bf w r n a len cap) (hg : w.grownBy w' (some b)) (hne : r ≠ b) : Bf w' r n a len cap := by
  have e := hg.block r h.1.1 (by intro q; injection q with q; exact hne q)
  refine ⟨⟨Nat.lt_of_lt_of_le h.1.1 hg.size, ?_, ?_⟩, ?_, ?_⟩
  · rw [← h.1.2.1]; unfold World.cell?; rw [e]
  · rw [← h.1.2.2]; unfold World.cell?; rw [e]
  · rw [← h.2.1]; unfold World.frozen?; rw [e]
  · rw [← h.2.2]; unfold World.frozen?; rw [e]
theorem Bf.keep {w w' : World} {r : Nat} {n : Int} {a : Option Addr} {len cap : Nat} (h : Bf w r n a len cap) (hb : Below w.heap.size w w') : Bf w' r n a len cap :=
  ⟨h.1.keep hb, (hb.frozen (p := ⟨r, 0, none⟩) h.1.1).trans h.2.1, (hb.frozen (p := ⟨r, 1, none⟩) h.1.1).trans h.2.2⟩
theorem Bf.new (w : World) (n : Int) (a : Option Addr) (len cap : Nat) : Bf (w.alloc (.cells #[.int .i64 n, .slice a len cap] 28)) w.heap.size n a len cap := ⟨Bx.new _ _ _ _ _ _, by simp, by simp⟩
theorem Bf.all {w : World} {b : Nat} {n : Int} {a : Option Addr} {len cap : Nat} (h : Bf w b n a len cap) : b < w.heap.size ∧ w.cell? ⟨b, 0, none⟩ = some (.int .i64 n) ∧ w.cell? ⟨b, 1, none⟩ = some (.slice a len cap) ∧ w.frozen? ⟨b, 0, none⟩ = false ∧ w.frozen? ⟨b, 1, none⟩ = false := ⟨h.1.1, h.1.2.1, h.1.2.2, h.2.1, h.2.2⟩
theorem Bz.set {w : World} {b R o : Nat} {v : Value} (h : Bz w b) (hne : b ≠ R) : Bz (w.setCell ⟨R, o, none⟩ v) b := h.grown (grown_set w R o v) hne

theorem own_add {w : World} {B : Nat} {v : Value} {xs : List Int} {z : Int} (h : w.ownsRow B 2 1 v (xs.length + 1) (xs.map (Value.int .i64) ++ [.int .i64 z])) : Own w B v (xs ++ [z]) := by
  unfold Own; rw [List.length_append, List.map_append]; exact h
theorem grown_new {w w1 w2 : World} {b g : Nat} (h : w.grownBy w1 (some b)) (k : w1.grownBy w2 (some g)) (hg : w.heap.size ≤ g) : w.grownBy w2 (some b) :=
  ⟨k.os.trans h.os, k.tape.trans h.tape, k.output.trans h.output, Nat.le_trans h.size k.size, fun i hi hne => (k.block i (Nat.lt_of_lt_of_le hi h.size) (fun e => by injection e with e; omega)).trans (h.block i hi hne)⟩

theorem one_set {w : World} {k b o o' : Nat} {u v : Value} (h : w.cell? ⟨b, o, none⟩ = some u) (hk : b ≠ k) : (w.setCell ⟨k, o', none⟩ v).cell? ⟨b, o, none⟩ = some u := by
  rw [World.cell?_setCell_other _ _ _ _ (fun e => hk (by cases e; rfl))]; exact h

/-- What l05Draw hands back. -/
def DrawF (w : World) (b : Nat) (a : Option Addr) (len cap : Nat) (e : Ending) (w' : World) : Prop :=
  (∃ v n xs, e = .returned v ∧ OwnF w' w.heap.size v n xs ∧ xs.length ≤ 9 ∧ -1 ≤ n ∧ n ≤ 9) ∧ Src w' b a len cap ∧ w.grownBy w' (some b)

set_option maxHeartbeats 4000000 in
set_option maxRecDepth 100000 in
theorem l05Draw_any (b : Nat) (a : Option Addr) (len cap m : Nat) (w : World) (B : Nat) (hBb : B ≤ b) (hBw : B ≤ w.heap.size) (hm : m ≤ 8) (hs : Src w b a len cap) (hc : Code B w a len) :
    Calls Try.prog 40 #[.pointer (some ⟨b, 0, none⟩), .int .i64 m] w fun e w' => DrawF w b a len cap e w' := by
  obtain ⟨W, hW⟩ : ∃ W, W = w.alloc (.cells #[.int .i64 0, .slice none 0 0] 28) := ⟨_, rfl⟩
  have hbw := hs.lt
  have HS := Lib.hid (show Src W b a len cap by rw [hW]; exact hs.alloc _)
  have HC := Lib.hid (show Code B W a len by rw [hW]; exact hc.alloc _ hBw)
  have Z := Lib.hid (show Bz W w.heap.size by rw [hW]; exact Bz.new w)
  have hWs : W.heap.size = w.heap.size + 1 := by rw [hW]; simp
  have hBW : B ≤ W.heap.size := by omega
  have GW := Lib.hid (show w.grownBy W (some b) by rw [hW]; exact World.grownBy_alloc w _ _)
  have HW := Lib.hid hW
  clear hs hc hW
  go_enter Try.func40, Try.ntmps40
  go_wp2_with fail
  rw [← HW.out]
  refine (l05Some_any b a len cap m W B hBb hBW hm HS.out HC.out).mono ?_
  rintro e w1 ⟨⟨v1, xs, rfl, ho, hxs⟩, hs1, hg1⟩
  obtain ⟨a1, c1, rfl⟩ := ho.form
  have hx8 : xs.length ≤ 8 := by omega
  have hz1 := hg1.size
  obtain ⟨V, hV, bV, fV, hVs⟩ : ∃ V, V = w1.alloc (.cells #[.int .i64 xs.length, .slice a1 xs.length c1] 28) ∧ Below w1.heap.size w1 V ∧ Bf V w1.heap.size xs.length a1 xs.length c1 ∧ V.heap.size = w1.heap.size + 1 := ⟨_, rfl, (alloc_keep _ _).1, Bf.new _ _ _ _ _, by simp⟩
  have GV := Lib.hid (show w.grownBy V (some b) from grown_trans (grown_trans GW.out hg1) (grown_low bV _))
  have SV := Lib.hid (hs1.other (grown_low bV none) (by intro e; cases e))
  have CV := Lib.hid ((HC.out.grown hg1 hBb hBW).below (bV.mono (Nat.le_trans hBW hz1)))
  have OV := Lib.hid (ho.2.inn.below bV (Nat.le_refl _))
  have ZV := Lib.hid ((Z.out.grown hg1 (by omega)).below bV (by omega))
  have FV := Lib.hid fV
  have HV := Lib.hid hV
  have hBV : B ≤ V.heap.size := by omega
  clear ho hs1 hg1 bV fV hV hxs
  go_wp2_with fail
  rw [← HV.out]
  refine (l01Next_any b a len cap 40 _ B hBb SV.out CV.out).mono ?_
  rintro e w2 ⟨x, rfl, hx, hs2, hg2⟩
  have hx40 : x < 40 := by rcases hx with ⟨h1, h2⟩ | h1 <;> omega
  have S2 := Lib.hid hs2
  have C2 := Lib.hid (CV.out.grown hg2 hBb hBV)
  have O2 := Lib.hid (OV.out.oth (b := some b) (lo' := b) (hi' := b + 1) (fun k e => by cases e; omega) hg2 (.inr (by omega)))
  have Z2 := Lib.hid (ZV.out.grown hg2 (by omega))
  have F2 := Lib.hid (FV.out.grown hg2 (by omega))
  have G2 := Lib.hid (grown_trans GV.out hg2)
  have hz2 : w1.heap.size + 1 ≤ w2.heap.size := by have := hg2.size; omega
  have hB2 : B ≤ w2.heap.size := by omega
  clear hx hs2 hg2
  by_cases h0 : x = 0
  · subst h0
    have hne : w2.heap.size ≠ b := by omega
    have hr := World.ownsRow_lit (e := 2) (size := 1) (base := B) w2 #[.int .i64 (-1), .int .i64 9, .int .i64 ((xs.length : Int) + 1)] 3 hB2 (by unfold maxLen; omega) rfl
    have HR := Lib.hid hr
    clear hr
    obtain ⟨ltf, x0, x1, f0, f1⟩ := F2.out.all
    go_wp2_with fail
    refine (l01Pick_any b a len cap w2.heap.size 3 3 [-1, 9, (xs.length : Int) + 1] _ B hBb (S2.out.alloc _) (C2.out.alloc _ hB2) rfl (by decide) (by decide) hne HR.out).mono ?_
    rintro e w3 ⟨⟨y, hy, rfl⟩, hs3, hg3⟩
    have hy9 : -1 ≤ y ∧ y ≤ 9 := by simp at hy; omega
    have bA : Below w2.heap.size w2 (w2.alloc (.cells #[.int .i64 (-1), .int .i64 9, .int .i64 ((xs.length : Int) + 1)] 2)) := (alloc_keep _ _).1
    have S3 := Lib.hid hs3
    have O3 := Lib.hid ((O2.out.below bA O2.out.hi).oth (b := some b) (lo' := b) (hi' := b + 1) (fun k e => by cases e; omega) hg3 (.inr (by omega)))
    have Z3 := Lib.hid ((Z2.out.keep bA).grown hg3 (by omega))
    have F3 := Lib.hid ((F2.out.keep bA).grown hg3 (by omega))
    have G3 := Lib.hid (grown_trans (grown_trans G2.out (grown_low bA _)) hg3)
    clear hs3 hg3 bA x0 x1 f0 f1 hy
    obtain ⟨ltf, x0, x1, f0, f1⟩ := F3.out.all
    obtain ⟨lt2, z0, z1, z2, z3⟩ := Z3.out.set (R := w1.heap.size) (o := 0) (v := .int .i64 y) (by omega)
    go_wp2
    exact bodyPost_ret (v := .agg #[.int .i64 y, .slice a1 xs.length c1]) (by simp [results, Try.results40, go_sem, z0, z1]) rfl
      ⟨⟨_, y, xs, rfl, ⟨rfl, (((O3.out.setOut (.inr (by omega))).setOut (.inl (by omega))).setOut (.inl (by omega))).1.mono (by omega)⟩, by omega, hy9⟩,
        ((S3.out.other (grown_set _ _ _ _) (by intro e; injection e with e; omega)).other (grown_set _ _ _ _) (by intro e; injection e with e; omega)).other (grown_set _ _ _ _) (by intro e; injection e with e; omega),
        grown_out (grown_out (grown_out G3.out (by omega)) (Nat.le_refl _)) (Nat.le_refl _)⟩
  · have e0 : ((x : Int) == 0) = false := by simp; omega
    by_cases h1 : x = 1
    · subst h1
      obtain ⟨ltf, x0, x1, f0, f1⟩ := F2.out.all
      obtain ⟨a', c', e', hat, -, hn, -⟩ := O2.out.1.at
      cases e'
      have A2 := Lib.hid hat
      have N2 := Lib.hid hn
      clear hat hn
      go_wp2_with fail
      refine (l01Own_any xs _ _ _ _ (by omega) A2.out N2.out).mono ?_
      rintro e w3 ⟨g, k1, rfl, hg, ho, hb⟩
      have S3 := Lib.hid (S2.out.other (grown_low hb none) (by intro e; cases e))
      have Z3 := Lib.hid (Z2.out.keep hb)
      have F3 := Lib.hid (F2.out.keep hb)
      have G3 := Lib.hid (grown_trans G2.out (grown_low hb _))
      have O3 := Lib.hid ho
      have hz3 := hb.size
      have hgw := (Own.inn (show Own w3 w2.heap.size (.slice (some ⟨g, 0, none⟩) xs.length k1) xs from ho)).blk g rfl
      clear ho hb x0 x1 f0 f1 A2
      obtain ⟨ltf, x0, x1, f0, f1⟩ := F3.out.all
      have hnB : xs.length ≤ 1099511627776 := by omega
      have hzB : w2.heap.size ≤ (w3.alloc (.cells #[.int .i64 0] 2)).heap.size := by simp; omega
      go_wp2_with (at_builtin; refine list_app1 rfl _ _ rfl w2.heap.size _ xs.length _ rfl (World.ownsRow.alloc O3.out _) ⟨w3.heap.size, 0, none⟩ 1 _ rfl (World.cell?_alloc_at _ _ _ _ rfl) hnB hzB ?_; intro v' w4 hown4 hgr4; have O4 := Lib.hid (own_add hown4); obtain ⟨a5, k5, e5, -⟩ := O4.out.at; have e6 : v' = .slice a5 (xs.length + 1) k5 := (by rw [e5]; simp); clear e5; subst e6; have GR4 := Lib.hid hgr4; have bA : Below w3.heap.size w3 (w3.alloc (.cells #[.int .i64 0] 2)) := (alloc_keep _ _).1; have hzA := bA.size; have hz4 := hgr4.size; replace hgr4 : (w3.alloc (.cells #[.int .i64 0] 2)).grownBy w4 (some g) := hgr4; have S4 := Lib.hid ((S3.out.other (grown_low bA none) (by intro e; cases e)).other hgr4 (by intro e; injection e with e; omega)); have Z4 := Lib.hid ((Z3.out.keep bA).grown hgr4 (by omega)); have F4 := Lib.hid ((F3.out.keep bA).grown hgr4 (by omega)); have G4 := Lib.hid (grown_new (grown_trans G3.out (grown_low bA _)) hgr4 (by omega)); have I4 := Lib.hid O4.out.inn; clear hown4 hgr4 bA x0 x1 f0 f1 GR4; obtain ⟨ltf, x0, x1, f0, f1⟩ := F4.out.all; obtain ⟨lt2, z0, z1, z2, z3⟩ := Z4.out.set (R := w1.heap.size) (o := 1) (v := .slice a5 (xs.length + 1) k5) (by omega))
      exact bodyPost_ret (v := .agg #[.int .i64 xs.length, .slice a5 (xs.length + 1) k5]) (by simp [results, Try.results40, go_sem, z0, z1]) rfl
        ⟨⟨_, xs.length, xs ++ [0], rfl, ⟨rfl, (((I4.out.setOut (.inl (by omega))).setOut (.inl (by omega))).setOut (.inl (by omega))).1.mono (by omega)⟩, by simp; omega, by omega, by omega⟩,
          ((S4.out.other (grown_set _ _ _ _) (by intro e; injection e with e; omega)).other (grown_set _ _ _ _) (by intro e; injection e with e; omega)).other (grown_set _ _ _ _) (by intro e; injection e with e; omega),
          grown_out (grown_out (grown_out G4.out (by omega)) (Nat.le_refl _)) (Nat.le_refl _)⟩
    · have e1 : ((x : Int) == 1) = false := by simp; omega
      by_cases h2 : x = 2
      · subst h2
        by_cases hpos : 0 < xs.length
        · skip
          have hne : ∀ k : Nat, w2.heap.size ≤ k → k ≠ b := fun k hk => by omega
          obtain ⟨ltf, x0, x1, f0, f1⟩ := F2.out.all
          obtain ⟨fz, hfz⟩ : ∃ z, IntKind.i64.wrap (full (xs.length : Int) + 1) = z := ⟨_, rfl⟩
          obtain ⟨g, cq, cur, hv, hgW, -⟩ := O2.out.1.2.resolve_left (fun q => by have := q.2; omega)
          cases hv
          have hgl : g < w1.heap.size := (O2.out.2.2 g rfl).2
          go_wp2
          go_region_held3 (fun w' => w'.cell? ⟨w1.heap.size, 0, none⟩ = some (.int .i64 xs.length) ∧ w'.cell? ⟨w1.heap.size, 1, none⟩ = some (.slice (some ⟨g, 0, none⟩) xs.length c1)) (first | exact ⟨one_set z0 (by omega), one_set z1 (by omega)⟩ | exact ⟨z0, z1⟩ | exact ⟨y0, y1⟩ | exact ⟨x0, x1⟩ | go_keep)
            (first | (go_at_call 72; refine (l01Next_any b a len cap _ _ B hBb (show Src w2.drew b a len cap from S2.out) (show Code B w2.drew a len from C2.out)).mono ?_; rintro e w3 ⟨t, rfl, ht, hs3, hg3'⟩; have hg3 : w2.grownBy w3 (some b) := ⟨hg3'.os, hg3'.tape, hg3'.output, hg3'.size, hg3'.block⟩; have htn : t < xs.length := (by rcases ht with ⟨h1, h2⟩ | h1 <;> omega); have S3 := Lib.hid hs3; have C3 := Lib.hid (C2.out.grown hg3 hBb hB2); have O3 := Lib.hid (O2.out.oth (b := some b) (lo' := b) (hi' := b + 1) (fun k e => by cases e; omega) hg3 (.inr (by omega))); have Z3 := Lib.hid (Z2.out.grown hg3 (by omega)); have F3 := Lib.hid (F2.out.grown hg3 (by omega)); have G3 := Lib.hid (grown_trans G2.out hg3); have hz3 : w2.heap.size ≤ w3.heap.size := hg3.size; have hB3 : B ≤ w3.heap.size := (by omega); clear hs3 hg3 hg3' ht; obtain ⟨lt3, y0, y1, y2, y3⟩ := F3.out.all) | (go_at_call 75; refine (l01Full_any _ _ (by omega) (by omega)).mono ?_; rintro e w' ⟨rfl, rfl⟩) | (go_at_call 73; have hr := World.ownsRow_lit (e := 2) (size := 1) (base := B) w3 #[.int .i64 (-1), .int .i64 fz] 2 hB3 (by unfold maxLen; omega) rfl; refine (l01Pick_any b a len cap w3.heap.size 2 2 [-1, fz] _ B hBb (S3.out.alloc _) (C3.out.alloc _ hB3) rfl (by decide) (by decide) (by omega) hr).mono ?_; rintro e w4 ⟨⟨y, -, rfl⟩, hs4, hg4⟩; have bA : Below w3.heap.size w3 (w3.alloc (.cells #[.int .i64 (-1), .int .i64 fz] 2)) := (alloc_keep _ _).1; have S4 := Lib.hid hs4; have O4 := Lib.hid ((O3.out.below bA O3.out.hi).oth (b := some b) (lo' := b) (hi' := b + 1) (fun k e => by cases e; omega) hg4 (.inr (by omega))); have Z4 := Lib.hid ((Z3.out.keep bA).grown hg4 (by omega)); have F4 := Lib.hid ((F3.out.keep bA).grown hg4 (by omega)); have G4 := Lib.hid (grown_trans (grown_trans G3.out (grown_low bA _)) hg4); clear hr hs4 hg4 bA; obtain ⟨q, hq⟩ : ∃ q, (xs.map (Value.int .i64))[t]? = some q := ⟨_, List.getElem?_eq_getElem (by rw [List.length_map]; exact htn)⟩; have hcg : w4.cell? ⟨g, t, none⟩ = some q := (World.ownsRow.cellAt O4.out.1 t (by omega)).trans hq; have hfg : w4.frozen? ⟨g, t, none⟩ = false := World.ownsRow.frozenAt O4.out.1 t; have ST := Lib.hid (World.ownsRow.stored O4.out.1 t (.int .i64 y)).1; clear hq; obtain ⟨lt4, z0, z1, z2, z3⟩ := F4.out.all))
          all_goals
            have S5 := Lib.hid (S4.out.other (grown_set w4 g t (.int .i64 y)) (by intro e; injection e with e; omega))
            have Z5 := Lib.hid (Z4.out.set (R := g) (o := t) (v := .int .i64 y) (by omega))
            have F5 := Lib.hid (F4.out.grown (grown_set w4 g t (.int .i64 y)) (by omega))
            have G5 := Lib.hid (grown_out (R := g) (o := t) (v := .int .i64 y) G4.out (by omega))
            have O5 := Lib.hid (show OwnIn (w4.setCell ⟨g, t, none⟩ (.int .i64 y)) W.heap.size w1.heap.size (.slice (some ⟨g, 0, none⟩) xs.length c1) (xs.set t y) from ⟨by unfold Own; rw [List.length_set, List.map_set]; exact ST.out, by have := O4.out.2.1; simpa [World.setCell] using this, O4.out.2.2⟩)
            clear x0 x1 f0 f1 y0 y1 y2 y3 z0 z1 z2 z3 hcg hfg
            obtain ⟨lt5, x0, x1, f0, f1⟩ := F5.out.all
            obtain ⟨lt6, z0, z1, z2, z3⟩ := Z5.out
            go_wp2
            exact bodyPost_ret (v := .agg #[.int .i64 xs.length, .slice (some ⟨g, 0, none⟩) xs.length c1]) (by simp [results, Try.results40, go_sem, z0, z1]) rfl
              ⟨⟨_, xs.length, xs.set t y, rfl, ⟨rfl, ((O5.out.setOut (.inl (by omega))).setOut (.inl (by omega))).1.mono (by omega)⟩, by simp; omega, by omega, by omega⟩,
                (S5.out.other (grown_set _ _ _ _) (by intro e; injection e with e; omega)).other (grown_set _ _ _ _) (by intro e; injection e with e; omega),
                grown_out (grown_out G5.out (Nat.le_refl _)) (Nat.le_refl _)⟩
        · obtain ⟨ltf, x0, x1, f0, f1⟩ := F2.out.all
          obtain ⟨lt2, z0, z1, z2, z3⟩ := Z2.out
          go_wp2
          exact bodyPost_ret (v := .agg #[.int .i64 xs.length, .slice a1 xs.length c1]) (by simp [results, Try.results40, go_sem, z0, z1]) rfl
            ⟨⟨_, xs.length, xs, rfl, ⟨rfl, ((O2.out.setOut (.inl (by omega))).setOut (.inl (by omega))).1.mono (by omega)⟩, by omega, by omega, by omega⟩,
              (S2.out.other (grown_set _ _ _ _) (by intro e; injection e with e; omega)).other (grown_set _ _ _ _) (by intro e; injection e with e; omega),
              grown_out (grown_out G2.out (Nat.le_refl _)) (Nat.le_refl _)⟩
      · have e2 : ((x : Int) == 2) = false := by simp; omega
        obtain ⟨ltf, x0, x1, f0, f1⟩ := F2.out.all
        obtain ⟨lt2, z0, z1, z2, z3⟩ := Z2.out
        go_wp2
        exact bodyPost_ret (v := .agg #[.int .i64 xs.length, .slice a1 xs.length c1]) (by simp [results, Try.results40, go_sem, z0, z1]) rfl
          ⟨⟨_, xs.length, xs, rfl, ⟨rfl, ((O2.out.setOut (.inl (by omega))).setOut (.inl (by omega))).1.mono (by omega)⟩, by omega, by omega, by omega⟩,
            (S2.out.other (grown_set _ _ _ _) (by intro e; injection e with e; omega)).other (grown_set _ _ _ _) (by intro e; injection e with e; omega),
            grown_out (grown_out G2.out (Nat.le_refl _)) (Nat.le_refl _)⟩

end Go.Proofs.Ytckilaeolkgnkaa
