/- 2 texts in one: Sx, Scan. -/
import Derived.Test.YtpccocmiadpgiaaPs
/- How one reading of the grammar follows from others, with bounds of length. No conditions but those in the theorems. -/
namespace Go.Proofs.Ytpccocmiadpgiaa

theorem drop_at {s : List UInt8} {k : Nat} {c : UInt8} (h : s[k]? = some c) : s.drop k = c :: s.drop (k + 1) := by
  obtain ⟨h1, h2⟩ := List.getElem?_eq_some_iff.1 h
  rw [List.drop_eq_getElem_cons h1, h2]
theorem head_drop (s : List UInt8) (k : Nat) : (s.drop k).head? = s[k]? := by rw [List.head?_drop]
theorem lt_at {s : List UInt8} {k : Nat} {c : UInt8} (h : s[k]? = some c) : k < s.length := (List.getElem?_eq_some_iff.1 h).1

/-- What a reading from place k to place k' has made: nodes of a formula, or (b) some nodes and a bad byte at k'. -/
def Sx (K : Kn) (s : List UInt8) (k : Nat) (zs : List Nd) (k' : Nat) (b : Bool) : Prop :=
  k ≤ k' ∧ k' ≤ s.length ∧ zs.length ≤ 3 * (k' - k) + 1 ∧ 0 < zs.length ∧
    ((b = false ∧ ∃ f : Fm, Ps K (s.drop k) (.ok f (s.drop k')) ∧ zs = f.enc ∧ f.ok ∧ k < k' ∧ f.sz ≤ 3 * (k' - k)) ∨ (b = true ∧ Ps K (s.drop k) (.er (s.drop k'))))
theorem sx_ok {K : Kn} {s : List UInt8} {k k' : Nat} {f : Fm} (h : Ps K (s.drop k) (.ok f (s.drop k'))) (hf : f.ok) (hk : k < k') (hk' : k' ≤ s.length) (hs : f.sz ≤ 3 * (k' - k)) : Sx K s k f.enc k' false :=
  ⟨by omega, hk', by rw [Fm.enc_len]; omega, by rw [Fm.enc_len]; exact f.sz_pos, .inl ⟨rfl, f, h, rfl, hf, hk, hs⟩⟩
theorem sx_er {K : Kn} {s : List UInt8} {k k' : Nat} {zs : List Nd} (h : Ps K (s.drop k) (.er (s.drop k'))) (hk : k ≤ k') (hk' : k' ≤ s.length) (hs : zs.length ≤ 3 * (k' - k) + 1) (h0 : 0 < zs.length) : Sx K s k zs k' true :=
  ⟨hk, hk', hs, h0, .inr ⟨rfl, h⟩⟩

theorem sx_va {s : List UInt8} {k : Nat} {c : UInt8} {v : Nat} (h : s[k]? = some c) (hc : c.toNat = 112 + v) (hv : v < 6) : Sx .pre s k [(0, (v : Int))] (k + 1) false := by
  have e : ((c.toNat : Int) - 112) = (v : Int) := by omega
  have := sx_ok (K := .pre) (s := s) (k := k) (k' := k + 1) (f := .va ((c.toNat : Int) - 112)) (by rw [drop_at h]; exact .va c _ (by show (112 : UInt8).toNat ≤ c.toNat; rw [hc]; show 112 ≤ 112 + v; omega) (by show c.toNat ≤ (117 : UInt8).toNat; rw [hc]; show 112 + v ≤ 117; omega)) (by rw [e]; exact ⟨by omega, by omega⟩) (by omega) (lt_at h) (by simp [Fm.sz])
  rw [e] at this
  exact this
theorem sx_fa {s : List UInt8} {k : Nat} (h : s[k]? = some 70) : Sx .pre s k [(1, 0)] (k + 1) false :=
  sx_ok (f := .fa) (by rw [drop_at h]; exact .fa _) trivial (by omega) (lt_at h) (by simp [Fm.sz])
theorem sx_tr {s : List UInt8} {k : Nat} (h : s[k]? = some 84) : Sx .pre s k [(4, 0), (1, 0), (1, 0)] (k + 1) false :=
  sx_ok (f := .bi 4 .fa .fa) (by rw [drop_at h]; exact .tr _) ⟨.inr (.inr rfl), trivial, trivial⟩ (by omega) (lt_at h) (by simp [Fm.sz])
theorem sx_no {s : List UInt8} {k k' : Nat} {zs : List Nd} {b : Bool} (h : s[k]? = some 126) (g : Sx .pre s (k + 1) zs k' b) : Sx .pre s k ((4, 0) :: (zs ++ [(1, 0)])) k' b := by
  obtain ⟨g1, g2, g3, g4, ⟨rfl, f, p, rfl, fo, fk, fs⟩ | ⟨rfl, p⟩⟩ := g
  · exact sx_ok (f := .bi 4 f .fa) (by rw [drop_at h]; exact .no _ _ _ p) ⟨.inr (.inr rfl), fo, trivial⟩ (by omega) g2 (by simp only [Fm.sz]; omega)
  · exact sx_er (by rw [drop_at h]; exact .noE _ _ p) (by omega) g2 (by simp; omega) (by simp)
theorem sx_un {s : List UInt8} {k k' : Nat} {zs : List Nd} {b : Bool} {m : Int} {c d : UInt8} (hm : (m = 5 ∧ c = 91 ∧ d = 93) ∨ (m = 6 ∧ c = 60 ∧ d = 62)) (h : s[k]? = some c) (h2 : s[k + 1]? = some d) (g : Sx .pre s (k + 2) zs k' b) : Sx .pre s k ((m, 0) :: zs) k' b := by
  obtain ⟨g1, g2, g3, g4, ⟨rfl, f, p, rfl, fo, fk, fs⟩ | ⟨rfl, p⟩⟩ := g
  · refine sx_ok (f := .un m f) ?_ ⟨by rcases hm with h | h; exact .inl h.1; exact .inr h.1, fo⟩ (by omega) g2 (by simp only [Fm.sz]; omega)
    rw [drop_at h, drop_at h2]
    rcases hm with ⟨rfl, rfl, rfl⟩ | ⟨rfl, rfl, rfl⟩
    · exact .bo _ _ _ p
    · exact .di _ _ _ p
  · refine sx_er ?_ (by omega) g2 (by simp; omega) (by simp)
    rw [drop_at h, drop_at h2]
    rcases hm with ⟨rfl, rfl, rfl⟩ | ⟨rfl, rfl, rfl⟩
    · exact .boE _ _ p
    · exact .diE _ _ p
theorem sx_unB {s : List UInt8} {k : Nat} {m : Int} {c d : UInt8} (hm : (c = 91 ∧ d = 93) ∨ (c = 60 ∧ d = 62)) (h : s[k]? = some c) (h2 : s[k + 1]? ≠ some d) : Sx .pre s k [(m, 0), (1, 0)] (k + 1) true := by
  refine sx_er ?_ (by omega) (lt_at h) (by simp) (by simp)
  rw [drop_at h]
  rcases hm with ⟨rfl, rfl⟩ | ⟨rfl, rfl⟩
  · exact .boB _ (by rw [head_drop]; exact h2)
  · exact .diB _ (by rw [head_drop]; exact h2)
theorem sx_pa {s : List UInt8} {k k' : Nat} {zs : List Nd} (h : s[k]? = some 40) (g : Sx .imp s (k + 1) zs k' false) (h2 : s[k']? = some 41) : Sx .pre s k zs (k' + 1) false := by
  obtain ⟨g1, g2, g3, g4, ⟨-, f, p, rfl, fo, fk, fs⟩ | ⟨hb, -⟩⟩ := g
  · rw [drop_at h2] at p
    exact sx_ok (by rw [drop_at h]; exact .pa _ _ _ p) fo (by omega) (lt_at h2) (by omega)
  · cases hb
theorem sx_paB {s : List UInt8} {k k' : Nat} {zs : List Nd} (h : s[k]? = some 40) (g : Sx .imp s (k + 1) zs k' false) (h2 : s[k']? ≠ some 41) : Sx .pre s k zs k' true := by
  obtain ⟨g1, g2, g3, g4, ⟨-, f, p, rfl, fo, fk, fs⟩ | ⟨hb, -⟩⟩ := g
  · exact sx_er (by rw [drop_at h]; exact .paB _ _ _ p (by rw [head_drop]; exact h2)) (by omega) g2 (by omega) g4
  · cases hb
theorem sx_paE {s : List UInt8} {k k' : Nat} {zs : List Nd} (h : s[k]? = some 40) (g : Sx .imp s (k + 1) zs k' true) : Sx .pre s k zs k' true := by
  obtain ⟨g1, g2, g3, g4, ⟨hb, -⟩ | ⟨-, p⟩⟩ := g
  · cases hb
  · exact sx_er (by rw [drop_at h]; exact .paE _ _ p) (by omega) g2 (by omega) g4
theorem sx_bad {s : List UInt8} {k : Nat} (hk : k ≤ s.length) (hv : ∀ c : UInt8, 112 ≤ c → c ≤ 117 → s[k]? ≠ some c) (h1 : s[k]? ≠ some 70) (h2 : s[k]? ≠ some 84) (h3 : s[k]? ≠ some 126) (h4 : s[k]? ≠ some 91) (h5 : s[k]? ≠ some 60) (h6 : s[k]? ≠ some 40) : Sx .pre s k [(1, 0)] k true := by
  refine sx_er (.bad _ ?_) (Nat.le_refl _) hk (by simp) (by simp)
  rintro ⟨c, r, e, h⟩
  have hc : s[k]? = some c := by rw [← head_drop, e]; rfl
  rcases h with ⟨a, b⟩ | rfl | rfl | rfl | rfl | rfl | rfl
  · exact hv c a b hc
  · exact h1 hc
  · exact h2 hc
  · exact h3 hc
  · exact h4 hc
  · exact h5 hc
  · exact h6 hc

/-- What stands between two rounds of a loop that joins parts of one level. -/
def Lx (K : Kn) (L : Fm → Kn) (s : List UInt8) (k : Nat) (zs : List Nd) (k' : Nat) (b : Bool) : Prop :=
  k ≤ k' ∧ k' ≤ s.length ∧ zs.length ≤ 3 * (k' - k) + 1 ∧ 0 < zs.length ∧
    ((b = false ∧ ∃ a : Fm, (∀ q, Ps (L a) (s.drop k') q → Ps K (s.drop k) q) ∧ zs = a.enc ∧ a.ok ∧ k < k' ∧ a.sz ≤ 3 * (k' - k)) ∨ (b = true ∧ Ps K (s.drop k) (.er (s.drop k'))))
theorem lx_and {s : List UInt8} {k k' : Nat} {zs : List Nd} {b : Bool} (g : Sx .pre s k zs k' b) : Lx .and .lAnd s k zs k' b := by
  obtain ⟨g1, g2, g3, g4, ⟨rfl, f, p, rfl, fo, fk, fs⟩ | ⟨rfl, p⟩⟩ := g
  · exact ⟨g1, g2, g3, g4, .inl ⟨rfl, f, fun q h => .an _ _ _ _ p h, rfl, fo, fk, fs⟩⟩
  · exact ⟨g1, g2, g3, g4, .inr ⟨rfl, .anE _ _ p⟩⟩
theorem lx_or {s : List UInt8} {k k' : Nat} {zs : List Nd} {b : Bool} (g : Sx .and s k zs k' b) : Lx .or .lOr s k zs k' b := by
  obtain ⟨g1, g2, g3, g4, ⟨rfl, f, p, rfl, fo, fk, fs⟩ | ⟨rfl, p⟩⟩ := g
  · exact ⟨g1, g2, g3, g4, .inl ⟨rfl, f, fun q h => .or _ _ _ _ p h, rfl, fo, fk, fs⟩⟩
  · exact ⟨g1, g2, g3, g4, .inr ⟨rfl, .orE _ _ p⟩⟩
theorem lx_and_step {s : List UInt8} {k k1 k2 : Nat} {xs zs : List Nd} {b : Bool} (g : Lx .and .lAnd s k xs k1 false) (h : s[k1]? = some 38) (d : Sx .pre s (k1 + 1) zs k2 b) : Lx .and .lAnd s k ((2, 0) :: (xs ++ zs)) k2 b := by
  obtain ⟨g1, g2, g3, g4, ⟨-, a, p, rfl, fo, fk, fs⟩ | ⟨hb, -⟩⟩ := g
  · obtain ⟨d1, d2, d3, d4, ⟨rfl, f, dp, rfl, do_, dk, ds⟩ | ⟨rfl, dp⟩⟩ := d
    · refine ⟨by omega, d2, by simp [Fm.enc_len]; omega, by simp, .inl ⟨rfl, .bi 2 a f, fun q hq => p q ?_, rfl, ⟨.inl rfl, fo, do_⟩, by omega, by simp only [Fm.sz]; omega⟩⟩
      rw [drop_at h]
      exact .la _ _ _ _ _ dp hq
    · refine ⟨by omega, d2, by simp [Fm.enc_len]; omega, by simp, .inr ⟨rfl, p _ ?_⟩⟩
      rw [drop_at h]
      exact .laE _ _ _ dp
  · cases hb
theorem lx_or_step {s : List UInt8} {k k1 k2 : Nat} {xs zs : List Nd} {b : Bool} (g : Lx .or .lOr s k xs k1 false) (h : s[k1]? = some 124) (d : Sx .and s (k1 + 1) zs k2 b) : Lx .or .lOr s k ((3, 0) :: (xs ++ zs)) k2 b := by
  obtain ⟨g1, g2, g3, g4, ⟨-, a, p, rfl, fo, fk, fs⟩ | ⟨hb, -⟩⟩ := g
  · obtain ⟨d1, d2, d3, d4, ⟨rfl, f, dp, rfl, do_, dk, ds⟩ | ⟨rfl, dp⟩⟩ := d
    · refine ⟨by omega, d2, by simp [Fm.enc_len]; omega, by simp, .inl ⟨rfl, .bi 3 a f, fun q hq => p q ?_, rfl, ⟨.inr (.inl rfl), fo, do_⟩, by omega, by simp only [Fm.sz]; omega⟩⟩
      rw [drop_at h]
      exact .lo _ _ _ _ _ dp hq
    · refine ⟨by omega, d2, by simp [Fm.enc_len]; omega, by simp, .inr ⟨rfl, p _ ?_⟩⟩
      rw [drop_at h]
      exact .loE _ _ _ dp
  · cases hb
theorem lx_and_end {s : List UInt8} {k k1 : Nat} {xs : List Nd} (g : Lx .and .lAnd s k xs k1 false) (h : s[k1]? ≠ some 38) : Sx .and s k xs k1 false := by
  obtain ⟨g1, g2, g3, g4, ⟨-, a, p, rfl, fo, fk, fs⟩ | ⟨hb, -⟩⟩ := g
  · exact sx_ok (p _ (.laZ _ _ (by rw [head_drop]; exact h))) fo fk g2 fs
  · cases hb
theorem lx_or_end {s : List UInt8} {k k1 : Nat} {xs : List Nd} (g : Lx .or .lOr s k xs k1 false) (h : s[k1]? ≠ some 124) : Sx .or s k xs k1 false := by
  obtain ⟨g1, g2, g3, g4, ⟨-, a, p, rfl, fo, fk, fs⟩ | ⟨hb, -⟩⟩ := g
  · exact sx_ok (p _ (.loZ _ _ (by rw [head_drop]; exact h))) fo fk g2 fs
  · cases hb
theorem lx_bad {K : Kn} {L : Fm → Kn} {s : List UInt8} {k k1 : Nat} {xs : List Nd} (g : Lx K L s k xs k1 true) : Sx K s k xs k1 true := by
  obtain ⟨g1, g2, g3, g4, ⟨hb, -⟩ | ⟨-, p⟩⟩ := g
  · cases hb
  · exact sx_er p g1 g2 g3 g4
theorem sx_im {s : List UInt8} {k k1 k2 : Nat} {xs zs : List Nd} {b : Bool} (g : Sx .or s k xs k1 false) (h : s[k1]? = some 62) (d : Sx .imp s (k1 + 1) zs k2 b) : Sx .imp s k ((4, 0) :: (xs ++ zs)) k2 b := by
  obtain ⟨g1, g2, g3, g4, ⟨-, a, p, rfl, fo, fk, fs⟩ | ⟨hb, -⟩⟩ := g
  · rw [drop_at h] at p
    obtain ⟨d1, d2, d3, d4, ⟨rfl, f, dp, rfl, do_, dk, ds⟩ | ⟨rfl, dp⟩⟩ := d
    · exact sx_ok (f := .bi 4 a f) (.im _ _ _ _ _ p dp) ⟨.inr (.inr rfl), fo, do_⟩ (by omega) d2 (by simp only [Fm.sz]; omega)
    · exact sx_er (.imB _ _ _ _ p dp) (by omega) d2 (by simp [Fm.enc_len]; omega) (by simp)
  · cases hb
theorem sx_imZ {s : List UInt8} {k k1 : Nat} {xs : List Nd} (g : Sx .or s k xs k1 false) (h : s[k1]? ≠ some 62) : Sx .imp s k xs k1 false := by
  obtain ⟨g1, g2, g3, g4, ⟨-, a, p, rfl, fo, fk, fs⟩ | ⟨hb, -⟩⟩ := g
  · exact sx_ok (.imZ _ _ _ p (by rw [head_drop]; exact h)) fo fk g2 fs
  · cases hb
theorem sx_imE {s : List UInt8} {k k1 : Nat} {xs : List Nd} (g : Sx .or s k xs k1 true) : Sx .imp s k xs k1 true := by
  obtain ⟨g1, g2, g3, g4, ⟨hb, -⟩ | ⟨-, p⟩⟩ := g
  · cases hb
  · exact sx_er (.imE _ _ p) g1 g2 g3 g4

end Go.Proofs.Ytpccocmiadpgiaa

/- What a text is read as: the reader with a stack, run as a function; the grammar's reading tells its answer. No conditions but those in the theorems. -/
namespace Go.Proofs.Ytpccocmiadpgiaa

def scan : St → List UInt8 → St × List UInt8
  | st, [] => (st, [])
  | st, c :: s => match stp st c with
    | none => (st, c :: s)
    | some st' => scan st' s
theorem scan_run {a b : St} {s r : List UInt8} (h : Run a s b r) : scan a s = scan b r := by
  induction h with
  | refl => rfl
  | step st st' st'' c s r h1 _ ih => rw [scan, h1]; exact ih
theorem scan_stop {b : St} {c : UInt8} {r : List UInt8} (h : stp b c = none) : scan b (c :: r) = (b, c :: r) := by rw [scan, h]
def st0 : St := ⟨0, [], []⟩
/-- The formula that a text is read as, if it is one. -/
def readF (s : List UInt8) : Option Fm := match scan st0 s with | (st, []) => ends st | _ => none
/-- The place of the first bad byte, if there is one. -/
def badAt (s : List UInt8) : Nat := s.length - (scan st0 s).2.length
theorem readF_ok {s : List UInt8} {f : Fm} (h : Ps .imp s (.ok f [])) : readF s = some f := by
  obtain ⟨st, h1, h2⟩ := read_ok h
  unfold readF
  rw [show st0 = ⟨0, [], []⟩ from rfl, scan_run h1, scan]
  exact h2
theorem rej_bad {s e : List UInt8} (h : Rej ⟨0, [], []⟩ s e) : readF s = none ∧ badAt s = s.length - e.length := by
  obtain ⟨st', h1, h2⟩ := h
  unfold readF badAt
  rw [show st0 = ⟨0, [], []⟩ from rfl, scan_run h1]
  cases e with
  | nil => exact ⟨h2, rfl⟩
  | cons c r => rw [scan_stop h2]; exact ⟨rfl, rfl⟩
theorem readF_er {s : List UInt8} {k : Nat} (h : Ps .imp s (.er (s.drop k))) (hk : k ≤ s.length) : readF s = none ∧ badAt s = k := by
  obtain ⟨h1, h2⟩ := rej_bad (read_bad h)
  exact ⟨h1, by rw [h2, List.length_drop]; omega⟩
theorem readF_more {s : List UInt8} {k : Nat} {f : Fm} (h : Ps .imp s (.ok f (s.drop k))) (hk : k < s.length) : readF s = none ∧ badAt s = k := by
  rw [List.drop_eq_getElem_cons hk] at h
  obtain ⟨h1, h2⟩ := rej_bad (read_more h)
  exact ⟨h1, by rw [h2, ← List.drop_eq_getElem_cons hk, List.length_drop]; omega⟩

/-- What ParseFormula answers. -/
def pZ (s : List UInt8) : List Nd := if 200 < s.length then [] else match readF s with | some f => if 40 < f.sz then [] else f.enc | none => []
def pA (s : List UInt8) : Int := if 200 < s.length then 0 else match readF s with | some _ => 0 | none => (badAt s : Int)
def pC (s : List UInt8) : Int := if 200 < s.length then 3 else match readF s with | some f => if 40 < f.sz then 3 else 0 | none => 6
theorem p_long {s : List UInt8} (h : 200 < s.length) : pZ s = [] ∧ pA s = 0 ∧ pC s = 3 := by simp [pZ, pA, pC, h]
theorem p_bad {s : List UInt8} (h : ¬ 200 < s.length) (hr : readF s = none) : pZ s = [] ∧ pA s = badAt s ∧ pC s = 6 := by simp only [pZ, pA, pC, if_neg h, hr]; exact ⟨trivial, trivial, trivial⟩
theorem p_big {s : List UInt8} {f : Fm} (h : ¬ 200 < s.length) (hr : readF s = some f) (hb : 40 < f.sz) : pZ s = [] ∧ pA s = 0 ∧ pC s = 3 := by simp only [pZ, pA, pC, if_neg h, hr, if_pos hb]; exact ⟨trivial, trivial, trivial⟩
theorem p_ok {s : List UInt8} {f : Fm} (h : ¬ 200 < s.length) (hr : readF s = some f) (hb : ¬ 40 < f.sz) : pZ s = f.enc ∧ pA s = 0 ∧ pC s = 0 := by simp only [pZ, pA, pC, if_neg h, hr, if_neg hb]; exact ⟨trivial, trivial, trivial⟩
theorem pZ_len (s : List UInt8) : (pZ s).length ≤ 40 := by
  unfold pZ
  split
  · simp
  · split
    · split
      · simp
      · rw [Fm.enc_len]; omega
    · simp

end Go.Proofs.Ytpccocmiadpgiaa
