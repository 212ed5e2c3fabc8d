/- 3 texts in one: Sx, Scan, Mach. -/
import Derived.Test.YtpccocmiadpgiaaPs
/- How one reading of the grammar follows from others, with bounds of length. No conditions but those in the theorems. -/
namespace Go.Proofs.Ytpccocmiadpgiaa

theorem drop_at {s : List UInt8} {k : Nat} {c : UInt8} (h : s[k]? = some c) : s.drop k = c :: s.drop (k + 1) := by
  obtain ⟨h1, h2⟩ := List.getElem?_eq_some_iff.1 h
  rw [List.drop_eq_getElem_cons h1, h2]
theorem head_drop (s : List UInt8) (k : Nat) : (s.drop k).head? = s[k]? := by rw [List.head?_drop]
theorem lt_at {s : List UInt8} {k : Nat} {c : UInt8} (h : s[k]? = some c) : k < s.length := (List.getElem?_eq_some_iff.1 h).1

/-- What a reading from place k to place k' has made: nodes of a formula, or (b) some nodes and a bad byte at k'. -/
def Sx (K : Kn) (s : List UInt8) (k : Nat) (zs : List Nd) (k' : Nat) (b : Bool) : Prop :=
  k ≤ k' ∧ k' ≤ s.length ∧ zs.length ≤ 3 * (k' - k) + 1 ∧ 0 < zs.length ∧
    ((b = false ∧ ∃ f : Fm, Ps K (s.drop k) (.ok f (s.drop k')) ∧ zs = f.enc ∧ f.ok ∧ k < k' ∧ f.sz ≤ 3 * (k' - k)) ∨ (b = true ∧ Ps K (s.drop k) (.er (s.drop k'))))
theorem sx_ok {K : Kn} {s : List UInt8} {k k' : Nat} {f : Fm} (h : Ps K (s.drop k) (.ok f (s.drop k'))) (hf : f.ok) (hk : k < k') (hk' : k' ≤ s.length) (hs : f.sz ≤ 3 * (k' - k)) : Sx K s k f.enc k' false :=
  ⟨by omega, hk', by rw [Fm.enc_len]; omega, by rw [Fm.enc_len]; exact f.sz_pos, .inl ⟨rfl, f, h, rfl, hf, hk, hs⟩⟩
theorem sx_er {K : Kn} {s : List UInt8} {k k' : Nat} {zs : List Nd} (h : Ps K (s.drop k) (.er (s.drop k'))) (hk : k ≤ k') (hk' : k' ≤ s.length) (hs : zs.length ≤ 3 * (k' - k) + 1) (h0 : 0 < zs.length) : Sx K s k zs k' true :=
  ⟨hk, hk', hs, h0, .inr ⟨rfl, h⟩⟩

theorem sx_va {s : List UInt8} {k : Nat} {c : UInt8} {v : Nat} (h : s[k]? = some c) (hc : c.toNat = 112 + v) (hv : v < 6) : Sx .pre s k [(0, (v : Int))] (k + 1) false := by
  have e : ((c.toNat : Int) - 112) = (v : Int) := by omega
  have := sx_ok (K := .pre) (s := s) (k := k) (k' := k + 1) (f := .va ((c.toNat : Int) - 112)) (by rw [drop_at h]; exact .va c _ (by show (112 : UInt8).toNat ≤ c.toNat; rw [hc]; show 112 ≤ 112 + v; omega) (by show c.toNat ≤ (117 : UInt8).toNat; rw [hc]; show 112 + v ≤ 117; omega)) (by rw [e]; exact ⟨by omega, by omega⟩) (by omega) (lt_at h) (by simp [Fm.sz])
  rw [e] at this
  exact this
theorem sx_fa {s : List UInt8} {k : Nat} (h : s[k]? = some 70) : Sx .pre s k [(1, 0)] (k + 1) false :=
  sx_ok (f := .fa) (by rw [drop_at h]; exact .fa _) trivial (by omega) (lt_at h) (by simp [Fm.sz])
theorem sx_tr {s : List UInt8} {k : Nat} (h : s[k]? = some 84) : Sx .pre s k [(4, 0), (1, 0), (1, 0)] (k + 1) false :=
  sx_ok (f := .bi 4 .fa .fa) (by rw [drop_at h]; exact .tr _) ⟨.inr (.inr rfl), trivial, trivial⟩ (by omega) (lt_at h) (by simp [Fm.sz])
theorem sx_no {s : List UInt8} {k k' : Nat} {zs : List Nd} {b : Bool} (h : s[k]? = some 126) (g : Sx .pre s (k + 1) zs k' b) : Sx .pre s k ((4, 0) :: (zs ++ [(1, 0)])) k' b := by
  obtain ⟨g1, g2, g3, g4, ⟨rfl, f, p, rfl, fo, fk, fs⟩ | ⟨rfl, p⟩⟩ := g
  · exact sx_ok (f := .bi 4 f .fa) (by rw [drop_at h]; exact .no _ _ _ p) ⟨.inr (.inr rfl), fo, trivial⟩ (by omega) g2 (by simp only [Fm.sz]; omega)
  · exact sx_er (by rw [drop_at h]; exact .noE _ _ p) (by omega) g2 (by simp; omega) (by simp)
theorem sx_un {s : List UInt8} {k k' : Nat} {zs : List Nd} {b : Bool} {m : Int} {c d : UInt8} (hm : (m = 5 ∧ c = 91 ∧ d = 93) ∨ (m = 6 ∧ c = 60 ∧ d = 62)) (h : s[k]? = some c) (h2 : s[k + 1]? = some d) (g : Sx .pre s (k + 2) zs k' b) : Sx .pre s k ((m, 0) :: zs) k' b := by
  obtain ⟨g1, g2, g3, g4, ⟨rfl, f, p, rfl, fo, fk, fs⟩ | ⟨rfl, p⟩⟩ := g
  · refine sx_ok (f := .un m f) ?_ ⟨by rcases hm with h | h; exact .inl h.1; exact .inr h.1, fo⟩ (by omega) g2 (by simp only [Fm.sz]; omega)
    rw [drop_at h, drop_at h2]
    rcases hm with ⟨rfl, rfl, rfl⟩ | ⟨rfl, rfl, rfl⟩
    · exact .bo _ _ _ p
    · exact .di _ _ _ p
  · refine sx_er ?_ (by omega) g2 (by simp; omega) (by simp)
    rw [drop_at h, drop_at h2]
    rcases hm with ⟨rfl, rfl, rfl⟩ | ⟨rfl, rfl, rfl⟩
    · exact .boE _ _ p
    · exact .diE _ _ p
theorem sx_unB {s : List UInt8} {k : Nat} {m : Int} {c d : UInt8} (hm : (c = 91 ∧ d = 93) ∨ (c = 60 ∧ d = 62)) (h : s[k]? = some c) (h2 : s[k + 1]? ≠ some d) : Sx .pre s k [(m, 0), (1, 0)] (k + 1) true := by
  refine sx_er ?_ (by omega) (lt_at h) (by simp) (by simp)
  rw [drop_at h]
  rcases hm with ⟨rfl, rfl⟩ | ⟨rfl, rfl⟩
  · exact .boB _ (by rw [head_drop]; exact h2)
  · exact .diB _ (by rw [head_drop]; exact h2)
theorem sx_pa {s : List UInt8} {k k' : Nat} {zs : List Nd} (h : s[k]? = some 40) (g : Sx .imp s (k + 1) zs k' false) (h2 : s[k']? = some 41) : Sx .pre s k zs (k' + 1) false := by
  obtain ⟨g1, g2, g3, g4, ⟨-, f, p, rfl, fo, fk, fs⟩ | ⟨hb, -⟩⟩ := g
  · rw [drop_at h2] at p
    exact sx_ok (by rw [drop_at h]; exact .pa _ _ _ p) fo (by omega) (lt_at h2) (by omega)
  · cases hb
theorem sx_paB {s : List UInt8} {k k' : Nat} {zs : List Nd} (h : s[k]? = some 40) (g : Sx .imp s (k + 1) zs k' false) (h2 : s[k']? ≠ some 41) : Sx .pre s k zs k' true := by
  obtain ⟨g1, g2, g3, g4, ⟨-, f, p, rfl, fo, fk, fs⟩ | ⟨hb, -⟩⟩ := g
  · exact sx_er (by rw [drop_at h]; exact .paB _ _ _ p (by rw [head_drop]; exact h2)) (by omega) g2 (by omega) g4
  · cases hb
theorem sx_paE {s : List UInt8} {k k' : Nat} {zs : List Nd} (h : s[k]? = some 40) (g : Sx .imp s (k + 1) zs k' true) : Sx .pre s k zs k' true := by
  obtain ⟨g1, g2, g3, g4, ⟨hb, -⟩ | ⟨-, p⟩⟩ := g
  · cases hb
  · exact sx_er (by rw [drop_at h]; exact .paE _ _ p) (by omega) g2 (by omega) g4
theorem sx_bad {s : List UInt8} {k : Nat} (hk : k ≤ s.length) (hv : ∀ c : UInt8, 112 ≤ c → c ≤ 117 → s[k]? ≠ some c) (h1 : s[k]? ≠ some 70) (h2 : s[k]? ≠ some 84) (h3 : s[k]? ≠ some 126) (h4 : s[k]? ≠ some 91) (h5 : s[k]? ≠ some 60) (h6 : s[k]? ≠ some 40) : Sx .pre s k [(1, 0)] k true := by
  refine sx_er (.bad _ ?_) (Nat.le_refl _) hk (by simp) (by simp)
  rintro ⟨c, r, e, h⟩
  have hc : s[k]? = some c := by rw [← head_drop, e]; rfl
  rcases h with ⟨a, b⟩ | rfl | rfl | rfl | rfl | rfl | rfl
  · exact hv c a b hc
  · exact h1 hc
  · exact h2 hc
  · exact h3 hc
  · exact h4 hc
  · exact h5 hc
  · exact h6 hc

/-- What stands between two rounds of a loop that joins parts of one level. -/
def Lx (K : Kn) (L : Fm → Kn) (s : List UInt8) (k : Nat) (zs : List Nd) (k' : Nat) (b : Bool) : Prop :=
  k ≤ k' ∧ k' ≤ s.length ∧ zs.length ≤ 3 * (k' - k) + 1 ∧ 0 < zs.length ∧
    ((b = false ∧ ∃ a : Fm, (∀ q, Ps (L a) (s.drop k') q → Ps K (s.drop k) q) ∧ zs = a.enc ∧ a.ok ∧ k < k' ∧ a.sz ≤ 3 * (k' - k)) ∨ (b = true ∧ Ps K (s.drop k) (.er (s.drop k'))))
theorem lx_and {s : List UInt8} {k k' : Nat} {zs : List Nd} {b : Bool} (g : Sx .pre s k zs k' b) : Lx .and .lAnd s k zs k' b := by
  obtain ⟨g1, g2, g3, g4, ⟨rfl, f, p, rfl, fo, fk, fs⟩ | ⟨rfl, p⟩⟩ := g
  · exact ⟨g1, g2, g3, g4, .inl ⟨rfl, f, fun q h => .an _ _ _ _ p h, rfl, fo, fk, fs⟩⟩
  · exact ⟨g1, g2, g3, g4, .inr ⟨rfl, .anE _ _ p⟩⟩
theorem lx_or {s : List UInt8} {k k' : Nat} {zs : List Nd} {b : Bool} (g : Sx .and s k zs k' b) : Lx .or .lOr s k zs k' b := by
  obtain ⟨g1, g2, g3, g4, ⟨rfl, f, p, rfl, fo, fk, fs⟩ | ⟨rfl, p⟩⟩ := g
  · exact ⟨g1, g2, g3, g4, .inl ⟨rfl, f, fun q h => .or _ _ _ _ p h, rfl, fo, fk, fs⟩⟩
  · exact ⟨g1, g2, g3, g4, .inr ⟨rfl, .orE _ _ p⟩⟩
theorem lx_and_step {s : List UInt8} {k k1 k2 : Nat} {xs zs : List Nd} {b : Bool} (g : Lx .and .lAnd s k xs k1 false) (h : s[k1]? = some 38) (d : Sx .pre s (k1 + 1) zs k2 b) : Lx .and .lAnd s k ((2, 0) :: (xs ++ zs)) k2 b := by
  obtain ⟨g1, g2, g3, g4, ⟨-, a, p, rfl, fo, fk, fs⟩ | ⟨hb, -⟩⟩ := g
  · obtain ⟨d1, d2, d3, d4, ⟨rfl, f, dp, rfl, do_, dk, ds⟩ | ⟨rfl, dp⟩⟩ := d
    · refine ⟨by omega, d2, by simp [Fm.enc_len]; omega, by simp, .inl ⟨rfl, .bi 2 a f, fun q hq => p q ?_, rfl, ⟨.inl rfl, fo, do_⟩, by omega, by simp only [Fm.sz]; omega⟩⟩
      rw [drop_at h]
      exact .la _ _ _ _ _ dp hq
    · refine ⟨by omega, d2, by simp [Fm.enc_len]; omega, by simp, .inr ⟨rfl, p _ ?_⟩⟩
      rw [drop_at h]
      exact .laE _ _ _ dp
  · cases hb
theorem lx_or_step {s : List UInt8} {k k1 k2 : Nat} {xs zs : List Nd} {b : Bool} (g : Lx .or .lOr s k xs k1 false) (h : s[k1]? = some 124) (d : Sx .and s (k1 + 1) zs k2 b) : Lx .or .lOr s k ((3, 0) :: (xs ++ zs)) k2 b := by
  obtain ⟨g1, g2, g3, g4, ⟨-, a, p, rfl, fo, fk, fs⟩ | ⟨hb, -⟩⟩ := g
  · obtain ⟨d1, d2, d3, d4, ⟨rfl, f, dp, rfl, do_, dk, ds⟩ | ⟨rfl, dp⟩⟩ := d
    · refine ⟨by omega, d2, by simp [Fm.enc_len]; omega, by simp, .inl ⟨rfl, .bi 3 a f, fun q hq => p q ?_, rfl, ⟨.inr (.inl rfl), fo, do_⟩, by omega, by simp only [Fm.sz]; omega⟩⟩
      rw [drop_at h]
      exact .lo _ _ _ _ _ dp hq
    · refine ⟨by omega, d2, by simp [Fm.enc_len]; omega, by simp, .inr ⟨rfl, p _ ?_⟩⟩
      rw [drop_at h]
      exact .loE _ _ _ dp
  · cases hb
theorem lx_and_end {s : List UInt8} {k k1 : Nat} {xs : List Nd} (g : Lx .and .lAnd s k xs k1 false) (h : s[k1]? ≠ some 38) : Sx .and s k xs k1 false := by
  obtain ⟨g1, g2, g3, g4, ⟨-, a, p, rfl, fo, fk, fs⟩ | ⟨hb, -⟩⟩ := g
  · exact sx_ok (p _ (.laZ _ _ (by rw [head_drop]; exact h))) fo fk g2 fs
  · cases hb
theorem lx_or_end {s : List UInt8} {k k1 : Nat} {xs : List Nd} (g : Lx .or .lOr s k xs k1 false) (h : s[k1]? ≠ some 124) : Sx .or s k xs k1 false := by
  obtain ⟨g1, g2, g3, g4, ⟨-, a, p, rfl, fo, fk, fs⟩ | ⟨hb, -⟩⟩ := g
  · exact sx_ok (p _ (.loZ _ _ (by rw [head_drop]; exact h))) fo fk g2 fs
  · cases hb
theorem lx_bad {K : Kn} {L : Fm → Kn} {s : List UInt8} {k k1 : Nat} {xs : List Nd} (g : Lx K L s k xs k1 true) : Sx K s k xs k1 true := by
  obtain ⟨g1, g2, g3, g4, ⟨hb, -⟩ | ⟨-, p⟩⟩ := g
  · cases hb
  · exact sx_er p g1 g2 g3 g4
theorem sx_im {s : List UInt8} {k k1 k2 : Nat} {xs zs : List Nd} {b : Bool} (g : Sx .or s k xs k1 false) (h : s[k1]? = some 62) (d : Sx .imp s (k1 + 1) zs k2 b) : Sx .imp s k ((4, 0) :: (xs ++ zs)) k2 b := by
  obtain ⟨g1, g2, g3, g4, ⟨-, a, p, rfl, fo, fk, fs⟩ | ⟨hb, -⟩⟩ := g
  · rw [drop_at h] at p
    obtain ⟨d1, d2, d3, d4, ⟨rfl, f, dp, rfl, do_, dk, ds⟩ | ⟨rfl, dp⟩⟩ := d
    · exact sx_ok (f := .bi 4 a f) (.im _ _ _ _ _ p dp) ⟨.inr (.inr rfl), fo, do_⟩ (by omega) d2 (by simp only [Fm.sz]; omega)
    · exact sx_er (.imB _ _ _ _ p dp) (by omega) d2 (by simp [Fm.enc_len]; omega) (by simp)
  · cases hb
theorem sx_imZ {s : List UInt8} {k k1 : Nat} {xs : List Nd} (g : Sx .or s k xs k1 false) (h : s[k1]? ≠ some 62) : Sx .imp s k xs k1 false := by
  obtain ⟨g1, g2, g3, g4, ⟨-, a, p, rfl, fo, fk, fs⟩ | ⟨hb, -⟩⟩ := g
  · exact sx_ok (.imZ _ _ _ p (by rw [head_drop]; exact h)) fo fk g2 fs
  · cases hb
theorem sx_imE {s : List UInt8} {k k1 : Nat} {xs : List Nd} (g : Sx .or s k xs k1 true) : Sx .imp s k xs k1 true := by
  obtain ⟨g1, g2, g3, g4, ⟨hb, -⟩ | ⟨-, p⟩⟩ := g
  · cases hb
  · exact sx_er (.imE _ _ p) g1 g2 g3 g4

end Go.Proofs.Ytpccocmiadpgiaa

/- What a text is read as: the reader with a stack, run as a function; the grammar's reading tells its answer. No conditions but those in the theorems. -/
namespace Go.Proofs.Ytpccocmiadpgiaa

def scan : St → List UInt8 → St × List UInt8
  | st, [] => (st, [])
  | st, c :: s => match stp st c with
    | none => (st, c :: s)
    | some st' => scan st' s
theorem scan_run {a b : St} {s r : List UInt8} (h : Run a s b r) : scan a s = scan b r := by
  induction h with
  | refl => rfl
  | step st st' st'' c s r h1 _ ih => rw [scan, h1]; exact ih
theorem scan_stop {b : St} {c : UInt8} {r : List UInt8} (h : stp b c = none) : scan b (c :: r) = (b, c :: r) := by rw [scan, h]
def st0 : St := ⟨0, [], []⟩
/-- The formula that a text is read as, if it is one. -/
def readF (s : List UInt8) : Option Fm := match scan st0 s with | (st, []) => ends st | _ => none
/-- The place of the first bad byte, if there is one. -/
def badAt (s : List UInt8) : Nat := s.length - (scan st0 s).2.length
theorem readF_ok {s : List UInt8} {f : Fm} (h : Ps .imp s (.ok f [])) : readF s = some f := by
  obtain ⟨st, h1, h2⟩ := read_ok h
  unfold readF
  rw [show st0 = ⟨0, [], []⟩ from rfl, scan_run h1, scan]
  exact h2
theorem rej_bad {s e : List UInt8} (h : Rej ⟨0, [], []⟩ s e) : readF s = none ∧ badAt s = s.length - e.length := by
  obtain ⟨st', h1, h2⟩ := h
  unfold readF badAt
  rw [show st0 = ⟨0, [], []⟩ from rfl, scan_run h1]
  cases e with
  | nil => exact ⟨h2, rfl⟩
  | cons c r => rw [scan_stop h2]; exact ⟨rfl, rfl⟩
theorem readF_er {s : List UInt8} {k : Nat} (h : Ps .imp s (.er (s.drop k))) (hk : k ≤ s.length) : readF s = none ∧ badAt s = k := by
  obtain ⟨h1, h2⟩ := rej_bad (read_bad h)
  exact ⟨h1, by rw [h2, List.length_drop]; omega⟩
theorem readF_more {s : List UInt8} {k : Nat} {f : Fm} (h : Ps .imp s (.ok f (s.drop k))) (hk : k < s.length) : readF s = none ∧ badAt s = k := by
  rw [List.drop_eq_getElem_cons hk] at h
  obtain ⟨h1, h2⟩ := rej_bad (read_more h)
  exact ⟨h1, by rw [h2, ← List.drop_eq_getElem_cons hk, List.length_drop]; omega⟩

/-- What ParseFormula answers. -/
def pZ (s : List UInt8) : List Nd := if 200 < s.length then [] else match readF s with | some f => if 40 < f.sz then [] else f.enc | none => []
def pA (s : List UInt8) : Int := if 200 < s.length then 0 else match readF s with | some _ => 0 | none => (badAt s : Int)
def pC (s : List UInt8) : Int := if 200 < s.length then 3 else match readF s with | some f => if 40 < f.sz then 3 else 0 | none => 6
theorem p_long {s : List UInt8} (h : 200 < s.length) : pZ s = [] ∧ pA s = 0 ∧ pC s = 3 := by simp [pZ, pA, pC, h]
theorem p_bad {s : List UInt8} (h : ¬ 200 < s.length) (hr : readF s = none) : pZ s = [] ∧ pA s = badAt s ∧ pC s = 6 := by simp only [pZ, pA, pC, if_neg h, hr]; exact ⟨trivial, trivial, trivial⟩
theorem p_big {s : List UInt8} {f : Fm} (h : ¬ 200 < s.length) (hr : readF s = some f) (hb : 40 < f.sz) : pZ s = [] ∧ pA s = 0 ∧ pC s = 3 := by simp only [pZ, pA, pC, if_neg h, hr, if_pos hb]; exact ⟨trivial, trivial, trivial⟩
theorem p_ok {s : List UInt8} {f : Fm} (h : ¬ 200 < s.length) (hr : readF s = some f) (hb : ¬ 40 < f.sz) : pZ s = f.enc ∧ pA s = 0 ∧ pC s = 0 := by simp only [pZ, pA, pC, if_neg h, hr, if_neg hb]; exact ⟨trivial, trivial, trivial⟩
theorem pZ_len (s : List UInt8) : (pZ s).length ≤ 40 := by
  unfold pZ
  split
  · simp
  · split
    · split
      · simp
      · rw [Fm.enc_len]; omega
    · simp

end Go.Proofs.Ytpccocmiadpgiaa

/- The reader with a stack: what holds of its marks and parts in every state. No conditions but those in the theorems. -/
namespace Go.Proofs.Ytpccocmiadpgiaa

/-- How many marks wait for two parts. -/
def nb : List Int → Nat
  | [] => 0
  | m :: W => (if m = 2 ∨ m = 3 ∨ m = 4 then 1 else 0) + nb W
def mk1 (m : Int) : Prop := m = -2 ∨ m = -1 ∨ m = 2 ∨ m = 3 ∨ m = 4 ∨ m = 5 ∨ m = 6
def ms' : List Fm → Nat
  | [] => 0
  | f :: P => f.sz + ms' P
/-- Marks, parts (d of them more than marks for two), their nodes. -/
def WP (d n : Nat) (W : List Int) (P : List Fm) : Prop := (∀ m ∈ W, mk1 m) ∧ P.length = nb W + d ∧ (∀ f ∈ P, f.ok) ∧ ms' P + 2 * W.length ≤ 3 * n
theorem WP.more {d n n' : Nat} {W : List Int} {P : List Fm} (h : WP d n W P) (hn : n ≤ n') : WP d n' W P := ⟨h.1, h.2.1, h.2.2.1, by have := h.2.2.2; omega⟩
theorem jp_wp {n : Nat} {m : Int} {W : List Int} {P : List Fm} (h : WP 1 n (m :: W) P) (hm : m ≠ -1) : WP 1 n W (jp m P) := by
  obtain ⟨h1, h2, h3, h4⟩ := h
  have hW : ∀ x ∈ W, mk1 x := fun x hx => h1 x (List.mem_cons_of_mem _ hx)
  have hmk : mk1 m := h1 m (List.mem_cons_self ..)
  match P, h2, h3, h4 with
  | [], h2, _, _ => simp [nb] at h2
  | [a], h2, h3, h4 =>
    have ha : a.ok := h3 a (List.mem_cons_self ..)
    have hb : ¬ (m = 2 ∨ m = 3 ∨ m = 4) := fun h => by simp [nb, h] at h2
    simp only [nb, if_neg hb, List.length_cons, List.length_nil] at h2
    simp only [ms', List.length_cons] at h4
    by_cases e : m = -2
    · subst e
      refine ⟨hW, by simp [jp]; omega, ?_, ?_⟩
      · intro f hf
        simp only [jp, if_true, List.mem_singleton] at hf
        subst hf
        exact ⟨.inr (.inr rfl), ha, trivial⟩
      · simp only [jp, if_true, ms', Fm.sz]; omega
    · have e2 : m = 5 ∨ m = 6 := by
        rcases hmk with h | h | h | h | h | h | h
        · exact absurd h e
        · exact absurd h hm
        · exact absurd (.inl h) hb
        · exact absurd (.inr (.inl h)) hb
        · exact absurd (.inr (.inr h)) hb
        · exact .inl h
        · exact .inr h
      refine ⟨hW, by simp [jp, e, e2]; omega, ?_, ?_⟩
      · intro f hf
        simp only [jp, if_neg e, if_pos e2, List.mem_singleton] at hf
        subst hf
        exact ⟨e2, ha⟩
      · simp only [jp, if_neg e, if_pos e2, ms', Fm.sz]; omega
  | b :: a :: P, h2, h3, h4 =>
    have hb : b.ok := h3 b (by simp)
    have ha : a.ok := h3 a (by simp)
    have hP : ∀ f ∈ P, f.ok := fun f hf => h3 f (by simp [hf])
    simp only [nb, List.length_cons] at h2
    simp only [ms', List.length_cons] at h4
    by_cases e : m = -2
    · subst e
      refine ⟨hW, by simp [jp] at h2 ⊢; omega, ?_, ?_⟩
      · intro f hf
        simp only [jp, if_true, List.mem_cons] at hf
        rcases hf with rfl | rfl | hf
        · exact ⟨.inr (.inr rfl), hb, trivial⟩
        · exact ha
        · exact hP f hf
      · simp only [jp, if_true, ms', Fm.sz]; omega
    · by_cases e2 : m = 5 ∨ m = 6
      · have hn2 : ¬ (m = 2 ∨ m = 3 ∨ m = 4) := by omega
        rw [if_neg hn2] at h2
        refine ⟨hW, by simp [jp, e, e2]; omega, ?_, ?_⟩
        · intro f hf
          simp only [jp, if_neg e, if_pos e2, List.mem_cons] at hf
          rcases hf with rfl | rfl | hf
          · exact ⟨e2, hb⟩
          · exact ha
          · exact hP f hf
        · simp only [jp, if_neg e, if_pos e2, ms', Fm.sz]; omega
      · have e3 : m = 2 ∨ m = 3 ∨ m = 4 := by
          unfold mk1 at hmk
          omega
        rw [if_pos e3] at h2
        refine ⟨hW, by simp [jp, e, e2]; omega, ?_, ?_⟩
        · intro f hf
          simp only [jp, if_neg e, if_neg e2, List.mem_cons] at hf
          rcases hf with rfl | hf
          · exact ⟨e3, ha, hb⟩
          · exact hP f hf
        · simp only [jp, if_neg e, if_neg e2, ms', Fm.sz]; omega
theorem jn_wp {n b : Nat} (hb : 1 ≤ b) : ∀ (W : List Int) (P : List Fm), WP 1 n W P → WP 1 n (jn b W P).1 (jn b W P).2 := by
  intro W
  induction W with
  | nil => intro P h; exact h
  | cons m W ih =>
    intro P h
    rw [jn]
    split
    · exact h
    · rename_i hlt
      exact ih _ (jp_wp h (fun e => hlt (by subst e; simp [bnd]; omega)))
theorem jn_stop (b : Nat) : ∀ (W : List Int) (P : List Fm), topLt b (jn b W P).1 := by
  intro W
  induction W with
  | nil => intro P; trivial
  | cons m W ih =>
    intro P
    rw [jn]
    split
    · rename_i h; exact h
    · exact ih _
/-- A state after n bytes. -/
def WF (n : Nat) (st : St) : Prop := st.ex ≤ 3 ∧ WP (if st.ex = 3 then 1 else 0) n st.W st.P
theorem wf0 : WF 0 st0 := ⟨by simp [st0], by simp [st0, WP, nb, ms']⟩
theorem wp_mark {n : Nat} {m : Int} {W : List Int} {P : List Fm} (d : Nat) (h : WP d n W P) (hm : mk1 m) (d' : Nat) (hd : d' + (if m = 2 ∨ m = 3 ∨ m = 4 then 1 else 0) = d) : WP d' (n + 1) (m :: W) P := by
  obtain ⟨h1, h2, h3, h4⟩ := h
  refine ⟨fun x hx => by rcases List.mem_cons.1 hx with rfl | hx; exact hm; exact h1 x hx, by rw [nb]; omega, h3, by simp only [List.length_cons]; omega⟩
theorem wp_part {n : Nat} {f : Fm} {W : List Int} {P : List Fm} (h : WP 0 n W P) (hf : f.ok) (hs : f.sz ≤ 3) : WP 1 (n + 1) W (f :: P) := by
  obtain ⟨h1, h2, h3, h4⟩ := h
  exact ⟨h1, by simp only [List.length_cons]; omega, fun x hx => by rcases List.mem_cons.1 hx with rfl | hx; exact hf; exact h3 x hx, by simp only [ms']; omega⟩
theorem stp_wf {n : Nat} {st st' : St} {c : UInt8} (h : WF n st) (hs : stp st c = some st') : WF (n + 1) st' := by
  obtain ⟨hx, hw⟩ := h
  unfold stp at hs
  by_cases e1 : st.ex = 1
  · rw [if_pos e1] at hs
    rw [e1] at hw
    split at hs
    · cases hs; exact ⟨by simp, wp_mark 0 hw (by simp [mk1]) 0 (by simp)⟩
    · cases hs
  rw [if_neg e1] at hs
  by_cases e2 : st.ex = 2
  · rw [if_pos e2] at hs
    rw [e2] at hw
    split at hs
    · cases hs; exact ⟨by simp, wp_mark 0 hw (by simp [mk1]) 0 (by simp)⟩
    · cases hs
  rw [if_neg e2] at hs
  by_cases e0 : st.ex = 0
  · rw [if_pos e0] at hs
    rw [e0] at hw
    simp only [Nat.reduceEqDiff, if_false] at hw
    repeat' split at hs
    all_goals first | (cases hs; done) | skip
    all_goals (injection hs with hs; subst hs)
    · exact ⟨by simp, wp_mark 0 hw (by simp [mk1]) 0 (by simp)⟩
    · exact ⟨by simp, wp_mark 0 hw (by simp [mk1]) 0 (by simp)⟩
    · exact ⟨by simp, by simpa using hw.more (Nat.le_succ n)⟩
    · exact ⟨by simp, by simpa using hw.more (Nat.le_succ n)⟩
    · exact ⟨by simp, wp_part hw trivial (by simp [Fm.sz])⟩
    · exact ⟨by simp, wp_part hw ⟨.inr (.inr rfl), trivial, trivial⟩ (by simp [Fm.sz])⟩
    · rename_i h7
      have h8 : 112 ≤ c.toNat := h7.1
      have h9 : c.toNat ≤ 117 := h7.2
      exact ⟨by simp, wp_part hw ⟨by omega, by omega⟩ (by simp [Fm.sz])⟩
  · have e3 : st.ex = 3 := by omega
    rw [if_neg e0] at hs
    rw [e3] at hw
    simp only [if_true] at hw
    repeat' split at hs
    all_goals first | (cases hs; done) | skip
    · injection hs with hs; subst hs
      exact ⟨by simp, wp_mark 1 (jn_wp (by omega) _ _ hw) (by simp [mk1]) 0 (by simp)⟩
    · injection hs with hs; subst hs
      exact ⟨by simp, wp_mark 1 (jn_wp (by omega) _ _ hw) (by simp [mk1]) 0 (by simp)⟩
    · injection hs with hs; subst hs
      exact ⟨by simp, wp_mark 1 (jn_wp (by omega) _ _ hw) (by simp [mk1]) 0 (by simp)⟩
    · have hj := jn_wp (b := 1) (by omega) _ _ hw
      have ht := jn_stop 1 st.W st.P
      generalize jn 1 st.W st.P = r at hs hj ht
      obtain ⟨W, P⟩ := r
      cases W with
      | nil => cases hs
      | cons m W =>
        injection hs with hs; subst hs
        obtain ⟨h1, h2, h3, h4⟩ := hj
        have hm := h1 m (List.mem_cons_self ..)
        have ht2 : bnd m < 1 := ht
        have e : m = -1 := by
          rcases hm with h | h | h | h | h | h | h
          · subst h; simp [bnd] at ht2
          · exact h
          all_goals subst h; simp [bnd] at ht2
        subst e
        exact ⟨by simp, (show WP 1 (n + 1) W P from ⟨fun x hx => h1 x (List.mem_cons_of_mem _ hx), by simpa [nb] using h2, h3, by simp only [List.length_cons] at h4; omega⟩)⟩

end Go.Proofs.Ytpccocmiadpgiaa
