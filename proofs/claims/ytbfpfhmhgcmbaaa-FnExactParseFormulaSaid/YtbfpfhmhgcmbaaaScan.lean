/- What a text is read as: the reader with a stack, run as a function; the grammar's reading tells its answer. No conditions but those in the theorems. -/
import Derived.Test.YtbfpfhmhgcmbaaaSx
namespace Go.Proofs.Ytbfpfhmhgcmbaaa

def scan : St → List UInt8 → St × List UInt8
  | st, [] => (st, [])
  | st, c :: s => match stp st c with
    | none => (st, c :: s)
    | some st' => scan st' s
theorem scan_run {a b : St} {s r : List UInt8} (h : Run a s b r) : scan a s = scan b r := by
  induction h with
  | refl => rfl
  | step st st' st'' c s r h1 _ ih => rw [scan, h1]; exact ih
theorem scan_stop {b : St} {c : UInt8} {r : List UInt8} (h : stp b c = none) : scan b (c :: r) = (b, c :: r) := by rw [scan, h]
def st0 : St := ⟨0, [], []⟩
/-- The formula that a text is read as, if it is one. -/
def readF (s : List UInt8) : Option Fm := match scan st0 s with | (st, []) => ends st | _ => none
/-- The place of the first bad byte, if there is one. -/
def badAt (s : List UInt8) : Nat := s.length - (scan st0 s).2.length
theorem readF_ok {s : List UInt8} {f : Fm} (h : Ps .imp s (.ok f [])) : readF s = some f := by
  obtain ⟨st, h1, h2⟩ := read_ok h
  unfold readF
  rw [show st0 = ⟨0, [], []⟩ from rfl, scan_run h1, scan]
  exact h2
theorem rej_bad {s e : List UInt8} (h : Rej ⟨0, [], []⟩ s e) : readF s = none ∧ badAt s = s.length - e.length := by
  obtain ⟨st', h1, h2⟩ := h
  unfold readF badAt
  rw [show st0 = ⟨0, [], []⟩ from rfl, scan_run h1]
  cases e with
  | nil => exact ⟨h2, rfl⟩
  | cons c r => rw [scan_stop h2]; exact ⟨rfl, rfl⟩
theorem readF_er {s : List UInt8} {k : Nat} (h : Ps .imp s (.er (s.drop k))) (hk : k ≤ s.length) : readF s = none ∧ badAt s = k := by
  obtain ⟨h1, h2⟩ := rej_bad (read_bad h)
  exact ⟨h1, by rw [h2, List.length_drop]; omega⟩
theorem readF_more {s : List UInt8} {k : Nat} {f : Fm} (h : Ps .imp s (.ok f (s.drop k))) (hk : k < s.length) : readF s = none ∧ badAt s = k := by
  rw [List.drop_eq_getElem_cons hk] at h
  obtain ⟨h1, h2⟩ := rej_bad (read_more h)
  exact ⟨h1, by rw [h2, ← List.drop_eq_getElem_cons hk, List.length_drop]; omega⟩

/-- What ParseFormula answers. -/
def pZ (s : List UInt8) : List Nd := if 200 < s.length then [] else match readF s with | some f => if 40 < f.sz then [] else f.enc | none => []
def pA (s : List UInt8) : Int := if 200 < s.length then 0 else match readF s with | some _ => 0 | none => (badAt s : Int)
def pC (s : List UInt8) : Int := if 200 < s.length then 3 else match readF s with | some f => if 40 < f.sz then 3 else 0 | none => 6
theorem p_long {s : List UInt8} (h : 200 < s.length) : pZ s = [] ∧ pA s = 0 ∧ pC s = 3 := by simp [pZ, pA, pC, h]
theorem p_bad {s : List UInt8} (h : ¬ 200 < s.length) (hr : readF s = none) : pZ s = [] ∧ pA s = badAt s ∧ pC s = 6 := by simp only [pZ, pA, pC, if_neg h, hr]; exact ⟨trivial, trivial, trivial⟩
theorem p_big {s : List UInt8} {f : Fm} (h : ¬ 200 < s.length) (hr : readF s = some f) (hb : 40 < f.sz) : pZ s = [] ∧ pA s = 0 ∧ pC s = 3 := by simp only [pZ, pA, pC, if_neg h, hr, if_pos hb]; exact ⟨trivial, trivial, trivial⟩
theorem p_ok {s : List UInt8} {f : Fm} (h : ¬ 200 < s.length) (hr : readF s = some f) (hb : ¬ 40 < f.sz) : pZ s = f.enc ∧ pA s = 0 ∧ pC s = 0 := by simp only [pZ, pA, pC, if_neg h, hr, if_neg hb]; exact ⟨trivial, trivial, trivial⟩
theorem pZ_len (s : List UInt8) : (pZ s).length ≤ 40 := by
  unfold pZ
  split
  · simp
  · split
    · split
      · simp
      · rw [Fm.enc_len]; omega
    · simp

end Go.Proofs.Ytbfpfhmhgcmbaaa
