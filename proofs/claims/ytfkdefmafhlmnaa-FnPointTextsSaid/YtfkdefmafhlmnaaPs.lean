/- Two readings of a text: the grammar read from the left with its first bad byte, and a reader with a stack of waiting marks; they agree. No conditions but those in the theorems. -/
import Derived.Test.YtfkdefmafhlmnaaFm
namespace Go.Proofs.Ytfkdefmafhlmnaa

/-- What reading a text gives: a formula and what is left, or where the first bad byte is. -/
inductive Res where
  | ok (f : Fm) (r : List UInt8)
  | er (r : List UInt8)
inductive Kn where
  | pre | and | or | imp
  | lAnd (a : Fm)
  | lOr (a : Fm)
def starts (s : List UInt8) : Prop := ∃ c r, s = c :: r ∧ ((112 ≤ c ∧ c ≤ 117) ∨ c = 70 ∨ c = 84 ∨ c = 126 ∨ c = 91 ∨ c = 60 ∨ c = 40)
/-- The grammar, read from the left, with the first bad byte. -/
inductive Ps : Kn → List UInt8 → Res → Prop where
  | va (c : UInt8) (r : List UInt8) : 112 ≤ c → c ≤ 117 → Ps .pre (c :: r) (.ok (.va ((c.toNat : Int) - 112)) r)
  | fa (r : List UInt8) : Ps .pre (70 :: r) (.ok .fa r)
  | tr (r : List UInt8) : Ps .pre (84 :: r) (.ok (.bi 4 .fa .fa) r)
  | no (r r' : List UInt8) (a : Fm) : Ps .pre r (.ok a r') → Ps .pre (126 :: r) (.ok (.bi 4 a .fa) r')
  | noE (r e : List UInt8) : Ps .pre r (.er e) → Ps .pre (126 :: r) (.er e)
  | bo (r r' : List UInt8) (a : Fm) : Ps .pre r (.ok a r') → Ps .pre (91 :: 93 :: r) (.ok (.un 5 a) r')
  | boE (r e : List UInt8) : Ps .pre r (.er e) → Ps .pre (91 :: 93 :: r) (.er e)
  | boB (r : List UInt8) : r.head? ≠ some 93 → Ps .pre (91 :: r) (.er r)
  | di (r r' : List UInt8) (a : Fm) : Ps .pre r (.ok a r') → Ps .pre (60 :: 62 :: r) (.ok (.un 6 a) r')
  | diE (r e : List UInt8) : Ps .pre r (.er e) → Ps .pre (60 :: 62 :: r) (.er e)
  | diB (r : List UInt8) : r.head? ≠ some 62 → Ps .pre (60 :: r) (.er r)
  | pa (r r' : List UInt8) (a : Fm) : Ps .imp r (.ok a (41 :: r')) → Ps .pre (40 :: r) (.ok a r')
  | paB (r r' : List UInt8) (a : Fm) : Ps .imp r (.ok a r') → r'.head? ≠ some 41 → Ps .pre (40 :: r) (.er r')
  | paE (r e : List UInt8) : Ps .imp r (.er e) → Ps .pre (40 :: r) (.er e)
  | bad (s : List UInt8) : ¬ starts s → Ps .pre s (.er s)
  | an (s r : List UInt8) (a : Fm) (q : Res) : Ps .pre s (.ok a r) → Ps (.lAnd a) r q → Ps .and s q
  | anE (s e : List UInt8) : Ps .pre s (.er e) → Ps .and s (.er e)
  | la (r r' : List UInt8) (a b : Fm) (q : Res) : Ps .pre r (.ok b r') → Ps (.lAnd (.bi 2 a b)) r' q → Ps (.lAnd a) (38 :: r) q
  | laE (r e : List UInt8) (a : Fm) : Ps .pre r (.er e) → Ps (.lAnd a) (38 :: r) (.er e)
  | laZ (s : List UInt8) (a : Fm) : s.head? ≠ some 38 → Ps (.lAnd a) s (.ok a s)
  | or (s r : List UInt8) (a : Fm) (q : Res) : Ps .and s (.ok a r) → Ps (.lOr a) r q → Ps .or s q
  | orE (s e : List UInt8) : Ps .and s (.er e) → Ps .or s (.er e)
  | lo (r r' : List UInt8) (a b : Fm) (q : Res) : Ps .and r (.ok b r') → Ps (.lOr (.bi 3 a b)) r' q → Ps (.lOr a) (124 :: r) q
  | loE (r e : List UInt8) (a : Fm) : Ps .and r (.er e) → Ps (.lOr a) (124 :: r) (.er e)
  | loZ (s : List UInt8) (a : Fm) : s.head? ≠ some 124 → Ps (.lOr a) s (.ok a s)
  | im (s r r' : List UInt8) (a b : Fm) : Ps .or s (.ok a (62 :: r)) → Ps .imp r (.ok b r') → Ps .imp s (.ok (.bi 4 a b) r')
  | imB (s r e : List UInt8) (a : Fm) : Ps .or s (.ok a (62 :: r)) → Ps .imp r (.er e) → Ps .imp s (.er e)
  | imZ (s r : List UInt8) (a : Fm) : Ps .or s (.ok a r) → r.head? ≠ some 62 → Ps .imp s (.ok a r)
  | imE (s e : List UInt8) : Ps .or s (.er e) → Ps .imp s (.er e)

/-- The state of a reader with a stack: what is expected, the waiting marks and the parts, the last ones first. -/
structure St where
  ex : Nat
  W : List Int
  P : List Fm
def bnd (m : Int) : Nat := if m = -1 then 0 else if m = 4 then 1 else if m = 3 then 2 else if m = 2 then 3 else if m = 5 ∨ m = 6 ∨ m = -2 then 4 else 5
def jp (m : Int) : List Fm → List Fm
  | [] => []
  | [a] => if m = -2 then [.bi 4 a .fa] else if m = 5 ∨ m = 6 then [.un m a] else [a]
  | b :: a :: P => if m = -2 then .bi 4 b .fa :: a :: P else if m = 5 ∨ m = 6 then .un m b :: a :: P else .bi m a b :: P
def jn (b : Nat) : List Int → List Fm → List Int × List Fm
  | [], P => ([], P)
  | m :: W, P => if bnd m < b then (m :: W, P) else jn b W (jp m P)
def closed : List Int × List Fm → Option St
  | ([], _) => none
  | (_ :: W, P) => some ⟨3, W, P⟩
def stp (st : St) (c : UInt8) : Option St :=
  if st.ex = 1 then (if c = 93 then some ⟨0, 5 :: st.W, st.P⟩ else none)
  else if st.ex = 2 then (if c = 62 then some ⟨0, 6 :: st.W, st.P⟩ else none)
  else if st.ex = 0 then
    (if c = 126 then some ⟨0, -2 :: st.W, st.P⟩
    else if c = 40 then some ⟨0, -1 :: st.W, st.P⟩
    else if c = 91 then some ⟨1, st.W, st.P⟩
    else if c = 60 then some ⟨2, st.W, st.P⟩
    else if c = 70 then some ⟨3, st.W, .fa :: st.P⟩
    else if c = 84 then some ⟨3, st.W, .bi 4 .fa .fa :: st.P⟩
    else if 112 ≤ c ∧ c ≤ 117 then some ⟨3, st.W, .va ((c.toNat : Int) - 112) :: st.P⟩
    else none)
  else
    (if c = 38 then some ⟨0, 2 :: (jn 3 st.W st.P).1, (jn 3 st.W st.P).2⟩
    else if c = 124 then some ⟨0, 3 :: (jn 2 st.W st.P).1, (jn 2 st.W st.P).2⟩
    else if c = 62 then some ⟨0, 4 :: (jn 2 st.W st.P).1, (jn 2 st.W st.P).2⟩
    else if c = 41 then closed (jn 1 st.W st.P)
    else none)
def last : List Fm → Option Fm
  | [] => none
  | [a] => some a
  | _ :: P => last P
def ends (st : St) : Option Fm := if st.ex = 3 then (match jn 1 st.W st.P with | ([], P) => last P | _ => none) else none
inductive Run : St → List UInt8 → St → List UInt8 → Prop where
  | refl (st : St) (s : List UInt8) : Run st s st s
  | step (st st' st'' : St) (c : UInt8) (s r : List UInt8) : stp st c = some st' → Run st' s st'' r → Run st (c :: s) st'' r
theorem Run.trans {a b c : St} {s r t : List UInt8} (h : Run a s b r) (k : Run b r c t) : Run a s c t := by
  induction h with
  | refl => exact k
  | step st st' st'' c s r h1 _ ih => exact .step _ _ _ _ _ _ h1 (ih k)
theorem Run.one {a b : St} {c : UInt8} {s : List UInt8} (h : stp a c = some b) : Run a (c :: s) b s := .step _ _ _ _ _ _ h (.refl _ _)
def Rej (st : St) (s e : List UInt8) : Prop := ∃ st', Run st s st' e ∧ (match e with | [] => ends st' = none | c :: _ => stp st' c = none)
theorem Run.rej {a b : St} {s r e : List UInt8} (h : Run a s b r) (k : Rej b r e) : Rej a s e := by
  obtain ⟨st', h1, h2⟩ := k
  exact ⟨st', h.trans h1, h2⟩
def topLt (b : Nat) : List Int → Prop
  | [] => True
  | m :: _ => bnd m < b
theorem jn_top {b : Nat} {W : List Int} {P : List Fm} (h : topLt b W) : jn b W P = (W, P) := by
  cases W with
  | nil => rfl
  | cons m W => rw [jn]; exact if_pos h
theorem jn_push {b : Nat} {m : Int} {W : List Int} {P : List Fm} (h : b ≤ bnd m) : jn b (m :: W) P = jn b W (jp m P) := by rw [jn, if_neg (by omega)]
theorem topLt.mono {b c : Nat} {W : List Int} (h : topLt b W) (hb : b ≤ c) : topLt c W := by
  cases W with
  | nil => trivial
  | cons m W => exact Nat.lt_of_lt_of_le h hb
/-- What stands behind a part that has been read. -/
def stops (n : Nat) (r : List UInt8) : Prop := (n ≤ 3 → r.head? ≠ some 38) ∧ (n ≤ 2 → r.head? ≠ some 124) ∧ (n ≤ 1 → r.head? ≠ some 62)
def Good (n : Nat) (a : St) (s : List UInt8) (W : List Int) (P : List Fm) : Res → Prop
  | .ok f r => (∃ W' P', Run a s ⟨3, W', P'⟩ r ∧ ∀ b, b ≤ n → jn b W' P' = jn b W (f :: P)) ∧ stops n r
  | .er e => Rej a s e
theorem Good.before {n : Nat} {a b : St} {s r : List UInt8} {W : List Int} {P : List Fm} {q : Res} (h : Run a s b r) (k : Good n b r W P q) : Good n a s W P q := by
  cases q with
  | ok f t => obtain ⟨⟨W', P', h1, h2⟩, h3⟩ := k; exact ⟨⟨W', P', h.trans h1, h2⟩, h3⟩
  | er e => exact h.rej k
def Mot : Kn → List UInt8 → Res → Prop
  | .pre, s, q => ∀ W P, Good 4 ⟨0, W, P⟩ s W P q
  | .and, s, q => ∀ W P, topLt 3 W → Good 3 ⟨0, W, P⟩ s W P q
  | .or, s, q => ∀ W P, topLt 2 W → Good 2 ⟨0, W, P⟩ s W P q
  | .imp, s, q => ∀ W P, topLt 2 W → Good 1 ⟨0, W, P⟩ s W P q
  | .lAnd a, s, q => ∀ W P W1 P1, topLt 3 W → (∀ b, b ≤ 3 → jn b W1 P1 = jn b W (a :: P)) → Good 3 ⟨3, W1, P1⟩ s W P q
  | .lOr a, s, q => ∀ W P W1 P1, topLt 2 W → (∀ b, b ≤ 2 → jn b W1 P1 = jn b W (a :: P)) → stops 3 s → Good 2 ⟨3, W1, P1⟩ s W P q
theorem stops4 (r : List UInt8) : stops 4 r := ⟨by omega, by omega, by omega⟩
theorem rej_here {st : St} {s : List UInt8} (h : match s with | [] => ends st = none | c :: _ => stp st c = none) : Rej st s s := ⟨st, .refl _ _, h⟩
theorem mot {k : Kn} {s : List UInt8} {q : Res} (h : Ps k s q) : Mot k s q := by
  induction h with
  | va c r h1 h2 =>
    intro W P
    refine ⟨⟨W, .va _ :: P, Run.one ?_, fun b _ => rfl⟩, stops4 _⟩
    have e : ∀ d : UInt8, (d < 112 ∨ 117 < d) → c ≠ d := by
      intro d hd e; subst e
      rcases hd with hd | hd
      · exact absurd h1 (by simpa using hd)
      · exact absurd h2 (by simpa using hd)
    simp [stp, e 126 (by decide), e 40 (by decide), e 91 (by decide), e 60 (by decide), e 70 (by decide), e 84 (by decide), h1, h2]
  | fa r => intro W P; exact ⟨⟨W, .fa :: P, Run.one (by simp [stp]), fun b _ => rfl⟩, stops4 _⟩
  | tr r => intro W P; exact ⟨⟨W, .bi 4 .fa .fa :: P, Run.one (by simp [stp]), fun b _ => rfl⟩, stops4 _⟩
  | no r r' a _ ih =>
    intro W P
    obtain ⟨⟨W', P', h1, h2⟩, h3⟩ := ih (-2 :: W) P
    refine ⟨⟨W', P', (Run.one (by simp [stp])).trans h1, fun b hb => ?_⟩, stops4 _⟩
    rw [h2 b hb, jn_push (by simp [bnd]; omega)]
    cases P <;> simp [jp]
  | noE r e _ ih => intro W P; exact (Run.one (by simp [stp])).rej (ih (-2 :: W) P)
  | bo r r' a _ ih =>
    intro W P
    obtain ⟨⟨W', P', h1, h2⟩, h3⟩ := ih (5 :: W) P
    refine ⟨⟨W', P', (Run.one (b := ⟨1, W, P⟩) (by simp [stp])).trans ((Run.one (by simp [stp])).trans h1), fun b hb => ?_⟩, stops4 _⟩
    rw [h2 b hb, jn_push (by simp [bnd]; omega)]
    cases P <;> simp [jp]
  | boE r e _ ih => intro W P; exact (Run.one (b := ⟨1, W, P⟩) (by simp [stp])).rej ((Run.one (by simp [stp])).rej (ih (5 :: W) P))
  | boB r hr =>
    intro W P
    refine (Run.one (b := ⟨1, W, P⟩) (by simp [stp])).rej (rej_here ?_)
    cases r with
    | nil => simp [ends]
    | cons c r => have : c ≠ 93 := by simpa using hr
                  simp [stp, this]
  | di r r' a _ ih =>
    intro W P
    obtain ⟨⟨W', P', h1, h2⟩, h3⟩ := ih (6 :: W) P
    refine ⟨⟨W', P', (Run.one (b := ⟨2, W, P⟩) (by simp [stp])).trans ((Run.one (by simp [stp])).trans h1), fun b hb => ?_⟩, stops4 _⟩
    rw [h2 b hb, jn_push (by simp [bnd]; omega)]
    cases P <;> simp [jp]
  | diE r e _ ih => intro W P; exact (Run.one (b := ⟨2, W, P⟩) (by simp [stp])).rej ((Run.one (by simp [stp])).rej (ih (6 :: W) P))
  | diB r hr =>
    intro W P
    refine (Run.one (b := ⟨2, W, P⟩) (by simp [stp])).rej (rej_here ?_)
    cases r with
    | nil => simp [ends]
    | cons c r => have : c ≠ 62 := by simpa using hr
                  simp [stp, this]
  | pa r r' a _ ih =>
    intro W P
    obtain ⟨⟨W', P', h1, h2⟩, h3⟩ := ih (-1 :: W) P (by simp [topLt, bnd])
    refine ⟨⟨W, a :: P, (Run.one (b := ⟨0, -1 :: W, P⟩) (by simp [stp])).trans (h1.trans (Run.one ?_)), fun b _ => rfl⟩, stops4 _⟩
    have := h2 1 (Nat.le_refl _)
    rw [jn_top (W := -1 :: W) (by simp [topLt, bnd])] at this
    simp [stp, this, closed]
  | paB r r' a _ hr ih =>
    intro W P
    obtain ⟨⟨W', P', h1, h2⟩, h3⟩ := ih (-1 :: W) P (by simp [topLt, bnd])
    refine (Run.one (b := ⟨0, -1 :: W, P⟩) (by simp [stp])).rej (h1.rej (rej_here ?_))
    have := h2 1 (Nat.le_refl _)
    rw [jn_top (W := -1 :: W) (by simp [topLt, bnd])] at this
    cases r' with
    | nil => simp [ends, this]
    | cons c r' =>
      obtain ⟨g1, g2, g3⟩ := h3
      simp at hr g1 g2 g3
      simp [stp, hr, g1, g2, g3]
  | paE r e _ ih => intro W P; exact (Run.one (b := ⟨0, -1 :: W, P⟩) (by simp [stp])).rej (ih (-1 :: W) P (by simp [topLt, bnd]))
  | bad s hs =>
    intro W P
    refine rej_here ?_
    cases s with
    | nil => simp [ends]
    | cons c r =>
      have : ¬ ((112 ≤ c ∧ c ≤ 117) ∨ c = 70 ∨ c = 84 ∨ c = 126 ∨ c = 91 ∨ c = 60 ∨ c = 40) := fun h => hs ⟨c, r, rfl, h⟩
      simp only [not_or] at this
      simp [stp, this]
  | an s r a q _ _ ih1 ih2 =>
    intro W P hW
    obtain ⟨⟨W', P', h1, h2⟩, -⟩ := ih1 W P
    exact (ih2 W P W' P' hW fun b hb => h2 b (by omega)).before h1
  | anE s e _ ih => intro W P hW; exact ih W P
  | la r r' a b q _ _ ih1 ih2 =>
    intro W P W1 P1 hW h
    have h0 := h 3 (Nat.le_refl _)
    rw [jn_top hW] at h0
    obtain ⟨⟨W', P', h1, h2⟩, -⟩ := ih1 (2 :: W) (a :: P)
    refine (ih2 W P W' P' hW fun c hc => ?_).before ((Run.one (b := ⟨0, 2 :: W, a :: P⟩) (by simp [stp, h0])).trans h1)
    rw [h2 c (by omega), jn_push (by simp [bnd]; omega)]
    simp [jp]
  | laE r e a _ ih =>
    intro W P W1 P1 hW h
    have h0 := h 3 (Nat.le_refl _)
    rw [jn_top hW] at h0
    exact (Run.one (b := ⟨0, 2 :: W, a :: P⟩) (by simp [stp, h0])).rej (ih (2 :: W) (a :: P))
  | laZ s a hs =>
    intro W P W1 P1 hW h
    exact ⟨⟨W1, P1, .refl _ _, h⟩, ⟨fun _ => hs, by omega, by omega⟩⟩
  | or s r a q _ _ ih1 ih2 =>
    intro W P hW
    obtain ⟨⟨W', P', h1, h2⟩, h3⟩ := ih1 W P (hW.mono (by omega))
    exact (ih2 W P W' P' hW (fun b hb => h2 b (by omega)) h3).before h1
  | orE s e _ ih => intro W P hW; exact ih W P (hW.mono (by omega))
  | lo r r' a b q _ _ ih1 ih2 =>
    intro W P W1 P1 hW h _
    have h0 := h 2 (Nat.le_refl _)
    rw [jn_top hW] at h0
    obtain ⟨⟨W', P', h1, h2⟩, h3⟩ := ih1 (3 :: W) (a :: P) (by simp [topLt, bnd])
    refine (ih2 W P W' P' hW (fun c hc => ?_) h3).before ((Run.one (b := ⟨0, 3 :: W, a :: P⟩) (by simp [stp, h0])).trans h1)
    rw [h2 c (by omega), jn_push (by simp [bnd]; omega)]
    simp [jp]
  | loE r e a _ ih =>
    intro W P W1 P1 hW h _
    have h0 := h 2 (Nat.le_refl _)
    rw [jn_top hW] at h0
    exact (Run.one (b := ⟨0, 3 :: W, a :: P⟩) (by simp [stp, h0])).rej (ih (3 :: W) (a :: P) (by simp [topLt, bnd]))
  | loZ s a hs =>
    intro W P W1 P1 hW h h3
    exact ⟨⟨W1, P1, .refl _ _, h⟩, ⟨fun _ => h3.1 (by omega), fun _ => hs, by omega⟩⟩
  | im s r r' a b _ _ ih1 ih2 =>
    intro W P hW
    obtain ⟨⟨W', P', h1, h2⟩, h3⟩ := ih1 W P hW
    have h0 := h2 2 (Nat.le_refl _)
    rw [jn_top hW] at h0
    obtain ⟨⟨W2, P2, h4, h5⟩, h6⟩ := ih2 (4 :: W) (a :: P) (by simp [topLt, bnd])
    refine ⟨⟨W2, P2, h1.trans ((Run.one (b := ⟨0, 4 :: W, a :: P⟩) (by simp [stp, h0])).trans h4), fun c hc => ?_⟩, h6⟩
    rw [h5 c (by omega), jn_push (by simp [bnd]; omega)]
    simp [jp]
  | imB s r e a _ _ ih1 ih2 =>
    intro W P hW
    obtain ⟨⟨W', P', h1, h2⟩, h3⟩ := ih1 W P hW
    have h0 := h2 2 (Nat.le_refl _)
    rw [jn_top hW] at h0
    exact h1.rej ((Run.one (b := ⟨0, 4 :: W, a :: P⟩) (by simp [stp, h0])).rej (ih2 (4 :: W) (a :: P) (by simp [topLt, bnd])))
  | imZ s r a _ hr ih =>
    intro W P hW
    obtain ⟨⟨W', P', h1, h2⟩, h3⟩ := ih W P hW
    exact ⟨⟨W', P', h1, fun b hb => h2 b (by omega)⟩, ⟨fun _ => h3.1 (by omega), fun _ => h3.2.1 (by omega), fun _ => hr⟩⟩
  | imE s e _ ih => intro W P hW; exact ih W P hW

/-- Both readings agree: a text that is read to its end. -/
theorem read_ok {s : List UInt8} {f : Fm} (h : Ps .imp s (.ok f [])) : ∃ st, Run ⟨0, [], []⟩ s st [] ∧ ends st = some f := by
  obtain ⟨⟨W, P, h1, h2⟩, -⟩ := mot h [] [] trivial
  refine ⟨_, h1, ?_⟩
  have := h2 1 (Nat.le_refl _)
  simp [ends, this, jn, last]
/-- And one that is not. -/
theorem read_more {s r : List UInt8} {c : UInt8} {f : Fm} (h : Ps .imp s (.ok f (c :: r))) : Rej ⟨0, [], []⟩ s (c :: r) := by
  obtain ⟨⟨W, P, h1, h2⟩, g1, g2, g3⟩ := mot h [] [] trivial
  refine ⟨_, h1, ?_⟩
  have := h2 1 (Nat.le_refl _)
  simp at g1 g2 g3
  simp [stp, this, g1, g2, g3, jn, closed]
theorem read_bad {s e : List UInt8} (h : Ps .imp s (.er e)) : Rej ⟨0, [], []⟩ s e := mot h [] [] trivial

end Go.Proofs.Ytfkdefmafhlmnaa
