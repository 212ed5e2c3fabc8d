/- Depths of worlds: how they are told, and the program's contract. Conditions: those in the theorems. -/
import Derived.Test.YtckilaeolkgnkaaRts
namespace Go.Proofs.Ytckilaeolkgnkaa
open Go.RowKit

/-- v is reached from w, and not the other way round. -/
def up (xs : List Int) (w v : Nat) : Bool := T (nth (rcL xs) w) v && !T (nth (rcL xs) v) w
def mxF (g : Nat → Int) (p : Nat → Bool) : Nat → Int
  | 0 => 0
  | k + 1 => if p k then max (mxF g p k) (g k) else mxF g p k
def dpV (xs : List Int) : Nat → Nat → Int
  | 0, _ => 0
  | f + 1, w => mxF (dpV xs f) (up xs w) xs.length + 1
def cnt (p : Nat → Bool) : Nat → Nat
  | 0 => 0
  | k + 1 => cnt p k + if p k then 1 else 0
theorem cnt_le (p : Nat → Bool) (n : Nat) : cnt p n ≤ n := by
  induction n with
  | zero => exact Nat.le_refl _
  | succ n ih => simp only [cnt]; split <;> omega
theorem cnt_mono {p q : Nat → Bool} {n : Nat} (h : ∀ k, k < n → p k = true → q k = true) : cnt p n ≤ cnt q n := by
  induction n with
  | zero => exact Nat.le_refl _
  | succ n ih =>
    have := ih fun k hk => h k (by omega)
    have hn := h n (by omega)
    simp only [cnt]
    cases hp : p n
    · simp; omega
    · rw [hn hp]; simp; omega
theorem cnt_lt {p q : Nat → Bool} {n : Nat} (h : ∀ k, k < n → p k = true → q k = true) {j : Nat} (hj : j < n) (hq : q j = true) (hp : p j = false) : cnt p n < cnt q n := by
  induction n with
  | zero => omega
  | succ n ih =>
    have hm := cnt_mono (n := n) fun k hk => h k (by omega)
    have hn := h n (by omega)
    simp only [cnt]
    by_cases e : j = n
    · subst e; rw [hq, hp]; simp; omega
    · have := ih (fun k hk => h k (by omega)) (by omega)
      cases hp2 : p n
      · simp; omega
      · rw [hn hp2]; simp; omega
def rk (xs : List Int) (w : Nat) : Nat := cnt (up xs w) xs.length
theorem up_iff {xs : List Int} (hn : xs.length ≤ 30) (hr : Rel xs.length (nth xs)) {w v : Nat} (hw : w < xs.length) (hv : v < xs.length) : up xs w v = true ↔ Rch xs w v ∧ ¬ Rch xs v w := by
  obtain ⟨-, c2⟩ := rc_T hn hr
  unfold up
  rw [Bool.and_eq_true, c2 w v hw, ← c2 v w hv]
  simp
theorem rk_lt {xs : List Int} (hn : xs.length ≤ 30) (hr : Rel xs.length (nth xs)) {w v : Nat} (hw : w < xs.length) (hv : v < xs.length) (h : up xs w v = true) : rk xs v < rk xs w := by
  obtain ⟨h1, h2⟩ := (up_iff hn hr hw hv).1 h
  refine cnt_lt (j := v) (fun u hu hvu => ?_) hv h ?_
  · obtain ⟨h3, h4⟩ := (up_iff hn hr hv hu).1 hvu
    exact (up_iff hn hr hw hu).2 ⟨Rch_trans hv h1 h3, fun h5 => h4 (Rch_trans hw h5 h1)⟩
  · cases h5 : up xs v v
    · rfl
    · obtain ⟨h6, h7⟩ := (up_iff hn hr hv hv).1 h5
      exact absurd h6 h7
theorem mxF_congr {g g' : Nat → Int} {p : Nat → Bool} {n : Nat} (h : ∀ k, k < n → p k = true → g k = g' k) : mxF g p n = mxF g' p n := by
  induction n with
  | zero => rfl
  | succ n ih =>
    rw [mxF, mxF, ih fun k hk => h k (by omega)]
    cases hp : p n
    · rfl
    · rw [if_pos rfl, if_pos rfl, h n (by omega) hp]
theorem dpV_fuel {xs : List Int} (hn : xs.length ≤ 30) (hr : Rel xs.length (nth xs)) : ∀ (f f' w : Nat), w < xs.length → rk xs w < f → rk xs w < f' → dpV xs f w = dpV xs f' w := by
  intro f
  induction f with
  | zero => intro f' w _ h; omega
  | succ f ih =>
    intro f' w hw h1 h2
    cases f' with
    | zero => omega
    | succ f' =>
      rw [dpV, dpV, mxF_congr fun v hv hup => ?_]
      have := rk_lt hn hr hw hv hup
      exact ih f' v hv (by omega) (by omega)
def dp (xs : List Int) (w : Nat) : Int := dpV xs (xs.length + 1) w
theorem dp_eq {xs : List Int} (hn : xs.length ≤ 30) (hr : Rel xs.length (nth xs)) {w : Nat} (hw : w < xs.length) : dp xs w = mxF (dp xs) (up xs w) xs.length + 1 := by
  unfold dp
  rw [dpV, mxF_congr fun v hv hup => ?_]
  have h1 := rk_lt hn hr hw hv hup
  have h2 : rk xs w ≤ xs.length := cnt_le _ _
  exact dpV_fuel hn hr _ _ v hv (by omega) (by omega)
theorem mxF_bd {g : Nat → Int} {p : Nat → Bool} {b : Int} (hb : 0 ≤ b) (h : ∀ k, 0 ≤ g k ∧ g k ≤ b) (n : Nat) : 0 ≤ mxF g p n ∧ mxF g p n ≤ b := by
  induction n with
  | zero => exact ⟨Int.le_refl _, hb⟩
  | succ n ih =>
    have := h n
    rw [mxF]; split <;> omega
theorem dpV_bd (xs : List Int) (f : Nat) : ∀ w, 0 ≤ dpV xs f w ∧ dpV xs f w ≤ f := by
  induction f with
  | zero => intro w; exact ⟨Int.le_refl _, Int.le_refl _⟩
  | succ f ih =>
    intro w
    have := mxF_bd (p := up xs w) (by omega) ih xs.length
    rw [dpV]
    omega
theorem dp_bd {xs : List Int} (h8 : xs.length ≤ 8) (w : Nat) : 0 ≤ dp xs w ∧ dp xs w ≤ 9 := by
  have := dpV_bd xs (xs.length + 1) w
  unfold dp
  omega
theorem mx_bd {xs : List Int} (h8 : xs.length ≤ 8) (p : Nat → Bool) (k : Nat) : 0 ≤ mxF (dp xs) p k ∧ mxF (dp xs) p k ≤ 9 := mxF_bd (by decide) (dp_bd h8) k

set_option maxHeartbeats 1000000 in
theorem depthIn_any (xs : List Int) (a : Option Addr) (cap : Nat) (w : World) (h8 : xs.length ≤ 8) (hr : Rel xs.length (nth xs)) (h : At w a xs.length (rcL xs)) : ∀ (r u : Nat), u < xs.length → rk xs u < r →
    Calls Try.prog 43 #[.slice a xs.length cap, .int .i64 u] w fun e w' => e = .returned (.int .i64 (dp xs u)) ∧ w = w' := by
  have h30 : xs.length ≤ 30 := by omega
  have H := Lib.hid h
  have HR := Lib.hid hr
  clear h hr
  intro r
  induction r with
  | zero => intro u _ h; omega
  | succ r ih =>
    intro u hu hr
    have IH := Lib.hid ih
    have DE := Lib.hid (dp_eq h30 HR.out hu)
    have RK := Lib.hid hr
    clear ih hr
    go_enter Try.func43, Try.ntmps43
    go_wp2
    go_loop [5, 9] (fun s i => ∃ k : Nat, k ≤ xs.length ∧ i = .int .i64 k ∧ s = .int .i64 (mxF (dp xs) (up xs u) k)) (fun _ i => xs.length - (intOf i).toNat)
    case atStart => exact ⟨0, Nat.zero_le _, rfl, rfl⟩
    case round =>
      obtain ⟨k, hk, rfl, rfl⟩ := hrel
      have hmb := mx_bd h8 (up xs u) k
      by_cases hlt : k < xs.length
      · obtain ⟨b, off, rfl, -, hc⟩ := H.out.2.resolve_left (by omega)
        have hcu := hc u hu
        have hck := hc k hlt
        obtain ⟨r1, -⟩ := rc_T h30 HR.out
        have b1 := bitB_T ((r1 u).bd h30) k
        have b2 := bitB_T ((r1 k).bd h30) u
        have B1 := Lib.hid b1
        have B2 := Lib.hid b2
        clear hc r1 b1 b2
        cases h1 : bitB (nth (rcL xs) u) k
        · have UP := Lib.hid (show up xs u k = false by unfold up; rw [← B1.out, h1]; rfl)
          go_wp2_with (go_at_call 78; refine (hasMember_any _ _ _ (by omega) (by omega)).mono ?_; rintro e w' ⟨rfl, rfl⟩)
          go_round
          case rel => exact ⟨k + 1, hlt, by go_num, by simp [mxF, UP.out]⟩
          case measure => simp [intOf]; omega
        · cases h2 : bitB (nth (rcL xs) k) u
          · have UP := Lib.hid (show up xs u k = true by unfold up; rw [← B1.out, ← B2.out, h1, h2]; rfl)
            have KK := Lib.hid (IH.out k hlt (by have := rk_lt h30 HR.out hu hlt UP.out; have := RK.out; omega))
            have hdb := dp_bd h8 k
            go_wp2_with (first | (go_at_call 78; refine (hasMember_any _ _ _ (by omega) (by omega)).mono ?_; rintro e w' ⟨rfl, rfl⟩) | (go_at_call 43; refine KK.out.mono ?_; rintro e w' ⟨rfl, rfl⟩))
            all_goals
              go_round
              case rel => exact ⟨k + 1, hlt, by go_num, by simp only [mxF, UP.out, if_pos]; congr 1; omega⟩
              case measure => simp [intOf]; omega
          · have UP := Lib.hid (show up xs u k = false by unfold up; rw [← B1.out, ← B2.out, h1, h2]; rfl)
            go_wp2_with (go_at_call 78; refine (hasMember_any _ _ _ (by omega) (by omega)).mono ?_; rintro e w' ⟨rfl, rfl⟩)
            go_round
            case rel => exact ⟨k + 1, hlt, by go_num, by simp [mxF, UP.out]⟩
            case measure => simp [intOf]; omega
      · obtain rfl : k = xs.length := by omega
        go_wp2
        go_ret
        exact ⟨ret_int DE.out.symm, rfl⟩

end Go.Proofs.Ytckilaeolkgnkaa
