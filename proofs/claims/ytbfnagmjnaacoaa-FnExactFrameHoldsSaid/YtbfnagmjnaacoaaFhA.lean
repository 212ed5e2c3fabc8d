/- Whether a value occurs in a point formula: both sides. Conditions: those in the theorems. -/
import Derived.Test.YtbfnagmjnaacoaaHpX
import Derived.Test.YtbfnagmjnaacoaaFrV
import Derived.Test.YtbfnagmjnaacoaaFre
namespace Go.Proofs.Ytbfnagmjnaacoaa
open Go.RowKit

/-- No node is a value. -/
def nvB (xs : List Pd) : Bool := alB (fun j => !(kp xs j == 2)) xs.length
theorem nov_enc (f : Pt) (h : ∀ p ∈ f.enc, p.1 ≠ 2) : nov f := by
  induction f with
  | le k x y => exact h (k, x, y) (by simp [Pt.enc])
  | bi k a b iha ihb => exact ⟨iha fun p hp => h p (by simp [Pt.enc, hp]), ihb fun p hp => h p (by simp [Pt.enc, hp])⟩
  | un k x a ih => exact ih fun p hp => h p (by simp [Pt.enc, hp])
theorem nov_of {xs : List Pd} {f : Pt} (h : nvB xs = true) (hx : xs = f.enc) : nov f := by
  refine nov_enc f fun p hp => ?_
  rw [← hx] at hp
  obtain ⟨j, hj, rfl⟩ := List.mem_iff_getElem.1 hp
  have h1 := (alB_iff _).1 h j hj
  intro h2
  have h3 : kp xs j = 2 := by
    rw [kp, List.getD_eq_getElem?_getD, List.getElem?_eq_getElem hj]
    exact h2
  rw [h3] at h1
  exact absurd h1 (by decide)
theorem or_zero {x y : Int} (hx : InMk 10 x) (hy : InMk 10 y) (h : bits .or .i64 x y = 0) : x = 0 ∧ y = 0 := by
  have e : ∀ i, T x i = false ∧ T y i = false := fun i => by
    have h2 := T_or (by decide) hx hy i
    rw [h, T_zero] at h2
    simpa using h2
  exact ⟨T_ext hx (InMk.zero 10) fun i => by rw [(e i).1, T_zero], T_ext hy (InMk.zero 10) fun i => by rw [(e i).2, T_zero]⟩
theorem one_nz {x : Int} (h0 : 0 ≤ x) (h1 : x ≤ 9) : one x ≠ 0 := by
  obtain ⟨k, rfl⟩ := Int.eq_ofNat_of_zero_le h0
  intro h
  have h2 := T_one (k := k) (by omega) k
  rw [h, T_zero] at h2
  simp at h2
theorem vok_zero {m : Nat} (f : Pt) (hf : f.ok) (h : f.fre = 0) : vok 0 m f := by
  induction f with
  | le k x y =>
    rcases hf with ⟨h1, h2, h3, h4, h5⟩ | ⟨rfl, h2, h3, h4, h5⟩ | ⟨rfl, rfl, rfl⟩
    · exfalso
      rw [Pt.fre, if_pos h1] at h
      exact one_nz h4 h5 (or_zero (one_mk h2 h3) (one_mk h4 h5) h).2
    · exfalso
      rw [Pt.fre, if_neg (by omega), if_pos rfl] at h
      exact one_nz h4 h5 h
    · exact ⟨fun h => absurd h (by decide), fun _ => rfl⟩
  | bi k a b iha ihb =>
    obtain ⟨ha, hb⟩ := or_zero (fre_mk a hf.2.1) (fre_mk b hf.2.2) h
    exact ⟨iha hf.2.1 ha, ihb hf.2.2 hb⟩
  | un k x a ih => exact fun h0 => absurd rfl h0

set_option maxHeartbeats 1000000 in
theorem isv_any (k f s : Int) (w : World) : Calls Try.prog 60 #[.agg #[.int .i64 k, .int .i64 f, .int .i64 s]] w fun e w' => e = .returned (.bool (k == 2)) ∧ Below w.heap.size w w' := by
  have HB := Lib.hid ((Below.refl w.heap.size w).alloc (Nat.le_refl _) (.cells #[.int .i64 k, .int .i64 f, .int .i64 s] 76))
  by_cases hk : k = 2
  · subst hk
    go_enter Try.func60, Try.ntmps60
    go_wp2
    go_ret
    exact ⟨rfl, HB.out⟩
  · have e : (k == 2) = false := by simpa using hk
    rw [e]
    clear e
    go_enter Try.func60, Try.ntmps60
    go_wp2
    go_ret
    exact ⟨ret_bool (by simp [hk]), HB.out⟩

set_option maxHeartbeats 1000000 in
theorem idxV_any (xs : List Pd) (a : Option Addr) (cap : Nat) (w : World) (hn : xs.length ≤ 1048576) (hat : AtP w a xs.length xs) :
    Calls Try.prog 116 #[.slice a xs.length cap, .func (.func 60) #[] #[]] w fun e w' => e = .returned (.int .i64 (frV (fun j => !(kp xs j == 2)) xs.length)) ∧ Below w.heap.size w w' := by
  have H := Lib.hid hat
  obtain ⟨n, hnn⟩ : ∃ n, n = xs.length := ⟨_, rfl⟩
  obtain ⟨g, hg⟩ : ∃ g : Nat → Bool, g = fun j => !(kp xs j == 2) := ⟨_, rfl⟩
  have HG := Lib.hid hg
  clear hat
  rw [← hg]
  rw [← hnn] at H hn ⊢
  clear hnn hg
  go_enter Try.func116, Try.ntmps116
  go_wp2
  go_loopw [8] (fun i wr => ∃ k : Nat, k ≤ n ∧ i = .int .i64 k ∧ Hid (Below w.heap.size w wr) ∧ Hid (∀ j, j < k → g j = true)) (fun i _ => n - (intOf i).toNat)
  case atStart => exact ⟨0, Nat.zero_le _, rfl, Lib.hid (Below.refl _ _), Lib.hid (fun j h => absurd h (by omega))⟩
  case round =>
    obtain ⟨k, hk, rfl, B, P⟩ := hrel
    by_cases hlt : k < n
    · obtain ⟨b, off, rfl, hb, hc⟩ := (H.out.keep B.out (Nat.le_refl _)).2.resolve_left (by omega)
      obtain ⟨c0, c1, c2⟩ := hc k hlt
      clear hc
      have RT := Lib.hid (fun W => isv_any (kp xs k) (fp xs k) (tp xs k) W)
      have GK := Lib.hid (show g k = !(kp xs k == 2) by rw [HG.out])
      obtain ⟨v, hv⟩ : ∃ v, v = (kp xs k == 2) := ⟨_, rfl⟩
      rw [← hv] at RT GK
      clear hv
      go_wp2_with fail
      refine (RT.out _).mono ?_
      rintro e w1 ⟨rfl, hb1⟩
      have B1 := Lib.hid (B.out.trans (hb1.mono B.out.size))
      clear hb1 c0 c1 c2
      cases v
      · have PK := Lib.hid (show ∀ j, j < k + 1 → g j = true from fun j hj => by
          by_cases e : j = k
          · rw [e]; exact GK.out
          · exact P.out j (by omega))
        go_wp2
        go_roundw
        case rel => exact ⟨k + 1, hlt, by go_num, B1, PK⟩
        case measure => simp [intOf]; omega
      · have FK := Lib.hid (fr_at P.out GK.out hlt)
        go_wp2
        go_ret
        exact ⟨ret_int FK.out.symm, B1.out⟩
    · obtain rfl : k = n := by omega
      have FK := Lib.hid (fr_no P.out)
      go_wp2
      go_ret
      exact ⟨ret_int FK.out.symm, B.out⟩

theorem ctV_any (xs : List Pd) (a : Option Addr) (cap : Nat) (w : World) (hn : xs.length ≤ 1048576) (hat : AtP w a xs.length xs) :
    Calls Try.prog 61 #[.slice a xs.length cap, .func (.func 60) #[] #[]] w fun e w' => e = .returned (.bool (!(nvB xs))) ∧ Below w.heap.size w w' := by
  have I := Lib.hid (idxV_any xs a cap w hn hat)
  have E := Lib.hid (fr_al (fun j => !(kp xs j == 2)) xs.length)
  clear hat
  go_enter Try.func61, Try.ntmps61
  go_wp2_with fail
  refine I.out.mono ?_
  rintro e w1 ⟨rfl, hb1⟩
  have B1 := Lib.hid hb1
  clear hb1
  go_wp2
  go_ret
  exact ⟨ret_bool E.out, B1.out⟩

set_option maxHeartbeats 1000000 in
theorem l10Values_any (xs : List Pd) (a : Option Addr) (cap : Nat) (w : World) (hn : xs.length ≤ 1048576) (hat : AtP w a xs.length xs) :
    Calls Try.prog 57 #[.slice a xs.length cap] w fun e w' => e = .returned (.bool (!(nvB xs))) ∧ Below w.heap.size w w' := by
  have H := Lib.hid hat
  have HV := Lib.hid (show nvB xs = alB (fun j => !(kp xs j == 2)) xs.length from rfl)
  obtain ⟨n, hnn⟩ : ∃ n, n = xs.length := ⟨_, rfl⟩
  obtain ⟨g, hg⟩ : ∃ g : Nat → Bool, g = fun j => !(kp xs j == 2) := ⟨_, rfl⟩
  have HG := Lib.hid hg
  clear hat
  rw [← hg, ← hnn] at HV
  rw [HV.out]
  rw [← hnn] at H hn ⊢
  clear hnn hg HV
  go_enter Try.func57, Try.ntmps57
  go_wp2
  go_loopw [3] (fun i wr => ∃ k : Nat, k ≤ n ∧ i = .int .i64 k ∧ Hid (Below w.heap.size w wr) ∧ Hid (∀ j, j < k → g j = true)) (fun i _ => n - (intOf i).toNat)
  case atStart => exact ⟨0, Nat.zero_le _, rfl, Lib.hid (Below.refl _ _), Lib.hid (fun j h => absurd h (by omega))⟩
  case round =>
    obtain ⟨k, hk, rfl, B, P⟩ := hrel
    by_cases hlt : k < n
    · obtain ⟨b, off, rfl, hb, hc⟩ := (H.out.keep B.out (Nat.le_refl _)).2.resolve_left (by omega)
      obtain ⟨c0, c1, c2⟩ := hc k hlt
      clear hc
      have GK := Lib.hid (show g k = !(kp xs k == 2) by rw [HG.out])
      obtain ⟨q, hq⟩ : ∃ q, q = kp xs k := ⟨_, rfl⟩
      rw [← hq] at GK c0
      clear hq
      by_cases hq2 : q = 2
      · subst hq2
        have FK := Lib.hid (show alB g n = false from by
          cases e : alB g n with
          | false => rfl
          | true => exact absurd ((alB_iff n).1 e k hlt) (by rw [GK.out]; decide))
        go_wp2
        go_ret
        exact ⟨ret_bool (by rw [FK.out]; rfl), B.out⟩
      · have PK := Lib.hid (show ∀ j, j < k + 1 → g j = true from fun j hj => by
          by_cases e : j = k
          · rw [e, GK.out]; simpa using hq2
          · exact P.out j (by omega))
        go_wp2
        go_roundw
        case rel => exact ⟨k + 1, hlt, by go_num, B, PK⟩
        case measure => simp [intOf]; omega
    · obtain rfl : k = n := by omega
      have FK := Lib.hid ((alB_iff _).2 P.out)
      go_wp2
      go_ret
      exact ⟨ret_bool (by rw [FK.out]; rfl), B.out⟩

end Go.Proofs.Ytbfnagmjnaacoaa
