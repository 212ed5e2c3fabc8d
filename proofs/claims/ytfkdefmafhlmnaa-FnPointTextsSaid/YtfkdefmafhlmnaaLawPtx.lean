/- PointText: entries of both sides and the walk of its law. Conditions: those in the theorems. -/
import Derived.Test.YtfkdefmafhlmnaaTxb
import Derived.Test.YtfkdefmafhlmnaaJn15
import Derived.Test.YtfkdefmafhlmnaaJn14
namespace Go.Proofs.Ytfkdefmafhlmnaa
open Go.RowKit

theorem ap_mono {u : Value} {n m : Nat} {zs : List UInt8} (h : ApC u n zs) (hn : n ≤ m) : ApC u m zs := fun w v B ys hB ho hl => h w v B ys hB ho (by omega)

set_option maxHeartbeats 1000000 in
set_option maxRecDepth 100000 in
theorem ap_link (k : Int) (t t' : TypeId) (u u' : Value) (n : Nat) (zs : List UInt8) (h : LkC (.agg #[.int .i64 k, .iface t u, .iface t' u']) n zs) : ApC (.iface 132 (.agg #[.int .i64 k, .iface t u, .iface t' u'])) n zs := by
  intro w v B ys hB hown hn
  have O := Lib.hid hown
  have BA := Lib.hid ((Below.refl B w).alloc hB (.cells #[.int .i64 k, .iface t u, .iface t' u'] 132))
  have KA := Lib.hid (keepT_below ((Below.refl w.heap.size w).alloc (Nat.le_refl _) (.cells #[.int .i64 k, .iface t u, .iface t' u'] 132)))
  have LK := Lib.hid (h (w.alloc (.cells #[.int .i64 k, .iface t u, .iface t' u'] 132)) v B ys (Nat.le_trans hB BA.out.size) (World.ownsRow.alloc O.out _) hn)
  have a0 := asS_no w 132 (.agg #[.int .i64 k, .iface t u, .iface t' u']) (by decide)
  have a1 := asE_no w 132 (.agg #[.int .i64 k, .iface t u, .iface t' u']) (by decide)
  have a2 := asV_no w 132 (.agg #[.int .i64 k, .iface t u, .iface t' u']) (by decide)
  have a3 := asL_yes w (.agg #[.int .i64 k, .iface t u, .iface t' u'])
  clear hown h
  go_enter Try.func63, Try.ntmps63
  go_wp2_with fail
  refine LK.out.mono ?_
  rintro e w1 ⟨v1, rfl, ho1, hb1, hk1⟩
  have O1 := Lib.hid ho1
  have B1 := Lib.hid (BA.out.trans hb1)
  have K1 := Lib.hid (KA.out.trans hk1)
  clear ho1 hb1 hk1
  go_wp2
  go_ret
  exact ⟨_, rfl, O1.out, B1.out, K1.out⟩

theorem appendPoint_any (f : Pt) (hf : f.ok) : ApC (tv f) (3 * f.sz) f.wr := by
  induction f with
  | le k x y =>
    have hs : (Pt.le k x y).sz = 1 := rfl
    rw [hs]
    rcases hf with ⟨rfl | rfl, h1, h2, h3, h4⟩ | ⟨rfl, h1, h2, h3, h4⟩ | ⟨rfl, rfl, rfl⟩
    · rw [Pt.wr, if_pos rfl, show tv (.le 0 x y) = .iface 125 (.agg #[.int .i64 x, .int .i64 y]) from by rw [tv, if_pos rfl]]; exact ap_s x y h1 h2 h3 h4
    · rw [Pt.wr, if_neg (by omega), if_pos rfl, show tv (.le 1 x y) = .iface 128 (.agg #[.int .i64 x, .int .i64 y]) from by rw [tv, if_neg (by omega), if_pos rfl]]; exact ap_e x y h1 h2 h3 h4
    · rw [Pt.wr, if_neg (by omega), if_neg (by omega), if_pos rfl, show tv (.le 2 x y) = .iface 130 (.agg #[.int .i64 x, .int .i64 y]) from by rw [tv, if_neg (by omega), if_neg (by omega), if_pos rfl]]; exact ap_v x y h1 h2 h3 h4
    · rw [Pt.wr, if_neg (by omega), if_neg (by omega), if_neg (by omega), show tv (.le 3 0 0) = .iface 148 (.agg #[]) from by rw [tv, if_neg (by omega), if_neg (by omega), if_neg (by omega)]]; exact ap_f
  | un k x a ih =>
    have hs : (Pt.un k x a).sz = 1 + a.sz := rfl
    obtain ⟨t, u, hv⟩ := tv_iface a
    have h := ih hf.2.2
    rw [hv] at h
    have e : tv (Pt.un k x a) = .iface 135 (.agg #[.int .i64 k, .int .i64 x, .iface t u]) := by rw [← hv]; rfl
    rw [e, Pt.wr]
    rcases hf.1 with rfl | rfl
    · rw [if_pos rfl]; exact ap_mono (ap_q7 x _ _ hf.2.1.1 hf.2.1.2 t u h) (by omega)
    · rw [if_neg (by omega)]; exact ap_mono (ap_q8 x _ _ hf.2.1.1 hf.2.1.2 t u h) (by omega)
  | bi k a b iha ihb =>
    have hs : (Pt.bi k a b).sz = 1 + a.sz + b.sz := rfl
    obtain ⟨t, u, hv⟩ := tv_iface a
    have h := iha hf.2.1
    rw [hv] at h
    rw [Pt.wr]
    by_cases hn : k = 6 ∧ b.enc = [(3, 0, 0)]
    · rw [if_pos hn]
      obtain ⟨rfl, hb⟩ := hn
      have eb := enc_f hf.2.2 hb
      have e : tv (Pt.bi 6 a b) = .iface 132 (.agg #[.int .i64 6, .iface t u, .iface 148 (.agg #[])]) := by
        rw [← hv, eb, show Value.iface 148 (.agg #[]) = tv (.le 3 0 0) from by rw [tv, if_neg (by omega), if_neg (by omega), if_neg (by omega)]]; rfl
      rw [e]
      exact ap_mono (ap_link _ _ _ _ _ _ _ (lk_neg _ _ t u h)) (by omega)
    · rw [if_neg hn]
      have h' := ihb hf.2.2
      obtain ⟨t', u', hv'⟩ := tv_iface b
      rw [hv'] at h'
      have e : tv (Pt.bi k a b) = .iface 132 (.agg #[.int .i64 k, .iface t u, .iface t' u']) := by rw [← hv, ← hv']; rfl
      rw [e]
      have hza := a.wr_len
      have hzb := b.wr_len
      have NG : ∀ W, Calls Try.prog 115 #[.agg #[.int .i64 k, .iface t u, .iface t' u']] W fun e w' => e = .returned (.bool false) ∧ Below W.heap.size W w' := by
        intro W
        by_cases ht : t' = 148
        · subst ht
          have hb3 : b.enc = [(3, 0, 0)] := by
            cases b with
            | le j f s =>
              rcases hf.2.2 with ⟨rfl | rfl, -⟩ | ⟨rfl, -⟩ | ⟨rfl, rfl, rfl⟩
              · rw [tv, if_pos rfl] at hv'; cases hv'
              · rw [tv, if_neg (by omega), if_pos rfl] at hv'; cases hv'
              · rw [tv, if_neg (by omega), if_neg (by omega), if_pos rfl] at hv'; cases hv'
              · rfl
            | bi j c d => rw [tv] at hv'; cases hv'
            | un j c d => rw [tv] at hv'; cases hv'
          have eb := enc_f hf.2.2 hb3
          have eu : u' = .agg #[] := by
            rw [eb, tv, if_neg (by omega), if_neg (by omega), if_neg (by omega)] at hv'
            cases hv'; rfl
          have hk : (k == 6) = false := by
            have : k ≠ 6 := fun e => hn ⟨e, hb3⟩
            simpa using this
          have := isNeg_f k t u W
          rw [hk] at this
          rw [eu]; exact this
        · exact isNeg_n k t t' u u' ht W
      rcases hf.1 with rfl | rfl | rfl
      · rw [if_pos rfl]; exact ap_mono (ap_link _ _ _ _ _ _ _ (lk_4 _ _ _ _ t t' u u' NG h h' hza hzb)) (by omega)
      · rw [if_neg (by omega), if_pos rfl]; exact ap_mono (ap_link _ _ _ _ _ _ _ (lk_5 _ _ _ _ t t' u u' NG h h' hza hzb)) (by omega)
      · rw [if_neg (by omega), if_neg (by omega)]; exact ap_mono (ap_link _ _ _ _ _ _ _ (lk_6 _ _ _ _ t t' u u' NG h h' hza hzb)) (by omega)

theorem pointText_any (f : Pt) (hf : f.ok) (hz : f.sz ≤ 120) (b off len cap : Nat) (w : World) (hl : len ≤ 1048576) (h : AtT w b off len cap f) :
    Calls Try.prog 36 #[.slice (some ⟨b, off, none⟩) len cap] w fun e w' => e = .returned (.string (str f.wr)) ∧ Below w.heap.size w w' := by
  have T := Lib.hid (treeOf_any f hf b off len cap w hl h.1)
  have A := Lib.hid (appendPoint_any f hf)
  obtain ⟨t, ht⟩ : ∃ t, t = tv f := ⟨_, rfl⟩
  rw [← ht] at T A
  clear h ht
  go_enter Try.func36, Try.ntmps36
  go_wp2_with fail
  refine T.out.mono ?_
  rintro e w1 ⟨rfl, hb1⟩
  have B1 := Lib.hid hb1
  clear hb1
  go_wp2_with fail
  refine (A.out _ _ w.heap.size [] B1.out.size (ownY_nil _ _) (by simp; omega)).mono ?_
  rintro e w2 ⟨v2, rfl, ho2, hb2, -⟩
  have B2 := Lib.hid (B1.out.trans hb2)
  have C2 := run_text ho2
  rw [List.nil_append] at C2
  clear hb2 ho2
  go_wp2
  go_ret
  exact ⟨rfl, B2.out⟩

noncomputable def ptR (xs : List Pd) : ByteArray := if isP xs xs.length then str (toPt xs).wr else ⟨#[]⟩
def ptC (xs : List Pd) : Int := if isP xs xs.length then 0 else 1

set_option maxHeartbeats 1000000 in
theorem specPointText_v (x0 : List Pd) (v : Value) (lo hi : Nat) (w : World) (hl : x0.length ≤ 1048576) (h : InP w lo hi v x0) :
    Calls Try.prog 10 #[v] w fun e w' => e = .returned (.tuple #[.string (ptR x0), .int .i64 (ptC x0)]) ∧ Below w.heap.size w w' := by
  obtain ⟨a, cap, rfl, hat, hc1, hc2⟩ := h.at'
  have H := Lib.hid hat
  cases hb : isP x0 x0.length
  · have E1 := Lib.hid (show ptR x0 = ⟨#[]⟩ by rw [ptR, hb]; rfl)
    have E2 := Lib.hid (show ptC x0 = 1 by rw [ptC, hb]; rfl)
    clear h hat
    go_enter Try.func10, Try.ntmps10
    go_wp2_with fail
    refine (specIsP_any x0 a _ _ _ hl H.out).mono ?_
    rw [hb]
    rintro e w1 ⟨rfl, hb1⟩
    go_wp2
    go_ret2
    exact ⟨(by rw [E1.out, E2.out] <;> rfl), hb1⟩
  · obtain ⟨b, off, rfl, hf⟩ := hat.pformula hb hc1 hc2
    have hok := toPt_of hb
    have hlen := hf.len
    have CL := Lib.hid (fun W (hW : Below w.heap.size w W) => l10Text_any _ hok.1 (by omega) b off _ cap W (by omega) (hf.keep hW (Nat.le_refl _)))
    obtain ⟨S, hS⟩ : ∃ S, S = str (toPt x0).wr := ⟨_, rfl⟩
    rw [← hS] at CL
    have E1 := Lib.hid (show ptR x0 = S by rw [ptR, hb, if_pos rfl, hS])
    have E2 := Lib.hid (show ptC x0 = 0 by rw [ptC, hb]; rfl)
    clear h hat hf hok hS hlen
    go_enter Try.func10, Try.ntmps10
    go_wp2_with fail
    refine (specIsP_any x0 _ _ _ _ hl H.out).mono ?_
    rw [hb]
    rintro e w1 ⟨rfl, hb1⟩
    have B1 := Lib.hid hb1
    clear hb1
    go_wp2_with fail
    refine (CL.out _ B1.out).mono ?_
    rintro e w2 ⟨rfl, hb2⟩
    have B2 := Lib.hid (B1.out.trans (hb2.mono B1.out.size))
    clear hb2
    go_wp2
    go_ret2
    exact ⟨(by rw [E1.out, E2.out] <;> rfl), B2.out⟩
set_option maxHeartbeats 1000000 in
theorem implPointText_v (x0 : List Pd) (v : Value) (lo hi : Nat) (w : World) (hl : x0.length ≤ 1048576) (h : InP w lo hi v x0) :
    Calls Try.prog 9 #[v] w fun e w' => e = .returned (.tuple #[.string (ptR x0), .int .i64 (ptC x0)]) ∧ Below w.heap.size w w' := by
  obtain ⟨a, cap, rfl, hat, hc1, hc2⟩ := h.at'
  have H := Lib.hid hat
  cases hb : isP x0 x0.length
  · have E1 := Lib.hid (show ptR x0 = ⟨#[]⟩ by rw [ptR, hb]; rfl)
    have E2 := Lib.hid (show ptC x0 = 1 by rw [ptC, hb]; rfl)
    clear h hat
    go_enter Try.func9, Try.ntmps9
    go_wp2_with fail
    refine (implIsP_any x0 a _ _ _ hl H.out).mono ?_
    rw [hb]
    rintro e w1 ⟨rfl, hb1⟩
    go_wp2
    go_ret2
    exact ⟨(by rw [E1.out, E2.out] <;> rfl), hb1⟩
  · obtain ⟨b, off, rfl, hf⟩ := hat.pformula hb hc1 hc2
    have hok := toPt_of hb
    have CL := Lib.hid (fun W (hW : Below w.heap.size w W) => pointText_any _ hok.1 hok.2.2 b off _ cap W hl (hf.keep hW (Nat.le_refl _)))
    obtain ⟨S, hS⟩ : ∃ S, S = str (toPt x0).wr := ⟨_, rfl⟩
    rw [← hS] at CL
    have E1 := Lib.hid (show ptR x0 = S by rw [ptR, hb, if_pos rfl, hS])
    have E2 := Lib.hid (show ptC x0 = 0 by rw [ptC, hb]; rfl)
    clear h hat hf hok hS
    go_enter Try.func9, Try.ntmps9
    go_wp2_with fail
    refine (implIsP_any x0 _ _ _ _ hl H.out).mono ?_
    rw [hb]
    rintro e w1 ⟨rfl, hb1⟩
    have B1 := Lib.hid hb1
    clear hb1
    go_wp2_with fail
    refine (CL.out _ B1.out).mono ?_
    rintro e w2 ⟨rfl, hb2⟩
    have B2 := Lib.hid (B1.out.trans (hb2.mono B1.out.size))
    clear hb2
    go_wp2
    go_ret2
    exact ⟨(by rw [E1.out, E2.out] <;> rfl), B2.out⟩

end Go.Proofs.Ytfkdefmafhlmnaa
