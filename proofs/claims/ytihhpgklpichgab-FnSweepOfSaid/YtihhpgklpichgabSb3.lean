/- SweepBytes of the model. -/
import Derived.Test.YtihhpgklpichgabSb2
import Derived.Test.YtihhpgklpichgabSw3
import Derived.Test.YtihhpgklpichgabL2b
set_option linter.unusedSimpArgs false
set_option linter.unusedVariables false
namespace Go.Proofs.Ytihhpgklpichgab.Sw
open Go.RowKit Pl Ft Mm In C2 Im Wk

structure SsRel (l : List ILine) (w : World) (v : Value) (out : List Int) (k : Nat) (wr : World) : Prop where
  own : wr.ownsRow w.heap.size 3 1 v out.length (ints out)
  eq : smod l [] = smod (l.drop k) out
  len : out.length ≤ 5 * k
  bel : Below w.heap.size w wr
theorem smod_bad {l : List ILine} {k : Nat} {out : List Int} (h : k < l.length) (hb : out.length > 2000 ∨ (l.getD k .none).at_ ≠ out.length) : smod (l.drop k) out = none := by
  have e : l.getD k .none = l[k] := by simp [h]
  rw [e] at hb
  rw [List.drop_eq_getElem_cons h, smod, if_pos hb]
theorem smod_none {l : List ILine} {k : Nat} {out : List Int} (h : k < l.length) (hb : bytesP (l.getD k .none) = none) : smod (l.drop k) out = none := by
  have e : l.getD k .none = l[k] := by simp [h]
  rw [e] at hb
  rw [List.drop_eq_getElem_cons h, smod, hb]
  split <;> rfl
theorem smod_some {l : List ILine} {k : Nat} {out b : List Int} (h : k < l.length) (hn : ¬ (out.length > 2000 ∨ (l.getD k .none).at_ ≠ out.length)) (hb : bytesP (l.getD k .none) = some b) : smod (l.drop k) out = smod (l.drop (k + 1)) (out ++ b) := by
  have e : l.getD k .none = l[k] := by simp [h]
  rw [e] at hb hn
  rw [List.drop_eq_getElem_cons h, smod, if_neg hn, hb]
set_option maxRecDepth 100000 in
set_option maxHeartbeats 4000000 in
theorem sSweepBytes_c (l : List ILine) (v : Value) (w : World) (hr : CRd w v l.length (lnCells l)) (hl : l.length ≤ 1048576) :
    Calls Try.prog 49 #[v] w (TabPost (sweepBytes l) w) := by
  obtain ⟨o, ho⟩ : ∃ o, sweepBytes l = o := ⟨_, rfl⟩
  have HQ := hid (show o = ssweepBytes l by rw [← ho, sweepBytes_eq])
  rw [ho]
  clear ho
  have HRd := hid hr
  obtain ⟨a, cap, rfl, ha⟩ := hr
  have HA := hid ha
  clear ha
  have HQ2 := hid (show o = match smod l [] with | none => none | some c => if isCode c = true ∧ sweepP c 0 = l then some c else none from HQ.out)
  clear HQ
  have HO0 := hid (own_lit w [] #[] rfl (by simp) 0 rfl)
  have HB0 := hid ((Below.refl w.heap.size w).alloc (Nat.le_refl _) (.cells #[] 3))
  go_enter Try.func49, Try.ntmps49
  go_wp2_with fail
  go_loopw [4, 5] (fun v c wr => ∃ (k : Nat) (out : List Int), c = .int .i64 k ∧ k ≤ l.length ∧ SsRel l w v out k wr) (fun _ c _ => l.length - (intOf c).toNat)
  case atStart => exact ⟨0, [], rfl, by omega, ⟨HO0.out, rfl, by simp, HB0.out⟩⟩
  case round =>
    obtain ⟨k, out, rfl, hk, hrel⟩ := hrel
    have HR := hid hrel
    have hol := hrel.len
    have hzr := hrel.bel.size
    obtain ⟨sv, cv, rfl⟩ := own_slice hrel.own
    clear hrel
    by_cases hlt : k < l.length
    · rcases HA.out with h | ⟨g, of_, rfl, hg, hc⟩
      · omega
      obtain ⟨c0, c1, c2, c3, c4, c5, c6⟩ := lnCells_get l k hlt
      have q0 := (HR.out.bel.cell (p := ⟨g, of_ + (k * 7), none⟩) hg).trans (hc _ _ c0)
      have q1 := (HR.out.bel.cell (p := ⟨g, of_ + (k * 7 + 1), none⟩) hg).trans (hc _ _ c1)
      have q2 := (HR.out.bel.cell (p := ⟨g, of_ + (k * 7 + 2), none⟩) hg).trans (hc _ _ c2)
      have q3 := (HR.out.bel.cell (p := ⟨g, of_ + (k * 7 + 3), none⟩) hg).trans (hc _ _ c3)
      have q4 := (HR.out.bel.cell (p := ⟨g, of_ + (k * 7 + 4), none⟩) hg).trans (hc _ _ c4)
      have q5 := (HR.out.bel.cell (p := ⟨g, of_ + (k * 7 + 5), none⟩) hg).trans (hc _ _ c5)
      have q6 := (HR.out.bel.cell (p := ⟨g, of_ + (k * 7 + 6), none⟩) hg).trans (hc _ _ c6)
      obtain ⟨⟨at_, is, ⟨op, ia, ib, n⟩, byte⟩, hln⟩ : ∃ x, l.getD k .none = x := ⟨_, rfl⟩
      rw [hln] at q0 q1 q2 q3 q4 q5 q6
      simp only [← Nat.add_assoc] at q0 q1 q2 q3 q4 q5 q6
      have k1 : (k : Int) < l.length := by omega
      have k0 : 0 ≤ (k : Int) := by omega
      have HLn := hid hln
      clear hc c0 c1 c2 c3 c4 c5 c6 hln
      by_cases hbad : out.length > 2000 ∨ at_ ≠ out.length
      · obtain rfl : o = none := by rw [HQ2.out, HR.out.eq, smod_bad hlt (by rw [HLn.out]; exact hbad)]
        by_cases hb1 : out.length > 2000
        · have hb2 : (2000 : Int) < out.length := by omega
          clear hbad
          go_wp2_with fail
          go_ret2
          exact ⟨_, rfl, World.ownsRow_nil _ _ _ _, HR.out.bel⟩
        · have hb2 : ¬ (2000 : Int) < out.length := by omega
          have hb3 : at_ ≠ (out.length : Int) := by rcases hbad with h | h; exact absurd h hb1; exact h
          have hb4 : (at_ == (out.length : Int)) = false := by rw [beq_eq_false_iff_ne]; exact hb3
          have hb5 : (at_ != (out.length : Int)) = true := by rw [bne_iff_ne]; exact hb3
          clear hbad
          go_wp2_with fail
          go_ret2
          exact ⟨_, rfl, World.ownsRow_nil _ _ _ _, HR.out.bel⟩
      have HNb := hid hbad
      obtain rfl : at_ = (out.length : Int) := by omega
      have hb2 : ¬ (2000 : Int) < out.length := by omega
      clear hbad
      cases is with
      | false =>
        have HE := hid (smod_some (out := out) (b := [byte]) hlt (by rw [HLn.out]; exact HNb.out) (by rw [HLn.out]; rfl))
        go_wp2_with (at_builtin; refine app_ints _ rfl _ _ rfl w.heap.size out [byte] _ rfl (HR.out.own.alloc _) _ _ _ rfl rfl (SrcAt.at_ _ [byte] #[.int .i64 byte] _ 1 rfl (by simp) rfl) (by simp only [List.length_cons, List.length_nil]; omega) (by simp; omega) ?_)
        intro v3 w3 hg3
        have HM := hid (show SsRel l w v3 (out ++ [byte]) (k + 1) w3 from ⟨hg3.own, HR.out.eq.trans HE.out, by rw [List.length_append]; simp; omega, (HR.out.bel.alloc hzr _).trans hg3.bel⟩)
        clear hg3 q0 q1 q2 q3 q4 q5 q6
        go_wp2_with fail
        go_roundw
        case rel => exact ⟨k + 1, out ++ [byte], by go_num, by omega, HM.out⟩
        case measure => simp [intOf]; omega
      | true =>
        obtain ⟨ob, hob⟩ : ∃ x, insPut ⟨op, ia, ib, n⟩ (out.length : Int) = x := ⟨_, rfl⟩
        have HBp := hid (show bytesP ⟨out.length, true, ⟨op, ia, ib, n⟩, byte⟩ = ob from hob)
        have HOb := hid hob
        have hlen5 : ∀ b, ob = some b → b.length ≤ 5 := fun b hb => put_len5 (hob.trans hb)
        clear hob
        go_wp2_with fail
        go_region_with (go_at_call 25; refine (sInsPut_c ⟨op, ia, ib, n⟩ out.length _).mono ?_; rw [HOb.out]; rintro e w2 ⟨v2, rfl, hb2, hno, hown⟩)
        all_goals
          have HB2 := hid (HR.out.bel.drew.trans (hb2.mono HR.out.bel.drew.size))
          have HO2 := hid (own_on (show wr.drew.ownsRow w.heap.size 3 1 _ out.length (ints out) from HR.out.own) hb2)
          have HNo := hid hno
          have HOw := hid (fun l hl => own_mono (hown l hl) HR.out.bel.drew.size)
          have hz2 := HB2.out.size
          clear hb2 hno hown q0 q1 q2 q3 q4 q5 q6
          cases ob with
          | none =>
            obtain rfl : o = none := by rw [HQ2.out, HR.out.eq, smod_none hlt (by rw [HLn.out]; exact HBp.out)]
            obtain rfl := HNo.out rfl
            simp only [Option.isSome_none]
            go_wp2_with fail
            go_ret2
            exact ⟨_, rfl, World.ownsRow_nil _ _ _ _, HB2.out⟩
          | some b =>
            have hb5 := hlen5 b rfl
            have HE := hid (smod_some (out := out) hlt (by rw [HLn.out]; exact HNb.out) (by rw [HLn.out]; exact HBp.out))
            have HOb2 := hid (HOw.out b rfl)
            obtain ⟨s2, c2, rfl⟩ := own_slice HOb2.out
            have HSr := hid (SrcAt.of_rd (Rd.of_own HOb2.out))
            simp only [Option.isSome_some]
            go_wp2_with (at_builtin; refine app_ints _ rfl _ _ rfl w.heap.size out b _ rfl HO2.out _ _ _ rfl rfl HSr.out (by omega) (by omega) ?_)
            intro v3 w3 hg3
            have HM := hid (show SsRel l w v3 (out ++ b) (k + 1) w3 from ⟨hg3.own, HR.out.eq.trans HE.out, by rw [List.length_append]; omega, HB2.out.trans hg3.bel⟩)
            clear hg3
            go_wp2_with fail
            go_roundw
            case rel => exact ⟨k + 1, out ++ b, by go_num, by omega, HM.out⟩
            case measure => simp [intOf]; omega
    · obtain rfl : k = l.length := by omega
      have HE := hid (show smod l [] = some out by rw [HR.out.eq, List.drop_length]; rfl)
      cases hco : isCode out
      · have HC := hid hco
        obtain rfl : o = none := by rw [HQ2.out, HE.out]; simp only; rw [if_neg (by rw [hco]; simp)]
        clear hco
        go_wp2_with fail
        refine (sIsCode_c out _ _ (.of_own HR.out.own) (by omega)).mono ?_
        rw [HC.out]
        rintro e w2 ⟨rfl, rfl⟩
        go_wp2_with fail
        go_ret2
        exact ⟨_, rfl, World.ownsRow_nil _ _ _ _, HR.out.bel⟩
      have HC := hid hco
      have hcb := isCode_bd hco
      have HCb := hid hcb
      have hsl : (sweepP out 0).length ≤ 2000 := sweepP_len out 2000 0 (by omega)
      have HQ3 := hid (show o = if sweepP out 0 = l then some out else none by rw [HQ2.out, HE.out]; simp only [hco, true_and])
      clear hco hcb
      go_wp2_with fail
      refine (sIsCode_c out _ _ (.of_own HR.out.own) (by omega)).mono ?_
      rw [HC.out]
      rintro e w2 ⟨rfl, rfl⟩
      go_wp2_with fail
      refine (swept_c out _ _ (.of_own HR.out.own) HCb.out.2 HCb.out.1).mono ?_
      rintro e w2 ⟨v2, rfl, hown2, hb2⟩
      have HO2 := hid hown2
      have HB2 := hid (HR.out.bel.trans (hb2.mono hzr))
      have HOut := hid (own_on HR.out.own hb2)
      obtain ⟨s2, c2, rfl⟩ := own_slice hown2
      clear hown2 hb2
      go_wp2_with fail
      refine (sameLines_c (sweepP out 0) l _ _ _ (.of_own HO2.out) (HRd.out.on HB2.out) (by omega) hl).mono ?_
      rintro e w3 ⟨rfl, m, rfl⟩
      have HB3 := hid (HB2.out.trans ((below_drewN w2 m).mono HB2.out.size))
      have HO3 := hid (own_on HOut.out (below_drewN w2 m))
      by_cases hse : sweepP out 0 = l
      · have HE2 := hid (show eqLines (sweepP out 0) l = true by unfold eqLines; rw [decide_eq_true hse])
        obtain rfl : o = some out := by rw [HQ3.out, if_pos hse]
        rw [HE2.out]
        clear hse
        go_wp2_with fail
        go_ret2
        exact ⟨_, rfl, HO3.out, HB3.out⟩
      · have HE2 := hid (show eqLines (sweepP out 0) l = false by unfold eqLines; rw [decide_eq_false hse])
        obtain rfl : o = none := by rw [HQ3.out, if_neg hse]
        rw [HE2.out]
        clear hse
        go_wp2_with fail
        go_ret2
        exact ⟨_, rfl, World.ownsRow_nil _ _ _ _, HB3.out⟩
end Go.Proofs.Ytihhpgklpichgab.Sw
