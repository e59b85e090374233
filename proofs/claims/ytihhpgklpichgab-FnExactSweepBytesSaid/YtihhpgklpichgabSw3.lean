/- The listing of the model. -/
import Derived.Test.YtihhpgklpichgabSw2
import Derived.Test.YtihhpgklpichgabC2o
import Derived.Test.YtihhpgklpichgabC2u
import Derived.Test.YtihhpgklpichgabIm4
set_option linter.unusedSimpArgs false
set_option linter.unusedVariables false
namespace Go.Proofs.Ytihhpgklpichgab.Sw
open Go.RowKit Pl Ft Mm In C2 Im

set_option maxRecDepth 100000 in
set_option maxHeartbeats 2000000 in
theorem swept_c (code : List Int) (v : Value) (w : World) (hr : Rd w v code) (hb : code.all isByte = true) (hlen : code.length ≤ 2000) :
    Calls Try.prog 95 #[v] w (SwPost (sweepP code 0) w) := by
  have HRd := hid hr
  have HBy := hid hb
  obtain ⟨a, cap, rfl, hrd⟩ := hr
  have HCs := hid hrd
  clear hb hrd
  go_enter Try.func95, Try.ntmps95
  go_wp2_with fail
  have HB0 := hid ((Below.refl w.heap.size w).alloc (Nat.le_refl _) (.cells #[] 110))
  have hown0 : (w.alloc (.cells #[] 110)).ownsRow w.heap.size 110 7 (.slice (some ⟨w.heap.size, 0, none⟩) 0 0) 0 [] := World.ownsRow_lit (base := w.heap.size) (e := 110) (size := 7) w #[] 0 (Nat.le_refl _) (by simp only [maxLen]; omega) rfl
  have HO0 := hid hown0
  clear hown0
  go_loopw [3, 4] (fun v c wr => ∃ (at_ : Nat) (L : List ILine), c = .int .i64 at_ ∧ SwRel code w v L at_ wr) (fun _ c _ => code.length - (intOf c).toNat)
  case atStart => exact ⟨0, [], rfl, .start HO0.out HB0.out⟩
  case round =>
    obtain ⟨at_, L, rfl, hrel⟩ := hrel
    have HR := hid hrel
    have hle := hrel.le
    have hll := hrel.len
    have hwz := hrel.bel.size
    obtain ⟨sv, cv, rfl⟩ := own_slice hrel.own
    clear hrel
    by_cases hlt : at_ < code.length
    · have hst := stepP_bd code at_ hlt
      rcases HCs.out with h | ⟨g, o, rfl, hg, hcs⟩
      · subst h; simp at hlt
      have q0 := (HR.out.bel.cell (p := ⟨g, o + at_, none⟩) hg).trans (hcs at_ hlt)
      have hx := byte_at HBy.out at_ hlt
      have heq := insIn_eq code at_ hx.1 hx.2
      have HEq := hid heq
      obtain ⟨x, hxx⟩ : ∃ x, code.getD at_ 0 = x := ⟨_, rfl⟩
      rw [hxx] at q0
      have HX := hid hxx
      clear hcs hx heq hxx
      have at0 : 0 ≤ (at_ : Int) := by omega
      have at1 : (at_ : Int) < code.length := by omega
      go_wp2_with fail
      refine (sRead_c code _ at_ _ (HRd.out.on HR.out.bel) HBy.out hlen hlt).mono ?_
      rintro e w1 ⟨⟨jop, ja, jb, jn⟩, rfl, hi, hb1⟩
      have HI := hid hi
      have HOw := hid (own_on HR.out.own hb1)
      have HB1 := hid hb1
      have hz1 := hb1.size
      unfold IIns.val
      simp only
      have q1 := (hb1.cell (p := ⟨g, o + at_, none⟩) (Nat.lt_of_lt_of_le hg hwz)).trans q0
      clear hb1 hi q0
      cases ho : sread code at_ with
      | none =>
        simp only [Option.isSome_none]
        have HLn := hid (lineP_no (HEq.out.trans ho))
        have HSt := hid (stepP_none (HEq.out.trans ho))
        clear ho
        have hq2 := ((Below.refl w1.heap.size w1).alloc (Nat.le_refl _) (.cells #[.int .i64 jop, .int .i64 ja, .int .i64 jb, .int .i64 jn] 24)).cell (p := ⟨g, o + at_, none⟩) (by simp; omega)
        rw [q1] at hq2
        go_wp2_with (at_builtin; refine app_lines _ rfl _ _ rfl w.heap.size L ⟨at_, false, ⟨0, 0, 0, 0⟩, x⟩ _ rfl ((HOw.out.alloc _).alloc _) _ _ _ rfl rfl (SrcAt.ln _ ⟨at_, false, ⟨0, 0, 0, 0⟩, x⟩ _ (by simp)) (by omega) (by simp; omega) ?_)
        intro v2 w2 hown2 ho2
        have hal := ((HB1.out.alloc (hz1) (.cells #[.int .i64 jop, .int .i64 ja, .int .i64 jb, .int .i64 jn] 24)).alloc (by simp; omega) (.cells (lnArr ⟨at_, false, ⟨0, 0, 0, 0⟩, x⟩) 110))
        have HM := hid (HR.out.more (v' := v2) hlt hal (by rw [HLn.out, HX.out]; exact hown2) ho2)
        clear hown2 ho2 hal hq2 q1
        go_wp2_with fail
        go_roundw
        case rel => exact ⟨at_ + 1, L ++ [lineP code at_], by go_num, by rw [← HSt.out]; exact HM.out⟩
        case measure => simp [intOf]; omega
      | some i =>
        obtain rfl := HI.out i ho
        simp only [Option.isSome_some]
        have HLn := hid (lineP_some (HEq.out.trans ho))
        have HSt := hid (stepP_some (HEq.out.trans ho))
        have hf := ins_facts (HEq.out.trans ho)
        have hvb := valid_bounds hf.1
        have ho0 := hvb.o0
        have ho1 := hvb.o1
        simp only at ho0 ho1
        obtain ⟨s, hs⟩ : ∃ s, slong ⟨jop, ja, jb, jn⟩ = s := ⟨_, rfl⟩
        have HSl := hid hs
        rw [hs] at hf
        have hs1 := hf.2.1
        have hs5 := hf.2.2.1
        clear ho hf hs hvb q1
        have HX2 := hid (Row.new w1 24 #[.int .i64 jop, .int .i64 ja, .int .i64 jb, .int .i64 jn])
        go_wp2_with (at_builtin; refine app_lines _ rfl _ _ rfl w.heap.size L ⟨at_, true, ⟨jop, ja, jb, jn⟩, 0⟩ _ rfl ((HOw.out.alloc _).alloc _) _ _ _ rfl rfl (SrcAt.ln _ ⟨at_, true, ⟨jop, ja, jb, jn⟩, 0⟩ _ (by simp)) (by omega) (by simp; omega) ?_)
        intro v2 w2 hown2 ho2
        have hal := ((HB1.out.alloc hz1 (.cells #[.int .i64 jop, .int .i64 ja, .int .i64 jb, .int .i64 jn] 24)).alloc (by simp; omega) (.cells (lnArr ⟨at_, true, ⟨jop, ja, jb, jn⟩, 0⟩) 110))
        have HX3 := hid (row_only (HX2.out.alloc (.cells (lnArr ⟨at_, true, ⟨jop, ja, jb, jn⟩, 0⟩) 110)) (fun h => no_own (HX2.out.alloc (.cells (lnArr ⟨at_, true, ⟨jop, ja, jb, jn⟩, 0⟩) 110)) ((HOw.out.alloc _).alloc _) (by decide) h) ho2)
        have HM := hid (HR.out.more (v' := v2) hlt hal (by rw [HLn.out]; exact hown2) ho2)
        have y0 := HX3.out.cell 0
        have y1 := HX3.out.cell 1
        have y2 := HX3.out.cell 2
        have y3 := HX3.out.cell 3
        simp at y0 y1 y2 y3
        obtain ⟨sv2, cv2, rfl⟩ := own_slice hown2
        clear hown2 ho2 hal
        go_wp2_with fail
        refine (long_c ⟨jop, ja, jb, jn⟩ ho0 ho1 _).mono ?_
        rw [HSl.out]
        rintro e w3 ⟨rfl, hb3⟩
        have HM3 := hid (show SwRel code w _ _ _ w3 from ⟨own_on HM.out.own hb3, HM.out.eq, HM.out.le, HM.out.len, HM.out.bel.trans (hb3.mono HM.out.bel.size)⟩)
        have hne := HSt.out
        rw [HSl.out] at hne
        clear hb3 y0 y1 y2 y3
        go_wp2_with fail
        go_roundw
        case rel => exact ⟨stepP code at_, L ++ [lineP code at_], by rw [← hne], HM3.out⟩
        case measure =>
          simp [intOf]
          omega
    · have HF := hid (HR.out.fin hlt)
      go_wp2_with fail
      go_ret
      exact ⟨_, rfl, by rw [HF.out]; exact HR.out.own, HR.out.bel⟩
theorem sSweepOf_c (code : List Int) (v : Value) (w : World) (hr : Rd w v code) (hlen : code.length ≤ 4611686018427387904) :
    Calls Try.prog 43 #[v] w (SwPost (sweepOf code) w) := by
  have HRd := hid hr
  obtain ⟨a, cap, rfl, _⟩ := hr
  cases hc : isCode code
  · have HC := hid hc
    have HNo := hid (show sweepOf code = [] by unfold sweepOf; rw [hc]; rfl)
    clear hc
    go_enter Try.func43, Try.ntmps43
    go_wp2_with (go_at_call 55; refine (sIsCode_c code _ _ HRd.out hlen).mono ?_; rw [HC.out]; rintro e w' ⟨rfl, rfl⟩)
    go_ret
    exact ⟨_, rfl, by rw [HNo.out]; exact World.ownsRow_nil _ _ _ _, Below.refl _ _⟩
  have HC := hid hc
  have HYes := hid (show sweepOf code = sweepP code 0 by unfold sweepOf; rw [hc, if_pos rfl])
  have hl2 : code.length ≤ 2000 ∧ code.all isByte = true := by simpa [isCode] using hc
  obtain ⟨hl2, hby⟩ := hl2
  have HBy := hid hby
  clear hby hc
  go_enter Try.func43, Try.ntmps43
  go_wp2_with (go_at_call 55; refine (sIsCode_c code _ _ HRd.out hlen).mono ?_; rw [HC.out]; rintro e w' ⟨rfl, rfl⟩)
  refine (swept_c code _ _ HRd.out HBy.out hl2).mono ?_
  rintro e w1 ⟨v1, rfl, hown, hb⟩
  obtain ⟨s1, c1, rfl⟩ := own_slice hown
  have HO := hid hown
  have HB := hid hb
  clear hown hb
  go_wp2_with fail
  go_ret
  exact ⟨_, rfl, by rw [HYes.out]; exact HO.out, HB.out⟩
end Go.Proofs.Ytihhpgklpichgab.Sw
