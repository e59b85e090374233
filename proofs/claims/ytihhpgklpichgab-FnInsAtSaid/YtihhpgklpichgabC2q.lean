/- InsAt of the model; the exact law of InsAt: the walk. -/
import Derived.Test.YtihhpgklpichgabC2o
import Derived.Test.YtihhpgklpichgabC2p
import Derived.Test.YtihhpgklpichgabIm4
import Derived.Test.YtihhpgklpichgabL2
import Derived.Test.YtihhpgklpichgabHarn
set_option linter.unusedSimpArgs false
set_option linter.unusedVariables false
namespace Go.Proofs.Ytihhpgklpichgab.C2
open Go.RowKit Pl Ft Mm In Im

theorem sinsAt_no {code : List Int} {at_ : Int} (h : (isCode code && (decide (0 ≤ at_) && decide (at_ < code.length))) = false) : sinsAt code at_ = none := by
  unfold sinsAt
  rw [h, if_neg (by simp)]
theorem sinsAt_yes {code : List Int} {at_ : Int} (h : (isCode code && (decide (0 ≤ at_) && decide (at_ < code.length))) = true) : sinsAt code at_ = sread code at_.toNat := by
  unfold sinsAt
  rw [if_pos h]
set_option maxHeartbeats 1000000 in
theorem sInsAt_c (code : List Int) (v : Value) (at_ : Int) (w : World) (hr : Rd w v code) (hlen : code.length ≤ 4611686018427387904) :
    Calls Try.prog 15 #[v, .int .i64 at_] w (InsPost (sinsAt code at_) w) := by
  have HRd := hid hr
  obtain ⟨a, cap, rfl, _⟩ := hr
  have HB0 := hid ((Below.refl w.heap.size w).alloc (Nat.le_refl _) (.cells #[.int .i64 0, .int .i64 0, .int .i64 0, .int .i64 0] 24))
  have HO0 := hid (Row.new w 24 #[.int .i64 0, .int .i64 0, .int .i64 0, .int .i64 0])
  have HRd0 := hid (HRd.out.on HB0.out)
  cases hc : isCode code
  · have HC := hid hc
    have HNo := hid (sinsAt_no (code := code) (at_ := at_) (by rw [hc]; rfl))
    clear hc
    go_enter Try.func15, Try.ntmps15
    go_wp2_with (go_at_call 55; refine (sIsCode_c code _ _ HRd0.out hlen).mono ?_; rw [HC.out]; rintro e w' ⟨rfl, rfl⟩)
    refine bodyPost_ret (v := .tuple #[.agg z4, .bool false]) ?_ rfl ?_
    · exact results_cell_tmp Try.results15 _ _ w.heap.size z4 _ rfl HO0.out Try.underlying24 size_four
    exact ⟨by rw [HNo.out]; rfl, HB0.out⟩
  have HC := hid hc
  clear hc
  cases hin : inRange at_ 0 ((code.length : Int) - 1)
  · have HNo := hid (sinsAt_no (code := code) (at_ := at_) (by rw [← inRange_place, hin]; simp))
    have HIn := hid hin
    clear hin
    go_enter Try.func15, Try.ntmps15
    go_wp2_with (first | (go_at_call 55; refine (sIsCode_c code _ _ HRd0.out hlen).mono ?_; rw [HC.out]; rintro e w' ⟨rfl, rfl⟩) | (go_at_call 56; refine (inR_c _ _ _ _).mono ?_; rw [HIn.out]; rintro e w' ⟨rfl, rfl⟩))
    refine bodyPost_ret (v := .tuple #[.agg z4, .bool false]) ?_ rfl ?_
    · exact results_cell_tmp Try.results15 _ _ w.heap.size z4 _ rfl HO0.out Try.underlying24 size_four
    exact ⟨by rw [HNo.out]; rfl, HB0.out⟩
  have HYes := hid (sinsAt_yes (code := code) (at_ := at_) (by rw [HC.out, ← inRange_place, hin]; rfl))
  have hbd : 0 ≤ at_ ∧ at_ < code.length := by
    rw [inRange_place] at hin
    simpa using hin
  have HIn := hid hin
  clear hin
  obtain ⟨h0, h1⟩ := hbd
  obtain ⟨k, rfl⟩ := Int.eq_ofNat_of_zero_le h0
  have hl2 : code.length ≤ 2000 ∧ code.all isByte = true := by simpa [isCode] using HC.out
  obtain ⟨hl2, hby⟩ := hl2
  have HBy := hid hby
  clear hby
  go_enter Try.func15, Try.ntmps15
  go_wp2_with (first | (go_at_call 55; refine (sIsCode_c code _ _ HRd0.out hlen).mono ?_; rw [HC.out]; rintro e w' ⟨rfl, rfl⟩) | (go_at_call 56; refine (inR_c _ _ _ _).mono ?_; rw [HIn.out]; rintro e w' ⟨rfl, rfl⟩))
  refine (sRead_c code _ k _ HRd0.out HBy.out hl2 (by omega)).mono ?_
  rintro e w1 ⟨⟨jop, ja, jb, jn⟩, rfl, hi, hb1⟩
  have HB1 := hid (HB0.out.trans (hb1.mono (by simp)))
  have HO1 := hid (HO0.out.on hb1)
  have hz1 := hb1.size
  simp only [World.size_alloc] at hz1
  have hw01 : w.heap.size < w1.heap.size := by omega
  have HI := hid hi
  clear hb1 hi
  unfold IIns.val
  simp only
  have o0 := HO1.out.cell 0
  have o1 := HO1.out.cell 1
  have o2 := HO1.out.cell 2
  have o3 := HO1.out.cell 3
  simp at o0 o1 o2 o3
  have hfo := HO1.out.free
  cases ho : sread code k with
  | none =>
    have HOo := hid ho
    clear ho
    simp only [Option.isSome_none]
    go_wp2_with fail
    clear o0 o1 o2 o3 hfo
    have hx1 := four_bel HB1.out (Nat.le_refl _) (.int .i64 0) (.int .i64 0) (.int .i64 0) (.int .i64 0)
    refine bodyPost_ret (v := .tuple #[.agg z4, .bool false]) ?_ rfl ?_
    · exact results_cell_tmp Try.results15 _ _ w.heap.size z4 _ rfl ((four_row HO1.out 0 0 0 0).alloc _) Try.underlying24 size_four
    exact ⟨by rw [HYes.out, Int.toNat_natCast, HOo.out]; rfl, hx1.alloc hx1.size _⟩
  | some i =>
    obtain rfl := HI.out i ho
    have HOo := hid ho
    clear ho
    simp only [Option.isSome_some]
    go_wp2_with fail
    clear o0 o1 o2 o3 hfo
    have hx1 := four_bel HB1.out (Nat.le_refl _) (.int .i64 jop) (.int .i64 ja) (.int .i64 jb) (.int .i64 jn)
    refine bodyPost_ret (v := .tuple #[.agg (i4 ⟨jop, ja, jb, jn⟩), .bool true]) ?_ rfl ?_
    · exact results_cell_tmp Try.results15 _ _ w.heap.size (i4 ⟨jop, ja, jb, jn⟩) _ rfl ((four_row HO1.out jop ja jb jn).alloc _) Try.underlying24 size_four
    exact ⟨by rw [HYes.out, Int.toNat_natCast, HOo.out]; rfl, hx1.alloc hx1.size _⟩
end Go.Proofs.Ytihhpgklpichgab.C2
