/- InsAt of the program. -/
import Derived.Test.YtihhpgklpichgabC2m
set_option linter.unusedSimpArgs false
set_option linter.unusedVariables false
namespace Go.Proofs.Ytihhpgklpichgab.C2
open Go.RowKit Pl Ft Mm In

theorem insAt_no {code : List Int} {at_ : Int} (h : (isCode code && (decide (0 ≤ at_) && decide (at_ < code.length))) = false) : insAt code at_ = none := by
  unfold insAt
  rw [h, if_neg (by simp)]
theorem insAt_yes {code : List Int} {at_ : Int} (h : (isCode code && (decide (0 ≤ at_) && decide (at_ < code.length))) = true) : insAt code at_ = insIn code at_.toNat := by
  unfold insAt
  rw [if_pos h]
set_option maxHeartbeats 1000000 in
theorem insAt_c (code : List Int) (v : Value) (at_ : Int) (w : World) (hr : Rd w v code) (hcap : ∀ a n c, v = .slice a n c → n ≤ c) (hlen : code.length ≤ 4611686018427387904) :
    Calls Try.prog 17 #[v, .int .i64 at_] w (InsPost (insAt code at_) w) := by
  have HRd := hid hr
  have HCap := hid hcap
  obtain ⟨a, cap, rfl, _⟩ := hr
  clear hcap
  have HB0 := hid ((Below.refl w.heap.size w).alloc (Nat.le_refl _) (.cells #[.int .i64 0, .int .i64 0, .int .i64 0, .int .i64 0] 24))
  have HO0 := hid (Row.new w 24 #[.int .i64 0, .int .i64 0, .int .i64 0, .int .i64 0])
  have HRd0 := hid (HRd.out.on HB0.out)
  cases hc : isCode code
  · have HC := hid hc
    have HNo := hid (insAt_no (code := code) (at_ := at_) (by rw [hc]; rfl))
    clear hc
    go_enter Try.func17, Try.ntmps17
    go_wp2_with (go_at_call 58; refine (isCode_c code _ _ HRd0.out hlen).mono ?_; rw [HC.out]; rintro e w' ⟨rfl, rfl⟩)
    refine bodyPost_ret (v := .tuple #[.agg z4, .bool false]) ?_ rfl ?_
    · exact results_cell_tmp Try.results17 _ _ w.heap.size z4 _ rfl HO0.out Try.underlying24 size_four
    exact ⟨by rw [HNo.out]; rfl, HB0.out⟩
  have HC := hid hc
  clear hc
  by_cases h0 : 0 ≤ at_
  case neg =>
    have HNo := hid (insAt_no (code := code) (at_ := at_) (by rw [decide_eq_false h0]; simp))
    go_enter Try.func17, Try.ntmps17
    go_wp2_with (go_at_call 58; refine (isCode_c code _ _ HRd0.out hlen).mono ?_; rw [HC.out]; rintro e w' ⟨rfl, rfl⟩)
    refine bodyPost_ret (v := .tuple #[.agg z4, .bool false]) ?_ rfl ?_
    · exact results_cell_tmp Try.results17 _ _ w.heap.size z4 _ rfl HO0.out Try.underlying24 size_four
    exact ⟨by rw [HNo.out]; rfl, HB0.out⟩
  by_cases h1 : at_ < code.length
  case neg =>
    have HNo := hid (insAt_no (code := code) (at_ := at_) (by rw [decide_eq_false h1]; simp))
    go_enter Try.func17, Try.ntmps17
    go_wp2_with (go_at_call 58; refine (isCode_c code _ _ HRd0.out hlen).mono ?_; rw [HC.out]; rintro e w' ⟨rfl, rfl⟩)
    refine bodyPost_ret (v := .tuple #[.agg z4, .bool false]) ?_ rfl ?_
    · exact results_cell_tmp Try.results17 _ _ w.heap.size z4 _ rfl HO0.out Try.underlying24 size_four
    exact ⟨by rw [HNo.out]; rfl, HB0.out⟩
  obtain ⟨k, rfl⟩ := Int.eq_ofNat_of_zero_le h0
  have HYes := hid (insAt_yes (code := code) (at_ := (k : Int)) (by rw [HC.out, decide_eq_true h0, decide_eq_true h1]; rfl))
  have hl2 : code.length ≤ 2000 ∧ code.all isByte = true := by simpa [isCode] using HC.out
  obtain ⟨hl2, hby⟩ := hl2
  have HBy := hid hby
  clear hby
  go_enter Try.func17, Try.ntmps17
  go_wp2_with (go_at_call 58; refine (isCode_c code _ _ HRd0.out hlen).mono ?_; rw [HC.out]; rintro e w' ⟨rfl, rfl⟩)
  refine (insIn_c code _ k _ HRd0.out HCap.out HBy.out hl2 (by omega)).mono ?_
  rintro e w1 ⟨rfl, hb1⟩
  have HB1 := hid (HB0.out.trans (hb1.mono (by simp)))
  have HO1 := hid (HO0.out.on hb1)
  have hz1 := hb1.size
  simp only [World.size_alloc] at hz1
  have hw01 : w.heap.size < w1.heap.size := by omega
  clear hb1
  obtain ⟨o, ho⟩ : ∃ o, insIn code k = o := ⟨_, rfl⟩
  rw [ho]
  have HOo := hid ho
  clear ho
  obtain ⟨⟨jop, ja, jb, jn⟩, hj⟩ : ∃ i, o.getD insZero = i := ⟨_, rfl⟩
  unfold insVal
  rw [hj]
  have HJ := hid hj
  clear hj
  unfold IIns.val
  simp only
  have o0 := HO1.out.cell 0
  have o1 := HO1.out.cell 1
  have o2 := HO1.out.cell 2
  have o3 := HO1.out.cell 3
  simp at o0 o1 o2 o3
  have hfo := HO1.out.free
  go_wp2_with fail
  clear o0 o1 o2 o3 hfo
  refine bodyPost_ret (v := .tuple #[.agg (i4 ⟨jop, ja, jb, jn⟩), .bool o.isSome]) ?_ rfl ?_
  · exact results_cell_tmp Try.results17 _ _ w.heap.size (i4 ⟨jop, ja, jb, jn⟩) _ rfl (four_row HO1.out jop ja jb jn) Try.underlying24 size_four
  exact ⟨by rw [HYes.out, Int.toNat_natCast, HOo.out]; unfold insVal; rw [HJ.out]; rfl, four_bel HB1.out (Nat.le_refl _) _ _ _ _⟩
end Go.Proofs.Ytihhpgklpichgab.C2
