/- The exact law of InsAt: the walk. -/
import Derived.Test.YtihhpgklpichgabC2q
set_option linter.unusedSimpArgs false
set_option linter.unusedVariables false
namespace Go.Proofs.Ytihhpgklpichgab.C2
open Go.RowKit Pl Ft Mm In Im

theorem eqIns_c (i : IIns) (w : World) : Calls Try.prog 18 #[i.val, i.val] w fun e w' => e = .returned (.bool true) ∧ Below w.heap.size w w' := by
  obtain ⟨op, a, b, n⟩ := i
  unfold IIns.val
  simp only
  go_enter Try.func18, Try.ntmps18
  go_wp2_with fail
  go_ret
  exact ⟨rfl, by have := (Below.refl w.heap.size w).alloc (Nat.le_refl _) (.cells #[.int .i64 op, .int .i64 a, .int .i64 b, .int .i64 n] 24); exact this.alloc this.size _⟩
set_option maxHeartbeats 2000000 in
theorem exactInsAt_w (code : List Int) (v : Value) (at_ : Int) (w : World) (hr : Rd w v code) (hlen : code.length ≤ 9223372036854775807) :
    Calls Try.prog 3 #[v, .int .i64 at_] w fun e w' => e = .returned (.bool true) ∧ Below w.heap.size w w' := by
  have HRd := hid hr
  obtain ⟨a, cap, rfl, _⟩ := hr
  by_cases hsm : code.length ≤ 1048576
  case neg =>
    go_enter Try.func3, Try.ntmps3
    go_wp2_with fail
    go_ret
    exact ⟨rfl, Below.refl _ _⟩
  have HEq := hid (insAt_eq code at_)
  obtain ⟨o, ho⟩ : ∃ o, sinsAt code at_ = o := ⟨_, rfl⟩
  have HO := hid ho
  obtain ⟨⟨jop, ja, jb, jn⟩, hj⟩ : ∃ i, o.getD insZero = i := ⟨_, rfl⟩
  have HV := hid (show insVal o = .tuple #[.agg #[.int .i64 jop, .int .i64 ja, .int .i64 jb, .int .i64 jn], .bool o.isSome] by unfold insVal; rw [hj]; rfl)
  clear ho hj
  go_enter Try.func3, Try.ntmps3
  go_wp2_with fail
  refine (toIntS_c code _ _ HRd.out hsm).mono ?_
  rintro e w1 ⟨v1, rfl, hown1, hb1⟩
  have HOw1 := hid hown1
  have HB1 := hid hb1
  clear hown1 hb1
  go_wp2_with fail
  refine (sInsAt_c code v1 at_ _ (.of_own HOw1.out) (by omega)).mono ?_
  rintro e w2 ⟨rfl, hb2⟩
  have HB2 := hid (HB1.out.trans (hb2.mono HB1.out.size))
  clear hb2
  rw [HO.out, HV.out]
  go_wp2_with fail
  have HX2 := hid (Row.new w2 24 #[.int .i64 jop, .int .i64 ja, .int .i64 jb, .int .i64 jn])
  have HB3 := hid (HB2.out.alloc HB2.out.size (.cells #[.int .i64 jop, .int .i64 ja, .int .i64 jb, .int .i64 jn] 24))
  refine (toIntS_c code _ _ (HRd.out.on HB3.out) hsm).mono ?_
  rintro e w4 ⟨v2, rfl, hown4, hb4⟩
  have HOw4 := hid hown4
  have HB4 := hid (HB3.out.trans (hb4.mono HB3.out.size))
  have HX4 := hid (HX2.out.on hb4)
  have HCap := hid (own_cap hown4)
  obtain ⟨s2, c2, rfl⟩ := own_slice hown4
  have hz4 := hb4.size
  simp only [World.size_alloc] at hz4
  clear hown4 hb4
  go_wp2_with fail
  refine (insAt_c code (.slice s2 code.length c2) at_ _ (.of_own HOw4.out) (fun a n c h => by rw [h] at HCap; exact HCap.out.of) (by omega)).mono ?_
  rintro e w5 ⟨rfl, hb5⟩
  have HB5 := hid (HB4.out.trans (hb5.mono HB4.out.size))
  have HX5 := hid (HX4.out.on hb5)
  have HOw5 := hid (own_on HOw4.out hb5)
  have hz5 := hb5.size
  clear hb5
  rw [HEq.out, HO.out, HV.out]
  have x0 := HX5.out.cell 0
  have x1 := HX5.out.cell 1
  have x2 := HX5.out.cell 2
  have x3 := HX5.out.cell 3
  simp at x0 x1 x2 x3
  have hw25 : w2.heap.size < w5.heap.size := by omega
  go_wp2_with fail
  have HB6 := hid (HB5.out.alloc HB5.out.size (.cells #[.int .i64 jop, .int .i64 ja, .int .i64 jb, .int .i64 jn] 24))
  have HOw6 := hid (HOw5.out.alloc (.cells #[.int .i64 jop, .int .i64 ja, .int .i64 jb, .int .i64 jn] 24))
  refine (eqIns_c ⟨jop, ja, jb, jn⟩ _).mono ?_
  rintro e w7 ⟨rfl, hb7⟩
  have HB7 := hid (HB6.out.trans (hb7.mono HB6.out.size))
  have HOw7 := hid (own_on HOw6.out hb7)
  clear hb7 x0 x1 x2 x3
  cases hb : o.isSome
  all_goals
    clear hb
    go_wp2_with fail
    refine (toIntS_c code _ _ (HRd.out.on HB7.out) hsm).mono ?_
    rintro e w8 ⟨v3, rfl, hown8, hb8⟩
    have HB8 := hid (HB7.out.trans (hb8.mono HB7.out.size))
    have HOw8 := hid (own_on HOw7.out hb8)
    have HOx8 := hid hown8
    clear hown8 hb8
    go_wp2_with fail
    refine (eqIntS_b code (.slice s2 code.length c2) v3 _ (.of_own HOw8.out) (.of_own HOx8.out) (by omega)).mono ?_
    rintro e w9 ⟨rfl, hb9⟩
    have HB9 := hid (HB8.out.trans (hb9.mono HB8.out.size))
    clear hb9
    go_wp2_with fail
    go_ret
    exact ⟨rfl, HB9.out⟩
end Go.Proofs.Ytihhpgklpichgab.C2
