/- The model's isJump, long, InsLong: what they return. -/
import Derived.Test.YtihhpgklpichgaaGreatC2t
import Derived.Test.YtihhpgklpichgaaGreatFormTab
set_option linter.unusedSimpArgs false
set_option linter.unusedVariables false
namespace Go.Proofs.YtihhpgklpichgaaGreat.C2
open Go.RowKit Pl Ft Mm

theorem isJump_c (i : IIns) (w : World) : Calls Tryz.prog 108 #[i.val] w fun e w' => e = .returned (.bool (isJump i)) ∧ Below w.heap.size w w' := by
  obtain ⟨op, a, b, n⟩ := i
  unfold IIns.val
  simp only
  have c1 := hid ((Below.refl w.heap.size w).alloc (Nat.le_refl _) (.cells #[.int .i64 op, .int .i64 a, .int .i64 b, .int .i64 n] 70))
  cases h1 : op == 27
  · cases h2 : op == 28
    all_goals
      go_enter Tryz.func108, Tryz.ntmps108
      go_wp2
      go_ret
      exact ⟨bool_eq (by simp [isJump, h1, h2]), c1.out⟩
  · go_enter Tryz.func108, Tryz.ntmps108
    go_wp2
    go_ret
    exact ⟨bool_eq (by simp [isJump, h1]), c1.out⟩
theorem stab_rest : ∀ k, k ≤ 30 → (stab.getD k .none).rest.size ≤ 2 := by decide +kernel
set_option maxHeartbeats 1000000 in
theorem long_c (i : IIns) (h0 : 0 ≤ i.op) (h30 : i.op ≤ 30) (w : World) :
    Calls Tryz.prog 65 #[i.val] w fun e w' => e = .returned (.int .i64 (slong i)) ∧ Below w.heap.size w w' := by
  obtain ⟨op, a, b, n⟩ := i
  simp only at h0 h30
  unfold IIns.val
  simp only
  have c1 := (Below.refl w.heap.size w).alloc (Nat.le_refl _) (.cells #[.int .i64 op, .int .i64 a, .int .i64 b, .int .i64 n] 70)
  have HC1 := hid c1
  clear c1
  obtain ⟨k, rfl⟩ := Int.eq_ofNat_of_zero_le h0
  have hk30 : k ≤ 30 := by omega
  have hsz := stab_rest k hk30
  obtain ⟨f, hf⟩ : ∃ f, stab.getD k .none = f := ⟨_, rfl⟩
  rw [hf] at hsz
  have HF := hid hf
  clear hf
  go_enter Tryz.func65, Tryz.ntmps65
  go_upto_region 1 with fail
  go_cut [3] (fun s3 wx => ∃ g : Nat, s3 = .pointer (some ⟨g, 0, none⟩) ∧ Got (w.alloc (.cells #[.int .i64 k, .int .i64 a, .int .i64 b, .int .i64 n] 70)) f g wx)
  case first =>
    go_region_with (go_at_call 106; refine (sforms_c _).mono ?_; rintro e w1 ⟨g, cap, rfl, hown, hb⟩; have hff := sforms_at hk30 hown; rw [HF.out] at hff; obtain ⟨f0, f1, f2, f3, f4, f5, f6, fl⟩ := hff; obtain ⟨hc, hf⟩ := bcell hb; have hz : w.heap.size < w1.heap.size := (by have := hb.size; simp at this; omega); have HB := hid hb; clear hown hb)
    all_goals
      go_wp2_with fail
      go_meet
      first | exact ⟨_, rfl, .way1 HB.out⟩ | exact ⟨_, rfl, .way2 (by simp) HB.out⟩
  case rest =>
    obtain ⟨g, rfl, hg, hrow, hbel⟩ := hcut
    have hins := ((Row.new w 70 #[.int .i64 k, .int .i64 a, .int .i64 b, .int .i64 n]).on hbel)
    have HB := hid (HC1.out.trans (hbel.mono (by simp)))
    have i1 := hins.cell 1
    have i2 := hins.cell 2
    have i3 := hins.cell 3
    have i0 := hins.cell 0
    simp at i0 i1 i2 i3
    have hgl := hrow.lt
    have hiz := hins.lt
    have HRow := hid hrow
    clear hins hrow hbel hg
    cases hj : isJump ⟨k, a, b, n⟩
    · have HJ := hid hj
      clear hj
      go_wp2_with (go_at_call 108; refine (isJump_c ⟨k, a, b, n⟩ _).mono ?_; rw [HJ.out]; rintro e w2 ⟨rfl, hb2⟩; have HB2 := hid hb2; clear hb2)
      have hfr := (HRow.out.on HB2.out).cell 6
      simp [SForm.cells] at hfr
      have hsl : slong ⟨k, a, b, n⟩ = longOf (letters f.rest) := by
        have h := HF.out
        simp only [List.getD_eq_getElem?_getD] at h
        simp [slong, HJ.out, h]
      have HSL := hid hsl
      clear hsl i0 i1 i2 i3
      go_loop [4, 5] (fun s c => ∃ j : Nat, j ≤ f.rest.size ∧ c = .int .i64 j ∧ s = .int .i64 (longOf ((letters f.rest).take j))) (fun _ c => f.rest.size - (intOf c).toNat)
      case atStart => exact ⟨0, by omega, rfl, by simp [longOf]⟩
      case round =>
        obtain ⟨j, hj, rfl, rfl⟩ := hrel
        have hbd := longOf_bd ((letters f.rest).take j)
        have hln : ((letters f.rest).take j).length ≤ j := List.length_take_le _ _
        by_cases hlt : j < f.rest.size
        · have hsucc := longOf_succ (letters f.rest) j (by rw [letters_len]; exact hlt)
          rw [letters_get f.rest j hlt] at hsucc
          have HS := hid hsucc
          clear hsucc
          cases h119 : ((f.rest[j].toNat : Int) == 119)
          all_goals
            have H1 := hid h119
            go_wp2_with fail
            go_round
            case rel => exact ⟨j + 1, by omega, by go_num, by rw [HS.out]; have := H1.out; simp at this; simp only [letterLong]; split <;> first | omega | go_num⟩
            case measure => simp [intOf]; omega
        · obtain rfl : j = f.rest.size := by omega
          have he : (letters f.rest).take f.rest.size = letters f.rest := List.take_of_length_le (by rw [letters_len]; exact Nat.le_refl _)
          have HE := hid he
          clear he
          go_wp2_with fail
          go_ret
          exact ⟨int_eq (by rw [HE.out, HSL.out]), HB.out.trans (HB2.out.mono HB.out.size)⟩
    · have HJ := hid hj
      clear hj
      have hfr0 := HRow.out.cell 6
      simp [SForm.cells] at hfr0
      cases ha : a == 1
      · have HA := hid ha
        have hsl : slong ⟨k, a, b, n⟩ = longOf (letters f.rest) := by
          have h := HF.out
          simp only [List.getD_eq_getElem?_getD] at h
          simp [slong, HJ.out, ha, h]
        have HSL := hid hsl
        clear hsl
        go_wp2_with (go_at_call 108; refine (isJump_c ⟨k, a, b, n⟩ _).mono ?_; rw [HJ.out]; rintro e w2 ⟨rfl, hb2⟩; have i1' := (hb2.cell (p := ⟨w.heap.size, 1, none⟩) hiz).trans i1; have HB2 := hid hb2; clear hb2)
        have hfr := (HRow.out.on HB2.out).cell 6
        simp [SForm.cells] at hfr
        clear i0 i1 i2 i3 ha i1'
        go_loop [4, 5] (fun s c => ∃ j : Nat, j ≤ f.rest.size ∧ c = .int .i64 j ∧ s = .int .i64 (longOf ((letters f.rest).take j))) (fun _ c => f.rest.size - (intOf c).toNat)
        case atStart => exact ⟨0, by omega, rfl, by simp [longOf]⟩
        case round =>
          obtain ⟨j, hj, rfl, rfl⟩ := hrel
          have hbd := longOf_bd ((letters f.rest).take j)
          have hln : ((letters f.rest).take j).length ≤ j := List.length_take_le _ _
          by_cases hlt : j < f.rest.size
          · have hsucc := longOf_succ (letters f.rest) j (by rw [letters_len]; exact hlt)
            rw [letters_get f.rest j hlt] at hsucc
            have HS := hid hsucc
            clear hsucc
            cases h119 : ((f.rest[j].toNat : Int) == 119)
            all_goals
              have H1 := hid h119
              go_wp2_with fail
              go_round
              case rel => exact ⟨j + 1, by omega, by go_num, by rw [HS.out]; have := H1.out; simp at this; simp only [letterLong]; split <;> first | omega | go_num⟩
              case measure => simp [intOf]; omega
          · obtain rfl : j = f.rest.size := by omega
            have he : (letters f.rest).take f.rest.size = letters f.rest := List.take_of_length_le (by rw [letters_len]; exact Nat.le_refl _)
            have HE := hid he
            clear he
            go_wp2_with fail
            go_ret
            exact ⟨int_eq (by rw [HE.out, HSL.out]), HB.out.trans (HB2.out.mono HB.out.size)⟩
      · obtain rfl : a = 1 := by simpa using ha
        clear ha
        have hsl : slong ⟨k, 1, b, n⟩ = 3 := by simp [slong, HJ.out]
        have HSL := hid hsl
        clear hsl
        go_wp2_with (go_at_call 108; refine (isJump_c ⟨k, 1, b, n⟩ _).mono ?_; rw [HJ.out]; rintro e w2 ⟨rfl, hb2⟩; have i1' := (hb2.cell (p := ⟨w.heap.size, 1, none⟩) hiz).trans i1; have HB2 := hid hb2; clear hb2)
        go_ret
        exact ⟨int_eq HSL.out.symm, HB.out.trans (HB2.out.mono HB.out.size)⟩
end Go.Proofs.YtihhpgklpichgaaGreat.C2
