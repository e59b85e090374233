/- FnInsLong: the walk. -/
import Derived.Test.YtemfopbpknljgaaDraw3
import Derived.Test.YtemfopbpknljgaaL2b
set_option linter.unusedSimpArgs false
set_option linter.unusedVariables false
namespace Go.Proofs.Ytemfopbpknljgaa.C2
open Go.RowKit Pl Ft Mm Src

theorem insPut_long {i : IIns} {at_ : Int} {l : List Int} (h : insPut i at_ = some l) : validIns i = true ∧ (l.length : Int) = slong i := by
  unfold insPut at h
  cases hf : formOf i with
  | none => rw [hf] at h; cases h
  | some f =>
    rw [hf] at h
    simp only at h
    split at h
    · split at h
      · simp only [Option.some.injEq] at h
        refine ⟨by rw [← some_valid, hf]; rfl, ?_⟩
        have hp := putList_len (letters f.follows) i (at_ + longOf (letters f.follows))
        rw [← h, ← long_eq hf]
        simp only [List.length_cons]
        omega
      · cases h
    · cases h
theorem slong_bd (i : IIns) : 1 ≤ slong i ∧ slong i ≤ 1000 ∨ 1000 < slong i := by
  have h := longOf_bd (letters (stab.getD i.op.toNat .none).rest)
  unfold slong
  split <;> omega
set_option maxHeartbeats 1000000 in
theorem insLong_w (a : Option Addr) (len cap : Nat) (zs : List Int) (w : World) (hB : Bytes w a len zs) :
    Calls Try.prog 4 #[.slice a len cap] w fun e w' => e = .returned (.bool true) ∧ Below w.heap.size w w' := by
  have hs := hB.small
  have H := hid hB
  clear hB
  go_enter Try.func4, Try.ntmps4
  go_wp2_with fail
  refine (drawInsLong_c a len cap zs w H.out).mono ?_
  rintro e w1 ⟨i, rfl, hsm, b1⟩
  have B1 := hid b1
  clear b1 hsm
  obtain ⟨op, ia, ib, n⟩ := i
  have hlb := slong_bd ⟨op, ia, ib, n⟩
  unfold IIns.val
  simp only
  cases hv : validIns ⟨op, ia, ib, n⟩
  · have HV := hid hv
    clear hv hlb
    go_wp2_with fail
    refine (insLong_c ⟨op, ia, ib, n⟩ _).mono ?_
    rw [HV.out]
    rintro e w2 ⟨rfl, hb2⟩
    have R2 := hid ((Row.new w1 24 #[.int .i64 op, .int .i64 ia, .int .i64 ib, .int .i64 n]).on hb2)
    have B2 := hid ((B1.out.alloc B1.out.size _).trans (hb2.mono (by have := B1.out.size; simp; omega)))
    clear hb2
    have o0 := R2.out.cell 0
    have o1 := R2.out.cell 1
    have o2 := R2.out.cell 2
    have o3 := R2.out.cell 3
    simp at o0 o1 o2 o3
    go_wp2_with fail
    refine (sInsLong_c ⟨op, ia, ib, n⟩ _).mono ?_
    rw [HV.out]
    rintro e w3 ⟨rfl, hb3⟩
    have B3 := hid (B2.out.trans (hb3.mono B2.out.size))
    clear hb3 o0 o1 o2 o3
    go_wp2_with fail
    go_ret
    exact ⟨rfl, B3.out⟩
  · have HV := hid hv
    clear hv
    obtain ⟨sl, hsl⟩ : ∃ x, slong ⟨op, ia, ib, n⟩ = x := ⟨_, rfl⟩
    rw [hsl] at hlb
    have HSL := hid hsl
    clear hsl
    have hsl0 : 1 ≤ sl := by omega
    clear hlb
    go_wp2_with fail
    refine (insLong_c ⟨op, ia, ib, n⟩ _).mono ?_
    rw [HV.out, if_pos rfl, HSL.out]
    rintro e w2 ⟨rfl, hb2⟩
    have R2 := hid ((Row.new w1 24 #[.int .i64 op, .int .i64 ia, .int .i64 ib, .int .i64 n]).on hb2)
    have B2 := hid ((B1.out.alloc B1.out.size _).trans (hb2.mono (by have := B1.out.size; simp; omega)))
    clear hb2
    have o0 := R2.out.cell 0
    have o1 := R2.out.cell 1
    have o2 := R2.out.cell 2
    have o3 := R2.out.cell 3
    simp at o0 o1 o2 o3
    go_wp2_with fail
    refine (sInsLong_c ⟨op, ia, ib, n⟩ _).mono ?_
    rw [HV.out, if_pos rfl, HSL.out]
    rintro e w3 ⟨rfl, hb3⟩
    have R3 := hid (R2.out.on hb3)
    have B3 := hid (B2.out.trans (hb3.mono B2.out.size))
    clear hb3 o0 o1 o2 o3
    have o0 := R3.out.cell 0
    have o1 := R3.out.cell 1
    have o2 := R3.out.cell 2
    have o3 := R3.out.cell 3
    simp at o0 o1 o2 o3
    obtain ⟨o, ho⟩ : ∃ o, insPut ⟨op, ia, ib, n⟩ 0 = o := ⟨_, rfl⟩
    have HO := hid ho
    clear ho
    go_wp2_with fail
    refine (insPut_c ⟨op, ia, ib, n⟩ 0 _).mono ?_
    rw [HO.out]
    rintro e w4 ⟨v, rfl, hb4, hnil, hown⟩
    have B4 := hid (B3.out.trans (hb4.mono B3.out.size))
    clear o0 o1 o2 o3
    cases o with
    | none =>
      clear hb4 hnil hown
      go_wp2_with fail
      go_ret
      exact ⟨rfl, B4.out⟩
    | some l =>
      obtain ⟨va, vcap, rfl⟩ := own_slice (hown l rfl)
      have hll := (insPut_long HO.out).2
      rw [HSL.out] at hll
      subst hll
      clear hb4 hnil hown
      go_wp2_with fail
      go_ret
      exact ⟨bool_eq (by simp), B4.out⟩
end Go.Proofs.Ytemfopbpknljgaa.C2
