/- The model's InsPut; the exact law of InsPut: the walk. -/
import Derived.Test.YtemfopbpknljgaaL2
import Derived.Test.YtemfopbpknljgaaC2v
import Derived.Test.YtemfopbpknljgaaFormLem3
import Derived.Test.YtemfopbpknljgaaInts
set_option linter.unusedSimpArgs false
set_option linter.unusedVariables false
namespace Go.Proofs.Ytemfopbpknljgaa.C2
open Go.RowKit Pl Ft Mm In

theorem sInsPut_c (i : IIns) (at_ : Int) (w : World) : Calls Try.prog 20 #[i.val, .int .i64 at_] w (PutPost (insPut i at_) w) := by
  have heq := sput_eq i at_
  have HE := hid heq
  clear heq
  cases hv : validIns i
  · have hno : insPut i at_ = none := by rw [← HE.out, hv]; rfl
    have HN := hid hno
    have HV := hid hv
    clear hv hno
    obtain ⟨op, a, b, n⟩ := i
    unfold IIns.val
    simp only
    go_enter Try.func20, Try.ntmps20
    go_wp2_with fail
    refine (validIns_c ⟨op, a, b, n⟩ _).mono ?_
    rw [HV.out]
    rintro e w1 ⟨rfl, hb⟩
    have HB := hid (((Below.refl _ _).alloc (Nat.le_refl _) _).trans (hb.mono (by simp)))
    clear hb
    go_wp2_with fail
    go_ret2
    exact putPost_no HN.out HB.out
  · have HV := hid hv
    cases hin : inRange at_ 0 1999
    · have hno : insPut i at_ = none := by rw [← HE.out, hv, hin]; rfl
      have HN := hid hno
      have HIn := hid hin
      clear hv hno hin
      obtain ⟨op, a, b, n⟩ := i
      unfold IIns.val
      simp only
      go_enter Try.func20, Try.ntmps20
      go_wp2_with (first | (go_at_call 33; refine (validIns_c ⟨op, a, b, n⟩ _).mono ?_; rw [HV.out]; rintro e w1 ⟨rfl, hb⟩; have HB := hid hb; clear hb) | (go_at_call 43; refine (inR_c _ _ _ _).mono ?_; rw [HIn.out]; rintro e w' ⟨rfl, rfl⟩))
      go_ret2
      exact putPost_no HN.out (((Below.refl _ _).alloc (Nat.le_refl _) _).trans (HB.out.mono (by simp)))
    · have hsp : sput i at_ = insPut i at_ := by rw [← HE.out, hv, hin]; rfl
      have hat : 0 ≤ at_ ∧ at_ ≤ 1999 := by simpa [inRange] using hin
      have HS := hid hsp
      have HIn := hid hin
      clear hv hsp hin
      obtain ⟨hat0, hat1⟩ := hat
      obtain ⟨op, a, b, n⟩ := i
      unfold IIns.val
      simp only
      go_enter Try.func20, Try.ntmps20
      go_wp2_with fail
      refine (validIns_c ⟨op, a, b, n⟩ _).mono ?_
      rw [HV.out]
      rintro e w1 ⟨rfl, hb⟩
      have hr := (Row.new w 24 #[.int .i64 op, .int .i64 a, .int .i64 b, .int .i64 n]).on hb
      have i0 := hr.cell 0
      have i1 := hr.cell 1
      have i2 := hr.cell 2
      have i3 := hr.cell 3
      simp at i0 i1 i2 i3
      have HB := hid (((Below.refl _ _).alloc (Nat.le_refl _) _).trans (hb.mono (by simp)))
      clear hb hr
      go_wp2_with (go_at_call 43; refine (inR_c _ _ _ _).mono ?_; rw [HIn.out]; rintro e w' ⟨rfl, rfl⟩)
      clear i0 i1 i2 i3
      refine (put_c ⟨op, a, b, n⟩ at_ HV.out hat0 hat1 _).mono ?_
      rintro e w2 ⟨v, rfl, hb2, hnil, hown⟩
      rw [HS.out] at hnil hown
      rw [HS.out]
      have HNil := hid hnil
      have HOwn := hid hown
      have HB2 := hid (HB.out.trans (hb2.mono HB.out.size))
      clear hnil hown hb2
      go_wp2_with fail
      go_ret2
      exact ⟨v, rfl, HB2.out, HNil.out, fun l hl => own_mono (HOwn.out l hl) HB.out.size⟩
theorem insPut_len {i : IIns} {at_ : Int} {l : List Int} (h : insPut i at_ = some l) : l.length ≤ 5 := by
  unfold insPut at h
  cases hf : formOf i with
  | none => rw [hf] at h; cases h
  | some f =>
    rw [hf] at h
    simp only at h
    split at h
    · split at h
      · have hs := (form_bounds hf).size
        simp only [Option.some.injEq] at h
        have h1 := putList_len (letters f.follows) i (at_ + longOf (letters f.follows))
        have h2 := longOf_bd (letters f.follows)
        rw [letters_len] at h2
        rw [← h]
        simp only [List.length_cons]
        omega
      · cases h
    · cases h
/-- What InsPut answers reads as a list. -/
theorem PutPost.reads {o : Option (List Int)} {w w' : World} {v : Value} (hnil : o = none → v = .slice none 0 0) (hown : ∀ l, o = some l → w'.ownsRow w.heap.size 3 1 v l.length (ints l)) : w'.ownsRow w.heap.size 3 1 v (o.getD []).length (ints (o.getD [])) := by
  cases o with
  | none => rw [hnil rfl]; exact World.ownsRow_nil _ _ _ _
  | some l => exact hown l rfl
set_option maxHeartbeats 1000000 in
theorem exactInsPut_w (i : IIns) (at_ : Int) (w : World) : Calls Try.prog 9 #[i.val, .int .i64 at_] w fun e w' => e = .returned (.bool true) ∧ Below w.heap.size w w' := by
  obtain ⟨o, ho⟩ : ∃ o, insPut i at_ = o := ⟨_, rfl⟩
  have hlen : (o.getD []).length ≤ 5 := by
    cases o with
    | none => simp
    | some l => exact insPut_len ho
  have HO := hid ho
  clear ho
  obtain ⟨op, a, b, n⟩ := i
  unfold IIns.val
  simp only
  go_enter Try.func9, Try.ntmps9
  go_wp2_with fail
  refine (toIns_c ⟨op, a, b, n⟩ _).mono ?_
  rintro e w1 ⟨rfl, hb1⟩
  have HR1 := hid ((Row.new w 39 #[.int .i64 op, .int .i64 a, .int .i64 b, .int .i64 n]).on hb1)
  have HB1 := hid (((Below.refl _ _).alloc (Nat.le_refl _) _).trans (hb1.mono (by simp)))
  clear hb1
  unfold IIns.val
  simp only
  go_wp2_with fail
  refine (sInsPut_c ⟨op, a, b, n⟩ at_ _).mono ?_
  rw [HO.out]
  rintro e w2 ⟨v0, rfl, hb2, hnil, hown⟩
  have HV0 := hid (PutPost.reads hnil hown)
  have HR2 := hid (HR1.out.on hb2)
  have HB2 := hid (HB1.out.trans (hb2.mono HB1.out.size))
  clear hb2 hnil hown
  have i0 := HR2.out.cell 0
  have i1 := HR2.out.cell 1
  have i2 := HR2.out.cell 2
  have i3 := HR2.out.cell 3
  simp at i0 i1 i2 i3
  go_wp2_with fail
  clear i0 i1 i2 i3
  refine (toIns_c ⟨op, a, b, n⟩ _).mono ?_
  rintro e w3 ⟨rfl, hb3⟩
  have HV3 := hid (own_on HV0.out hb3)
  have HR3 := hid (HR2.out.on hb3)
  have HB3 := hid (HB2.out.trans (hb3.mono HB2.out.size))
  clear hb3
  unfold IIns.val
  simp only
  go_wp2_with fail
  refine (insPut_c ⟨op, a, b, n⟩ at_ _).mono ?_
  rw [HO.out]
  rintro e w4 ⟨v1, rfl, hb4, hnil, hown⟩
  have HG4 := hid (PutPost.reads hnil hown)
  have HV4 := hid (own_on HV3.out hb4)
  have HVlt := hid (fun (g : Nat) hg => (HV3.out.lt g hg).2)
  have HR4 := hid (HR3.out.on hb4)
  have HB4 := hid (HB3.out.trans (hb4.mono HB3.out.size))
  have hz4 := hb4.size
  clear hb4 hnil hown
  go_wp2_with fail
  refine (eqIntS_b (o.getD []) v1 v0 _ (.of_own HG4.out) (.of_own HV4.out) (by omega)).mono ?_
  rintro e w5 ⟨rfl, hb5⟩
  have HG5 := hid (own_on HG4.out hb5)
  have HV5 := hid (own_on HV4.out hb5)
  have HR5 := hid (HR4.out.on hb5)
  have HB5 := hid (HB4.out.trans (hb5.mono HB4.out.size))
  have hz5 := hb5.size
  clear hb5
  go_wp2_with fail
  refine (markIntS_c w3.heap.size (o.getD []) v1 _ HG5.out (by omega)).mono ?_
  rintro e w6 ⟨rfl, hown6, hb6⟩
  have HG6 := hid hown6
  have HV6 := hid (own_below HV5.out HVlt.out hb6)
  have HR6 := hid (HR5.out.below hb6 HR3.out.lt)
  have HB6 := hid (HB5.out.trans (hb6.mono HB3.out.size))
  have hz6 := hb6.size
  clear hown6 hb6
  go_wp2_with fail
  refine (heldIntS_c (o.getD []).length v1 _ (.of_own (by rw [upFrom_len]; exact HG6.out)) (by omega)).mono ?_
  rintro e w7 ⟨rfl, rfl⟩
  have i0 := HR6.out.cell 0
  have i1 := HR6.out.cell 1
  have i2 := HR6.out.cell 2
  have i3 := HR6.out.cell 3
  simp at i0 i1 i2 i3
  go_wp2_with fail
  clear i0 i1 i2 i3
  refine (toIns_c ⟨op, a, b, n⟩ _).mono ?_
  rintro e w8 ⟨rfl, hb8⟩
  have HG8 := hid (own_on HG6.out hb8)
  have HV8 := hid (own_on HV6.out hb8)
  have HB8 := hid (HB6.out.trans (hb8.mono HB6.out.size))
  clear hb8
  unfold IIns.val
  simp only
  go_wp2_with fail
  refine (insPut_c ⟨op, a, b, n⟩ at_ _).mono ?_
  rw [HO.out]
  rintro e w9 ⟨v2, rfl, hb9, hnil, hown⟩
  have HH9 := hid (PutPost.reads hnil hown)
  have HG9 := hid (own_on HG8.out hb9)
  have HV9 := hid (own_on HV8.out hb9)
  have HB9 := hid (HB8.out.trans (hb9.mono HB8.out.size))
  clear hb9 hnil hown
  go_wp2_with fail
  refine (eqIntS_b (o.getD []) v2 v0 _ (.of_own HH9.out) (.of_own HV9.out) (by omega)).mono ?_
  rintro e w10 ⟨rfl, hb10⟩
  have HG10 := hid (own_on HG9.out hb10)
  have HB10 := hid (HB9.out.trans (hb10.mono HB9.out.size))
  clear hb10
  go_wp2_with fail
  refine (heldIntS_c (o.getD []).length v1 _ (.of_own (by rw [upFrom_len]; exact HG10.out)) (by omega)).mono ?_
  rintro e w11 ⟨rfl, rfl⟩
  go_wp2_with fail
  go_ret
  exact ⟨rfl, HB10.out⟩
end Go.Proofs.Ytemfopbpknljgaa.C2
