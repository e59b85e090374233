/- The model's InsPut; the exact law of InsPut: the walk. -/
import Derived.Test.YtihhpgklpichgabL2
import Derived.Test.YtihhpgklpichgabC2v
import Derived.Test.YtihhpgklpichgabFormTab
import Derived.Test.YtihhpgklpichgabInts
set_option linter.unusedSimpArgs false
set_option linter.unusedVariables false
namespace Go.Proofs.Ytihhpgklpichgab.C2
open Go.RowKit Pl Ft Mm In

theorem sInsPut_c (i : IIns) (at_ : Int) (w : World) : Calls Try.prog 25 #[i.val, .int .i64 at_] w (PutPost (insPut i at_) w) := by
  have heq := sput_eq i at_
  have HE := hid heq
  clear heq
  cases hv : validIns i
  · have hno : insPut i at_ = none := by rw [← HE.out, hv]; rfl
    have HN := hid hno
    have HV := hid hv
    clear hv hno
    obtain ⟨op, a, b, n⟩ := i
    unfold IIns.val
    simp only
    go_enter Try.func25, Try.ntmps25
    go_wp2_with fail
    refine (validIns_c ⟨op, a, b, n⟩ _).mono ?_
    rw [HV.out]
    rintro e w1 ⟨rfl, hb⟩
    have HB := hid (((Below.refl _ _).alloc (Nat.le_refl _) _).trans (hb.mono (by simp)))
    clear hb
    go_wp2_with fail
    go_ret2
    exact putPost_no HN.out HB.out
  · have HV := hid hv
    cases hin : inRange at_ 0 1999
    · have hno : insPut i at_ = none := by rw [← HE.out, hv, hin]; rfl
      have HN := hid hno
      have HIn := hid hin
      clear hv hno hin
      obtain ⟨op, a, b, n⟩ := i
      unfold IIns.val
      simp only
      go_enter Try.func25, Try.ntmps25
      go_wp2_with (first | (go_at_call 63; refine (validIns_c ⟨op, a, b, n⟩ _).mono ?_; rw [HV.out]; rintro e w1 ⟨rfl, hb⟩; have HB := hid hb; clear hb) | (go_at_call 56; refine (inR_c _ _ _ _).mono ?_; rw [HIn.out]; rintro e w' ⟨rfl, rfl⟩))
      go_ret2
      exact putPost_no HN.out (((Below.refl _ _).alloc (Nat.le_refl _) _).trans (HB.out.mono (by simp)))
    · have hsp : sput i at_ = insPut i at_ := by rw [← HE.out, hv, hin]; rfl
      have hat : 0 ≤ at_ ∧ at_ ≤ 1999 := by simpa [inRange] using hin
      have HS := hid hsp
      have HIn := hid hin
      clear hv hsp hin
      obtain ⟨hat0, hat1⟩ := hat
      obtain ⟨op, a, b, n⟩ := i
      unfold IIns.val
      simp only
      go_enter Try.func25, Try.ntmps25
      go_wp2_with fail
      refine (validIns_c ⟨op, a, b, n⟩ _).mono ?_
      rw [HV.out]
      rintro e w1 ⟨rfl, hb⟩
      have hr := (Row.new w 24 #[.int .i64 op, .int .i64 a, .int .i64 b, .int .i64 n]).on hb
      have i0 := hr.cell 0
      have i1 := hr.cell 1
      have i2 := hr.cell 2
      have i3 := hr.cell 3
      simp at i0 i1 i2 i3
      have HB := hid (((Below.refl _ _).alloc (Nat.le_refl _) _).trans (hb.mono (by simp)))
      clear hb hr
      go_wp2_with (go_at_call 56; refine (inR_c _ _ _ _).mono ?_; rw [HIn.out]; rintro e w' ⟨rfl, rfl⟩)
      clear i0 i1 i2 i3
      refine (put_c ⟨op, a, b, n⟩ at_ HV.out hat0 hat1 _).mono ?_
      rintro e w2 ⟨v, rfl, hb2, hnil, hown⟩
      rw [HS.out] at hnil hown
      rw [HS.out]
      have HNil := hid hnil
      have HOwn := hid hown
      have HB2 := hid (HB.out.trans (hb2.mono HB.out.size))
      clear hnil hown hb2
      go_wp2_with fail
      go_ret2
      exact ⟨v, rfl, HB2.out, HNil.out, fun l hl => own_mono (HOwn.out l hl) HB.out.size⟩
theorem insPut_len {i : IIns} {at_ : Int} {l : List Int} (h : insPut i at_ = some l) : l.length ≤ 5 := by
  unfold insPut at h
  cases hf : formOf i with
  | none => rw [hf] at h; cases h
  | some f =>
    rw [hf] at h
    simp only at h
    split at h
    · split at h
      · have hs := (form_bounds hf).size
        simp only [Option.some.injEq] at h
        have h1 := putList_len (letters f.follows) i (at_ + longOf (letters f.follows))
        have h2 := longOf_bd (letters f.follows)
        rw [letters_len] at h2
        rw [← h]
        simp only [List.length_cons]
        omega
      · cases h
    · cases h
/-- What InsPut answers reads as a list. -/
theorem PutPost.reads {o : Option (List Int)} {w w' : World} {v : Value} (hnil : o = none → v = .slice none 0 0) (hown : ∀ l, o = some l → w'.ownsRow w.heap.size 3 1 v l.length (ints l)) : w'.ownsRow w.heap.size 3 1 v (o.getD []).length (ints (o.getD [])) := by
  cases o with
  | none => rw [hnil rfl]; exact World.ownsRow_nil _ _ _ _
  | some l => exact hown l rfl
end Go.Proofs.Ytihhpgklpichgab.C2
