/- Whether an image is one, by the model: validImage, ImageOk. -/
import Derived.Test.YtadcepgeodcacaaDoorIm4
set_option linter.unusedSimpArgs false
set_option linter.unusedVariables false
namespace Go.Proofs.YtadcepgeodcacaaDoor.Im
open Go.RowKit Pl Ft Mm In C2

theorem imageOk_eq (m : Img) : imageOk m = (isCode m.code && (inRange m.entry 0 ((m.code.length : Int) - 1) && (inRange m.room 0 64 && (decide ((m.data.length : Int) ≤ m.room) && (m.data.all isByte && namesOk m.names m.code.length))))) := by
  unfold imageOk codeOk memOk
  rw [inRange_place]
  have e : inRange m.room 0 64 = (decide (0 ≤ m.room) && decide (m.room ≤ 64)) := by simp [inRange]
  rw [e]
  by_cases h : 0 < m.code.length
  · rw [decide_eq_true h]
    simp only [Bool.true_and, Bool.and_assoc]
  · have h0 : m.code.length = 0 := by omega
    rw [decide_eq_false h, h0]
    have : (decide (0 ≤ m.entry) && decide (m.entry < ((0 : Nat) : Int))) = false := by
      rw [Bool.and_eq_false_iff, decide_eq_false_iff_not, decide_eq_false_iff_not]
      omega
    rw [this]
    simp
set_option maxHeartbeats 1000000 in
theorem validImage_c (m : Img) (vc vd vn : Value) (w : World) (h : ICells w vc vd vn m) (hs : Sm m) :
    Calls Tryd.prog 26 #[imgVal vc vd vn m] w fun e w' => e = .returned (.bool (imageOk m)) ∧ Below w.heap.size w w' := by
  obtain ⟨ac, cc, rfl⟩ := rd_slice h.c
  obtain ⟨ad, cd, rfl⟩ := rd_slice h.d
  obtain ⟨an, cn, rfl⟩ := nrd_slice h.n
  have hlc := hs.c
  have hld := hs.d
  have hln := hs.n
  have HI := hid (h.alloc (.cells #[.slice ac m.code.length cc, .int .i64 m.entry, .int .i64 m.room, .slice ad m.data.length cd, .slice an m.names.length cn] 40))
  have HS := hid hs
  have HB0 := hid ((Below.refl w.heap.size w).alloc (Nat.le_refl _) (.cells #[.slice ac m.code.length cc, .int .i64 m.entry, .int .i64 m.room, .slice ad m.data.length cd, .slice an m.names.length cn] 40))
  have HQ := hid (imageOk_eq m)
  clear h hs
  have hV : imgVal (.slice ac m.code.length cc) (.slice ad m.data.length cd) (.slice an m.names.length cn) m = .agg #[.slice ac m.code.length cc, .int .i64 m.entry, .int .i64 m.room, .slice ad m.data.length cd, .slice an m.names.length cn] := rfl
  rw [hV]
  clear hV
  cases h1 : isCode m.code
  · have H1 := hid h1
    clear h1
    go_enter Tryd.func26, Tryd.ntmps26
    go_wp2_with (go_at_call 54; refine (sIsCode_c m.code _ _ HI.out.c (by omega)).mono ?_; rw [H1.out]; rintro e w' ⟨rfl, rfl⟩)
    go_ret
    exact ⟨bool_eq (by rw [HQ.out, H1.out]; rfl), HB0.out⟩
  have H1 := hid h1
  clear h1
  cases h2 : inRange m.entry 0 ((m.code.length : Int) - 1)
  · have H2 := hid h2
    clear h2
    go_enter Tryd.func26, Tryd.ntmps26
    go_wp2_with (first | (go_at_call 54; refine (sIsCode_c m.code _ _ HI.out.c (by omega)).mono ?_; rw [H1.out]; rintro e w' ⟨rfl, rfl⟩) | (go_at_call 27; refine (inR_c _ _ _ _).mono ?_; rw [H2.out]; rintro e w' ⟨rfl, rfl⟩))
    go_ret
    exact ⟨bool_eq (by rw [HQ.out, H1.out, H2.out]; rfl), HB0.out⟩
  have H2 := hid h2
  clear h2
  cases h3 : inRange m.room 0 64
  · have H3 := hid h3
    clear h3
    go_enter Tryd.func26, Tryd.ntmps26
    go_wp2_with (first | (go_at_call 54; refine (sIsCode_c m.code _ _ HI.out.c (by omega)).mono ?_; rw [H1.out]; rintro e w' ⟨rfl, rfl⟩) | (go_at_call 27; refine (inR_c _ _ _ _).mono ?_; (first | rw [H2.out] | rw [H3.out]); rintro e w' ⟨rfl, rfl⟩))
    go_ret
    exact ⟨bool_eq (by rw [HQ.out, H1.out, H2.out, H3.out]; rfl), HB0.out⟩
  have H3 := hid h3
  clear h3
  by_cases h4 : (m.data.length : Int) ≤ m.room
  · have H4 := hid h4
    cases h5 : m.data.all isByte
    · have H5 := hid h5
      clear h5
      go_enter Tryd.func26, Tryd.ntmps26
      go_wp2_with (first | (go_at_call 54; refine (sIsCode_c m.code _ _ HI.out.c (by omega)).mono ?_; rw [H1.out]; rintro e w' ⟨rfl, rfl⟩) | (go_at_call 27; refine (inR_c _ _ _ _).mono ?_; (first | rw [H2.out] | rw [H3.out]); rintro e w' ⟨rfl, rfl⟩) | (go_at_call 55; refine (sAreBytes_c m.data _ _ HI.out.d (by omega)).mono ?_; rw [H5.out]; rintro e w' ⟨rfl, rfl⟩))
      go_ret
      exact ⟨bool_eq (by rw [HQ.out, H1.out, H2.out, H3.out, H5.out]; simp), HB0.out⟩
    · have H5 := hid h5
      clear h5
      go_enter Tryd.func26, Tryd.ntmps26
      go_wp2_with (first | (go_at_call 54; refine (sIsCode_c m.code _ _ HI.out.c (by omega)).mono ?_; rw [H1.out]; rintro e w' ⟨rfl, rfl⟩) | (go_at_call 27; refine (inR_c _ _ _ _).mono ?_; (first | rw [H2.out] | rw [H3.out]); rintro e w' ⟨rfl, rfl⟩) | (go_at_call 55; refine (sAreBytes_c m.data _ _ HI.out.d (by omega)).mono ?_; rw [H5.out]; rintro e w' ⟨rfl, rfl⟩))
      refine (validNames_c m.names m.code.length _ _ HI.out.n hln hlc HS.out.t).mono ?_
      rintro e w1 ⟨rfl, hb1⟩
      have HB1 := hid (HB0.out.trans (hb1.mono HB0.out.size))
      clear hb1
      go_wp2_with fail
      go_ret
      exact ⟨bool_eq (by rw [HQ.out, H1.out, H2.out, H3.out, H5.out, decide_eq_true H4.out]; simp), HB1.out⟩
  · have H4 := hid h4
    go_enter Tryd.func26, Tryd.ntmps26
    go_wp2_with (first | (go_at_call 54; refine (sIsCode_c m.code _ _ HI.out.c (by omega)).mono ?_; rw [H1.out]; rintro e w' ⟨rfl, rfl⟩) | (go_at_call 27; refine (inR_c _ _ _ _).mono ?_; (first | rw [H2.out] | rw [H3.out]); rintro e w' ⟨rfl, rfl⟩))
    go_ret
    exact ⟨bool_eq (by rw [HQ.out, H1.out, H2.out, H3.out, decide_eq_false (by have := H4.out; omega : ¬ (m.data.length : Int) ≤ m.room)]; simp), HB0.out⟩
end Go.Proofs.YtadcepgeodcacaaDoor.Im
