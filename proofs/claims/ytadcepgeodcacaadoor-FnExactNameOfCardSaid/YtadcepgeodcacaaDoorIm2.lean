/- Whether an image is one, by the program: hasPlace, codeOk, memoryOk, namesOk, ImageOk. -/
import Derived.Test.YtadcepgeodcacaaDoorIm1
import Derived.Test.YtadcepgeodcacaaDoorNm
set_option linter.unusedSimpArgs false
set_option linter.unusedVariables false
namespace Go.Proofs.YtadcepgeodcacaaDoor.Im
open Go.RowKit Pl Ft Mm In C2

theorem hasPlace_c (m : Img) (vc vd vn : Value) (x : Int) (w : World) (h : ICells w vc vd vn m) (hs : Sm m) :
    Calls Tryd.prog 33 #[imgVal vc vd vn m, .int .i64 x] w fun e w' => e = .returned (.bool (decide (0 ≤ x) && decide (x < m.code.length))) ∧ Below w.heap.size w w' := by
  obtain ⟨a, cap, rfl⟩ := rd_slice h.c
  have hc := hs.c
  have HS := hid hs
  have HI := hid h
  clear h hs
  unfold imgVal
  by_cases h0 : 0 ≤ x
  all_goals
    go_enter Tryd.func33, Tryd.ntmps33
    go_wp2_with fail
    go_ret
    exact ⟨bool_eq (by simp [h0]; try (intros; omega)), (Below.refl _ _).alloc (Nat.le_refl _) _⟩
theorem codeOk_c (m : Img) (vc vd vn : Value) (w : World) (h : ICells w vc vd vn m) (hs : Sm m) :
    Calls Tryd.prog 58 #[imgVal vc vd vn m] w fun e w' => e = .returned (.bool (codeOk m)) ∧ Below w.heap.size w w' := by
  obtain ⟨a, cap, rfl⟩ := rd_slice h.c
  have hc := hs.c
  have HS := hid hs
  have HI := hid h
  have HB0 := hid ((Below.refl w.heap.size w).alloc (Nat.le_refl _) (.cells #[.slice a m.code.length cap, .int .i64 m.entry, .int .i64 m.room, vd, vn] 40))
  clear h hs
  unfold imgVal
  by_cases h0 : 0 < m.code.length
  · cases h1 : isCode m.code
    · have H1 := hid h1
      clear h1
      go_enter Tryd.func58, Tryd.ntmps58
      go_wp2_with (go_at_call 71; refine (isCode_c _ _ _ (HI.out.alloc _).c (by omega)).mono ?_; rw [H1.out]; rintro e w' ⟨rfl, rfl⟩)
      go_ret
      exact ⟨bool_eq (by simp [codeOk, H1.out]; try (intros; omega)), HB0.out⟩
    · have H1 := hid h1
      clear h1
      go_enter Tryd.func58, Tryd.ntmps58
      go_wp2_with (go_at_call 71; refine (isCode_c _ _ _ (HI.out.alloc _).c (by omega)).mono ?_; rw [H1.out]; rintro e w' ⟨rfl, rfl⟩)
      refine (hasPlace_c m _ vd vn _ _ (HI.out.alloc _) HS.out).mono ?_
      rintro e w1 ⟨rfl, hb1⟩
      have HB1 := hid (HB0.out.trans (hb1.mono (by simp)))
      clear hb1
      go_wp2_with fail
      go_ret
      exact ⟨bool_eq (by simp [codeOk, h0, H1.out]; try (intros; omega)), HB1.out⟩
  · go_enter Tryd.func58, Tryd.ntmps58
    go_wp2_with fail
    go_ret
    exact ⟨bool_eq (by simp [codeOk, h0]; try (intros; omega)), HB0.out⟩
theorem memOk_c (m : Img) (vc vd vn : Value) (w : World) (h : ICells w vc vd vn m) (hs : Sm m) :
    Calls Tryd.prog 59 #[imgVal vc vd vn m] w fun e w' => e = .returned (.bool (memOk m)) ∧ Below w.heap.size w w' := by
  obtain ⟨a, cap, rfl⟩ := rd_slice h.d
  have hc := hs.d
  have HS := hid hs
  have HI := hid h
  have HB0 := hid ((Below.refl w.heap.size w).alloc (Nat.le_refl _) (.cells #[vc, .int .i64 m.entry, .int .i64 m.room, .slice a m.data.length cap, vn] 40))
  clear h hs
  unfold imgVal
  by_cases h0 : 0 ≤ m.room
  · by_cases h1 : m.room ≤ 64
    · by_cases h2 : (m.data.length : Int) ≤ m.room
      · go_enter Tryd.func59, Tryd.ntmps59
        go_wp2_with (go_at_call 72; refine (areBytes_c _ _ _ (HI.out.alloc _).d (by omega)).mono ?_; rintro e w' ⟨rfl, rfl⟩)
        go_ret
        exact ⟨bool_eq (by simp [memOk, h0, h1, h2]; try (intros; omega)), HB0.out⟩
      · go_enter Tryd.func59, Tryd.ntmps59
        go_wp2_with fail
        go_ret
        exact ⟨bool_eq (by simp [memOk, h0, h1, h2]; try (intros; omega)), HB0.out⟩
    · go_enter Tryd.func59, Tryd.ntmps59
      go_wp2_with fail
      go_ret
      exact ⟨bool_eq (by simp [memOk, h0, h1]; try (intros; omega)), HB0.out⟩
  · go_enter Tryd.func59, Tryd.ntmps59
    go_wp2_with fail
    go_ret
    exact ⟨bool_eq (by simp [memOk, h0]; try (intros; omega)), HB0.out⟩
end Go.Proofs.YtadcepgeodcacaaDoor.Im
