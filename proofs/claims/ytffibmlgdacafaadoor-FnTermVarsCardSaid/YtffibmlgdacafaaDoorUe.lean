/- termSize, validTerm, TermOk of the model. -/
import Derived.Test.YtffibmlgdacafaaDoorUd
set_option linter.unusedSimpArgs false
set_option linter.unusedVariables false
namespace Go.Proofs.YtffibmlgdacafaaDoor.Um
open Go.RowKit Pl Ft Mm In C2 Im

set_option maxRecDepth 100000 in
set_option maxHeartbeats 4000000 in
theorem termSize_c (n : Nat) : ∀ (t : Tm) (kv : Value) (w : World), KRd w n kv t.kids → t.wide ≤ 1048576 →
    Calls Tryd.prog 75 #[tmVal t kv] w fun e w' => e = .returned (.int .i64 t.size) ∧ Below w.heap.size w w' := by
  induction n using Nat.strongRecOn with
  | _ n ih =>
  intro t kv w hr hw
  have HI := hid ih
  clear ih
  have hW := wide_eq t
  have hS := size_eq t
  have hSw := size_wide t
  obtain ⟨a, cap, rfl⟩ := hr.slice
  have HR := hid hr
  clear hr
  obtain ⟨x0, hx0⟩ : ∃ x, t.kind = x := ⟨_, rfl⟩
  obtain ⟨x1, hx1⟩ : ∃ x, t.num = x := ⟨_, rfl⟩
  obtain ⟨x2, hx2⟩ : ∃ x, t.text = x := ⟨_, rfl⟩
  have HV := hid (show ∀ u, tmVal t u = .agg #[.int .i64 x0, .int .i64 x1, .string x2, u] by intro u; rw [tmVal, hx0, hx1, hx2])
  have HW := hid hW
  have HS := hid hS
  have hkl : t.kids.length ≤ 1048576 := by omega
  obtain ⟨z0, hz0⟩ : ∃ z : Int, (t.size : Int) = z := ⟨_, rfl⟩
  have HZ := hid hz0
  have hzb : z0 ≤ 1048577 := by omega
  rw [hz0]
  obtain ⟨ks, hks⟩ : ∃ l, t.kids = l := ⟨_, rfl⟩
  rw [HV.out]
  clear hx0 hx1 hx2 hW hS hSw hz0
  rw [hks] at HR HW HS hkl ⊢
  clear hks
  have HB0 := hid ((Below.refl w.heap.size w).alloc (Nat.le_refl _) (.cells #[.int .i64 x0, .int .i64 x1, .string x2, .slice a ks.length cap] 28))
  have HX0 := hid (Row.new w 28 #[.int .i64 x0, .int .i64 x1, .string x2, .slice a ks.length cap])
  go_enter Tryd.func75, Tryd.ntmps75
  go_wp2_with fail
  go_loopw [3, 4] (fun y c wr => ∃ (k : Nat) (x : Int), c = .int .i64 k ∧ y = .int .i64 x ∧ k ≤ ks.length ∧ x = 1 + (sizes (ks.take k) : Int) ∧ Row wr w.heap.size 28 #[.int .i64 x0, .int .i64 x1, .string x2, .slice a ks.length cap] ∧ Below w.heap.size w wr) (fun _ c _ => ks.length - (intOf c).toNat)
  case atStart => exact ⟨0, 1, rfl, rfl, by omega, by simp [sizes_nil], HX0.out, HB0.out⟩
  case round =>
    obtain ⟨k, x, rfl, rfl, hk, hx, hrow, hbel⟩ := hrel
    have HBe := hid hbel
    have HRow := hid hrow
    have HX := hid hx
    have hz := hbel.size
    have b3 := hrow.cell 3
    simp at b3
    have hxb : 1 ≤ x ∧ x ≤ z0 := by have := sizes_take_le ks k; have := HS.out; have := HZ.out; omega
    obtain ⟨hx1, hx2⟩ := hxb
    clear hrow hx
    by_cases hlt : k < ks.length
    · obtain ⟨m, b, o, cap', rfl, hv, hg, hc⟩ := HR.out.cells (by omega)
      simp only [Value.slice.injEq, true_and] at hv
      obtain ⟨rfl, rfl⟩ := hv
      obtain ⟨u, c0, c1, c2, c3, hru⟩ := hc k hlt
      have q0 := (HBe.out.cell (p := ⟨b, o + k * 4, none⟩) hg).trans c0
      have q1 := (HBe.out.cell (p := ⟨b, o + k * 4 + 1, none⟩) hg).trans c1
      have q2 := (HBe.out.cell (p := ⟨b, o + k * 4 + 2, none⟩) hg).trans c2
      have q3 := (HBe.out.cell (p := ⟨b, o + k * 4 + 3, none⟩) hg).trans c3
      have hwk := wides_at ks k hlt
      have HWk := hid (show (ks.getD k tz).wide ≤ 1048576 by have := HW.out; omega)
      have hsn := sizes_snoc ks k hlt
      have hle := sizes_take_le ks (k + 1)
      clear hwk
      obtain ⟨t2, ht⟩ : ∃ t, ks.getD k tz = t := ⟨_, rfl⟩
      rw [ht] at q0 q1 q2 hru HWk hsn
      have HRu := hid (hru.on HBe.out)
      clear hc c0 c1 c2 c3 hru ht
      have hsb : (t2.size : Int) + x ≤ z0 := by have := HX.out; have := HS.out; have := HZ.out; omega
      have HSn := hid hsn
      clear hsn hle
      obtain ⟨y0, hy0'⟩ : ∃ x, t2.kind = x := ⟨_, rfl⟩
      obtain ⟨y1, hy1'⟩ : ∃ x, t2.num = x := ⟨_, rfl⟩
      obtain ⟨y2, hy2'⟩ : ∃ x, t2.text = x := ⟨_, rfl⟩
      have HV2 := hid (show ∀ u, tmVal t2 u = .agg #[.int .i64 y0, .int .i64 y1, .string y2, u] by intro u; rw [tmVal, hy0', hy1', hy2'])
      rw [hy0'] at q0
      rw [hy1'] at q1
      rw [hy2'] at q2
      clear hy0' hy1' hy2' hbel
      go_wp2_with fail
      rw [← HV2.out]
      refine (HI.out m (by omega) t2 u _ HRu.out HWk.out).mono ?_
      rintro e w2 ⟨rfl, hb2⟩
      have HB2 := hid (HBe.out.trans (hb2.mono hz))
      have HR2 := hid (HRow.out.on hb2)
      clear hb2 q0 q1 q2 q3 b3
      obtain ⟨s2, hs2⟩ : ∃ s : Int, (t2.size : Int) = s := ⟨_, rfl⟩
      rw [hs2] at hsb ⊢
      have hs0 : 0 ≤ s2 := by omega
      have HS2 := hid hs2
      clear hs2
      go_wp2_with fail
      go_roundw
      case rel => exact ⟨k + 1, x + s2, by go_num, rfl, by omega, by have := HX.out; have := HSn.out; have := HS2.out; omega, HR2.out, HB2.out⟩
      case measure => simp [intOf]; omega
    · obtain rfl : k = ks.length := by omega
      have hxe : x = z0 := by
        have h1 := HX.out; have h2 := HS.out; have h3 := HZ.out
        rw [List.take_length] at h1
        omega
      have HXe := hid hxe
      clear hbel hxe
      go_wp2_with fail
      go_ret
      exact ⟨int_eq HXe.out, HBe.out⟩
theorem validTerm_c (n : Nat) (t : Tm) (kv : Value) (w : World) (hr : KRd w n kv t.kids) (hw : t.wide ≤ 1048576) :
    Calls Tryd.prog 35 #[tmVal t kv] w fun e w' => e = .returned (.bool (termOk t)) ∧ Below w.heap.size w w' := by
  have HR := hid hr
  have HE := hid (show termOk t = (shape 14 t && decide ((t.size : Int) ≤ 60)) by rw [termOk]; congr 1; rw [Bool.eq_iff_iff]; simp; omega)
  have hsw := size_wide t
  obtain ⟨a, cap, rfl⟩ := hr.slice
  clear hr
  obtain ⟨x0, hx0⟩ : ∃ x, t.kind = x := ⟨_, rfl⟩
  obtain ⟨x1, hx1⟩ : ∃ x, t.num = x := ⟨_, rfl⟩
  obtain ⟨x2, hx2⟩ : ∃ x, t.text = x := ⟨_, rfl⟩
  have HV := hid (show ∀ u, tmVal t u = .agg #[.int .i64 x0, .int .i64 x1, .string x2, u] by intro u; rw [tmVal, hx0, hx1, hx2])
  rw [HV.out]
  clear hx0 hx1 hx2
  obtain ⟨lk, hlk⟩ : ∃ l, t.kids.length = l := ⟨_, rfl⟩
  rw [hlk] at HR ⊢
  clear hlk
  have HB0 := hid ((Below.refl w.heap.size w).alloc (Nat.le_refl _) (.cells #[.int .i64 x0, .int .i64 x1, .string x2, .slice a lk cap] 28))
  have HX0 := hid (Row.new w 28 #[.int .i64 x0, .int .i64 x1, .string x2, .slice a lk cap])
  go_enter Tryd.func35, Tryd.ntmps35
  go_wp2_with fail
  rw [← HV.out]
  refine (validShape_c 14 n t _ 14 _ (HR.out.on HB0.out) hw rfl (by omega)).mono ?_
  rintro e w1 ⟨rfl, hb1⟩
  have HB1 := hid (HB0.out.trans (hb1.mono HB0.out.size))
  have hX1 := HX0.out.on hb1
  have b0 := hX1.cell 0
  have b1 := hX1.cell 1
  have b2 := hX1.cell 2
  have b3 := hX1.cell 3
  simp at b0 b1 b2 b3
  clear hb1 hX1
  cases hs : shape 14 t
  · have HS := hid hs
    clear hs
    go_wp2_with fail
    go_ret
    exact ⟨bool_eq (by rw [HE.out, HS.out]; rfl), HB1.out⟩
  · have HS := hid hs
    clear hs
    go_wp2_with fail
    rw [← HV.out]
    refine (termSize_c n t _ _ (HR.out.on HB1.out) hw).mono ?_
    rintro e w2 ⟨rfl, hb2⟩
    have HB2 := hid (HB1.out.trans (hb2.mono HB1.out.size))
    clear hb2
    obtain ⟨s2, hs2⟩ : ∃ s : Int, (t.size : Int) = s := ⟨_, rfl⟩
    rw [hs2] at HE ⊢
    clear hs2
    go_wp2_with fail
    go_ret
    exact ⟨bool_eq (by rw [HE.out, HS.out]; rfl), HB2.out⟩
end Go.Proofs.YtffibmlgdacafaaDoor.Um
