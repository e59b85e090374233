/- count, within, TermOk of the program. -/
import Derived.Test.YtffibmlgdacafaaDoorUa
set_option linter.unusedSimpArgs false
set_option linter.unusedVariables false
namespace Go.Proofs.YtffibmlgdacafaaDoor.Um
open Go.RowKit Pl Ft Mm In C2 Im

def cntOk (h : Nat) (t : Tm) (most : Int) : Bool := shape h t && decide ((t.size : Int) ≤ most)
def cntVal (h : Nat) (t : Tm) (most : Int) : Value := .tuple #[.int .i64 (if cntOk h t most = true then (t.size : Int) else 0), .bool (cntOk h t most)]
theorem cnt_no {h : Nat} {t : Tm} {most : Int} (hc : cntOk h t most = false) : cntVal h t most = .tuple #[.int .i64 0, .bool false] := by rw [cntVal, hc]; rfl
theorem cnt_yes {h : Nat} {t : Tm} {most : Int} (hc : cntOk h t most = true) : cntVal h t most = .tuple #[.int .i64 t.size, .bool true] := by rw [cntVal, hc]; rfl
theorem cntOk_less {h : Nat} {t : Tm} {most : Int} (hm : most < t.size) : cntOk h t most = false := by rw [cntOk, decide_eq_false (by omega), Bool.and_false]
theorem cntOk_shape {h : Nat} {t : Tm} {most : Int} (hs : shape h t = false) : cntOk h t most = false := by rw [cntOk, hs]; rfl
theorem ktext {w : World} {n : Nat} {v : Value} {ks : List Tm} (h : KRd w n v ks) : ∃ a cap, v = .slice a ks.length cap := h.slice
set_option maxRecDepth 100000 in
set_option maxHeartbeats 4000000 in
theorem count_c (h : Nat) : ∀ (n : Nat) (t : Tm) (kv : Value) (most hi_ : Int) (w : World), KRd w n kv t.kids → t.wide ≤ 1048600 → 0 - 2000000 ≤ most → most ≤ 60 → hi_ = (h : Int) → h ≤ 14 → Tabs w →
    Calls Tryd.prog 122 #[tmVal t kv, .int .i64 most, .int .i64 hi_] w fun e w' => e = .returned (cntVal h t most) ∧ Below w.heap.size w w' := by
  induction h with
  | zero =>
    intro n t kv most hi_ w hr hw hm0 hm1 he hh hT
    have HNo := hid (cnt_no (cntOk_shape (h := 0) (t := t) (most := most) rfl))
    subst he
    obtain ⟨k, m, s, ks⟩ := t
    unfold tmVal
    simp only [Tm.kind, Tm.num, Tm.text, Tm.kids] at *
    have HB0 := hid ((Below.refl w.heap.size w).alloc (Nat.le_refl _) (.cells #[.int .i64 k, .int .i64 m, .string s, kv] 28))
    by_cases hm : most < 1
    · go_enter Tryd.func122, Tryd.ntmps122
      go_wp2_with fail
      go_ret2
      exact ⟨by rw [HNo.out]; rfl, HB0.out⟩
    · go_enter Tryd.func122, Tryd.ntmps122
      go_wp2_with fail
      go_ret2
      exact ⟨by rw [HNo.out]; rfl, HB0.out⟩
  | succ h ih =>
    intro n t kv most hi_ w hr hw hm0 hm1 he hh hT
    have HI := hid ih
    clear ih
    have hsz := size_eq t
    have hW := wide_eq t
    have hsp := size_pos t
    obtain ⟨a, cap, rfl⟩ := hr.slice
    have HR := hid hr
    clear hr
    obtain ⟨x0, hx0⟩ : ∃ x, t.kind = x := ⟨_, rfl⟩
    obtain ⟨x1, hx1⟩ : ∃ x, t.num = x := ⟨_, rfl⟩
    obtain ⟨x2, hx2⟩ : ∃ x, t.text = x := ⟨_, rfl⟩
    have HV := hid (show ∀ u, tmVal t u = .agg #[.int .i64 x0, .int .i64 x1, .string x2, u] by intro u; rw [tmVal, hx0, hx1, hx2])
    have HT := hid hT
    have HSz := hid hsz
    have HW := hid hW
    have HSp := hid hsp
    have hkl : t.kids.length ≤ 1048600 := by omega
    have htl : t.text.size ≤ 1048600 := by omega
    have HTl := hid htl
    rw [HV.out]
    clear hx0 hx1 hx2 hT hsz hW hsp htl
    obtain ⟨ks, hks⟩ : ∃ l, t.kids = l := ⟨_, rfl⟩
    rw [hks] at HR HSz HW hkl ⊢
    have HKs := hid hks
    clear hks
    have HB0 := hid ((Below.refl w.heap.size w).alloc (Nat.le_refl _) (.cells #[.int .i64 x0, .int .i64 x1, .string x2, .slice a ks.length cap] 28))
    have HX0 := hid (Row.new w 28 #[.int .i64 x0, .int .i64 x1, .string x2, .slice a ks.length cap])
    by_cases hm : most < 1
    · have HNo := hid (cnt_no (cntOk_less (h := h + 1) (t := t) (most := most) (by have := HSp.out; omega)))
      go_enter Tryd.func122, Tryd.ntmps122
      go_wp2_with fail
      go_ret2
      exact ⟨by rw [HNo.out]; rfl, HB0.out⟩
    cases hf : t.form
    · have HF := hid hf
      have HNo := hid (cnt_no (cntOk_shape (h := h + 1) (t := t) (most := most) (shape_form hf)))
      clear hf
      go_enter Tryd.func122, Tryd.ntmps122
      go_wp2_with (go_at_call 148; rw [← HV.out]; refine (hasForm_c t _ _ (HT.out.on HB0.out) (by have := HTl.out; omega) ⟨_, _, by rw [HKs.out]⟩ (by rw [HKs.out]; omega)).mono ?_; rw [HF.out]; rintro e w1 ⟨rfl, hb1⟩)
      go_ret2
      exact ⟨by rw [HNo.out]; rfl, HB0.out.trans (hb1.mono HB0.out.size)⟩
    have HF := hid hf
    clear hf
    go_enter Tryd.func122, Tryd.ntmps122
    go_wp2_with (go_at_call 148; rw [← HV.out]; refine (hasForm_c t _ _ (HT.out.on HB0.out) (by have := HTl.out; omega) ⟨_, _, by rw [HKs.out]⟩ (by rw [HKs.out]; omega)).mono ?_; rw [HF.out]; rintro e w1 ⟨rfl, hb1⟩; have HB1 := hid (HB0.out.trans (hb1.mono HB0.out.size)); have hX1 := HX0.out.on hb1; have x3 := hX1.cell 3; simp at x3; clear hX1 hb1)
    go_loopw [8, 27] (fun c i wr => ∃ (k : Nat) (y : Int), i = .int .i64 k ∧ c = .int .i64 y ∧ k ≤ ks.length ∧ y = 1 + (sizes (ks.take k) : Int) ∧ y ≤ most ∧ (∀ j, j < k → shape h (ks.getD j tz) = true) ∧ Below w.heap.size w wr) (fun _ i _ => ks.length - (intOf i).toNat)
    case atStart => exact ⟨0, 1, rfl, rfl, by omega, by simp [sizes_nil], by omega, fun j hj => by omega, HB1.out⟩
    case round =>
      obtain ⟨k, y, rfl, rfl, hk, hy, hym, hsh, hbel⟩ := hrel
      have HBe := hid hbel
      have HY := hid hy
      have HSh := hid hsh
      have hz := hbel.size
      have hy0 : 1 ≤ y := by omega
      clear hy hsh
      by_cases hlt : k < ks.length
      · obtain ⟨m, b, o, cap', rfl, hv, hg, hc⟩ := HR.out.cells (by omega)
        simp only [Value.slice.injEq, true_and] at hv
        obtain ⟨rfl, rfl⟩ := hv
        obtain ⟨u, c0, c1, c2, c3, hru⟩ := hc k hlt
        obtain ⟨su, cu, rfl⟩ := hru.slice
        have q0 := (HBe.out.cell (p := ⟨b, o + k * 4, none⟩) hg).trans c0
        have q1 := (HBe.out.cell (p := ⟨b, o + k * 4 + 1, none⟩) hg).trans c1
        have q2 := (HBe.out.cell (p := ⟨b, o + k * 4 + 2, none⟩) hg).trans c2
        have q3 := (HBe.out.cell (p := ⟨b, o + k * 4 + 3, none⟩) hg).trans c3
        have HSn := hid (sizes_snoc ks k hlt)
        have HLe := hid (sizes_take_le ks (k + 1))
        have hwk := wides_at ks k hlt
        have HWk := hid (show (ks.getD k tz).wide ≤ 1048600 by have := HW.out; omega)
        have HNk := hid (fun hs : shape h (ks.getD k tz) = false => shape_no (t := t) (h := h) (j := k) (by rw [HKs.out]; exact hlt) (by rw [HKs.out]; exact hs))
        clear hwk
        obtain ⟨t2, ht⟩ : ∃ t, ks.getD k tz = t := ⟨_, rfl⟩
        rw [ht] at q0 q1 q2 q3 hru HSn HWk HNk
        have HT2 := hid ht
        have HRu := hid (hru.on HBe.out)
        obtain ⟨lu, hlu⟩ : ∃ l, t2.kids.length = l := ⟨_, rfl⟩
        rw [hlu] at q3 HRu
        clear hlu
        clear hc c0 c1 c2 c3 hru ht
        obtain ⟨y0, hy0'⟩ : ∃ x, t2.kind = x := ⟨_, rfl⟩
        obtain ⟨y1, hy1'⟩ : ∃ x, t2.num = x := ⟨_, rfl⟩
        obtain ⟨y2, hy2'⟩ : ∃ x, t2.text = x := ⟨_, rfl⟩
        have HV2 := hid (show ∀ u, tmVal t2 u = .agg #[.int .i64 y0, .int .i64 y1, .string y2, u] by intro u; rw [tmVal, hy0', hy1', hy2'])
        rw [hy0'] at q0
        rw [hy1'] at q1
        rw [hy2'] at q2
        clear hy0' hy1' hy2' hbel
        go_wp2_with fail
        rw [← HV2.out]
        have HA2 := hid ((Below.refl wr.heap.size wr).alloc (Nat.le_refl _) (.cells #[.int .i64 y0, .int .i64 y1, .string y2, .slice su lu cu] 28))
        refine (HI.out m t2 (.slice su lu cu) (most - y) (h : Int) _ (HRu.out.on HA2.out) HWk.out (by omega) (by omega) rfl (by omega) (HT.out.on (HBe.out.trans (HA2.out.mono hz)))).mono ?_
        rintro e w2 ⟨rfl, hb2⟩
        have HB2 := hid ((HBe.out.trans (HA2.out.mono hz)).trans (hb2.mono ((HBe.out.trans (HA2.out.mono hz)).size)))
        clear hb2 q0 q1 q2 q3
        cases hok : cntOk h t2 (most - y)
        · rw [cnt_no hok]
          have HNo := hid (show cntOk (h + 1) t most = false by
            simp only [cntOk, Bool.and_eq_false_iff, decide_eq_false_iff_not] at hok
            rcases hok with hs | hs
            · exact cntOk_shape (HNk.out hs)
            · exact cntOk_less (by have := HSz.out; have := HLe.out; have := HSn.out; have := HY.out; omega))
          clear hok
          go_wp2_with fail
          go_ret2
          exact ⟨by rw [cnt_no HNo.out]; rfl, HB2.out⟩
        · rw [cnt_yes hok]
          have hok2 : shape h t2 = true ∧ (t2.size : Int) ≤ most - y := by simpa [cntOk] using hok
          obtain ⟨hs2, hz2⟩ := hok2
          have HS2 := hid hs2
          clear hok hs2
          obtain ⟨z, hzz⟩ : ∃ z : Int, (t2.size : Int) = z := ⟨_, rfl⟩
          rw [hzz] at hz2 ⊢
          have HZ := hid hzz
          have hz0 : 0 ≤ z := by omega
          clear hzz
          go_wp2_with fail
          go_roundw
          case rel =>
            refine ⟨k + 1, y + z, by go_num, rfl, by omega, by have := HY.out; have := HSn.out; have := HZ.out; omega, by omega, fun j hj => ?_, HB2.out⟩
            by_cases hjk : j < k
            · exact HSh.out j hjk
            · obtain rfl : j = k := by omega
              rw [HT2.out]
              exact HS2.out
          case measure => simp [intOf]; omega
      · obtain rfl : k = ks.length := by omega
        have HYes := hid (show cntOk (h + 1) t most = true by
          rw [cntOk, shape_yes HF.out (by rw [HKs.out]; exact HSh.out), Bool.true_and]
          have := HSz.out; have := HY.out
          rw [List.take_length] at this
          exact decide_eq_true (by omega))
        have hye : y = t.size := by
          have h1 := HSz.out; have h2 := HY.out
          rw [List.take_length] at h2
          omega
        have HYe := hid hye
        clear hye hbel
        go_wp2_with fail
        go_ret2
        exact ⟨by rw [cnt_yes HYes.out, ← HYe.out]; rfl, HBe.out⟩
theorem within_c (n : Nat) (t : Tm) (kv : Value) (w : World) (hr : KRd w n kv t.kids) (hw : t.wide ≤ 1048600) (hT : Tabs w) :
    Calls Tryd.prog 77 #[tmVal t kv, .int .i64 60, .int .i64 14] w fun e w' => e = .returned (.bool (termOk t)) ∧ Below w.heap.size w w' := by
  have HR := hid hr
  have HT := hid hT
  have HE := hid (show cntOk 14 t 60 = termOk t by rw [cntOk, termOk]; congr 1; rw [Bool.eq_iff_iff]; simp; omega)
  clear hr hT
  obtain ⟨x0, hx0⟩ : ∃ x, t.kind = x := ⟨_, rfl⟩
  obtain ⟨x1, hx1⟩ : ∃ x, t.num = x := ⟨_, rfl⟩
  obtain ⟨x2, hx2⟩ : ∃ x, t.text = x := ⟨_, rfl⟩
  have HV := hid (show ∀ u, tmVal t u = .agg #[.int .i64 x0, .int .i64 x1, .string x2, u] by intro u; rw [tmVal, hx0, hx1, hx2])
  rw [HV.out]
  clear hx0 hx1 hx2
  have HB0 := hid ((Below.refl w.heap.size w).alloc (Nat.le_refl _) (.cells #[.int .i64 x0, .int .i64 x1, .string x2, kv] 28))
  go_enter Tryd.func77, Tryd.ntmps77
  go_wp2_with fail
  rw [← HV.out]
  refine (count_c 14 n t kv 60 14 _ (HR.out.on HB0.out) hw (by omega) (by omega) rfl (by omega) (HT.out.on HB0.out)).mono ?_
  rintro e w1 ⟨rfl, hb1⟩
  have HB1 := hid (HB0.out.trans (hb1.mono HB0.out.size))
  clear hb1
  obtain ⟨b, hb⟩ : ∃ b, cntOk 14 t 60 = b := ⟨_, rfl⟩
  rw [hb] at HE
  unfold cntVal
  rw [hb]
  obtain ⟨z, hz⟩ : ∃ z : Int, (if b = true then (t.size : Int) else 0) = z := ⟨_, rfl⟩
  rw [hz]
  clear hb hz
  go_wp2_with fail
  go_ret
  exact ⟨bool_eq (by rw [← HE.out]), HB1.out⟩
theorem termOk_w (n : Nat) (t : Tm) (kv : Value) (w : World) (hr : KRd w n kv t.kids) (hw : t.wide ≤ 1048600) (hT : Tabs w) :
    Calls Tryd.prog 38 #[tmVal t kv] w fun e w' => e = .returned (.bool (termOk t)) ∧ Below w.heap.size w w' := by
  have HR := hid hr
  have HT := hid hT
  clear hr hT
  obtain ⟨x0, hx0⟩ : ∃ x, t.kind = x := ⟨_, rfl⟩
  obtain ⟨x1, hx1⟩ : ∃ x, t.num = x := ⟨_, rfl⟩
  obtain ⟨x2, hx2⟩ : ∃ x, t.text = x := ⟨_, rfl⟩
  have HV := hid (show ∀ u, tmVal t u = .agg #[.int .i64 x0, .int .i64 x1, .string x2, u] by intro u; rw [tmVal, hx0, hx1, hx2])
  rw [HV.out]
  clear hx0 hx1 hx2
  have HB0 := hid ((Below.refl w.heap.size w).alloc (Nat.le_refl _) (.cells #[.int .i64 x0, .int .i64 x1, .string x2, kv] 28))
  go_enter Tryd.func38, Tryd.ntmps38
  go_wp2_with fail
  rw [← HV.out]
  refine (within_c n t kv _ (HR.out.on HB0.out) hw (HT.out.on HB0.out)).mono ?_
  rintro e w1 ⟨rfl, hb1⟩
  have HB1 := hid (HB0.out.trans (hb1.mono HB0.out.size))
  clear hb1
  obtain ⟨b, hb⟩ : ∃ b, termOk t = b := ⟨_, rfl⟩
  rw [hb]
  have HE := hid hb
  clear hb
  go_wp2_with fail
  go_ret
  exact ⟨bool_eq HE.out.symm, HB1.out⟩
theorem termOk_c (n : Nat) (t : Tm) (kv : Value) (w : World) (hr : KRd w n kv t.kids) (hw : t.wide ≤ 1048576) (hT : Tabs w) :
    Calls Tryd.prog 38 #[tmVal t kv] w fun e w' => e = .returned (.bool (termOk t)) ∧ Below w.heap.size w w' := termOk_w n t kv w hr (by omega) hT
end Go.Proofs.YtffibmlgdacafaaDoor.Um
