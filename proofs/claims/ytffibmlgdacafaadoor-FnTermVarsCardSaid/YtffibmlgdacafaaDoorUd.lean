/- validShape, termSize, validTerm, TermOk of the model. -/
import Derived.Test.YtffibmlgdacafaaDoorUc
import Derived.Test.YtffibmlgdacafaaDoorC1
import Derived.Deep.CutBlock
set_option linter.unusedSimpArgs false
set_option linter.unusedVariables false
namespace Go.Proofs.YtffibmlgdacafaaDoor.Um
open Go.RowKit Pl Ft Mm In C2 Im

theorem bel_drewN {w w1 : World} (h : Below w.heap.size w w1) (n : Nat) : Below w.heap.size w (w1.drewN n) := h.trans ((below_drewN w1 n).mono h.size)
def goodT (k : Int) (s : ByteArray) : Bool := if k = 1 then freeName s else if k = 2 then hasText opsTexts s else noText s
def numT (k n : Int) : Bool := if k = 0 then inR 5 n else n == 0
theorem form_spec {k : Int} (h0 : 0 ≤ k) (h5 : k ≤ 5) (n : Int) (s : ByteArray) (c : Nat) : formOf k n s c = (((c : Int) == kidsIn k) && (goodT k s && numT k n)) := by
  have c0 : ((c : Int) == 0) = (c == 0) := by rw [Bool.eq_iff_iff]; simp
  have c1 : ((c : Int) == 1) = (c == 1) := by rw [Bool.eq_iff_iff]; simp; omega
  have c2 : ((c : Int) == 2) = (c == 2) := by rw [Bool.eq_iff_iff]; simp; omega
  have h : k = 0 ∨ k = 1 ∨ k = 2 ∨ k = 3 ∨ k = 4 ∨ k = 5 := by omega
  have e3 : ∀ a b d : Bool, (a && (b && d)) = (d && (b && a)) := by decide
  rcases h with rfl | rfl | rfl | rfl | rfl | rfl
  · simp [formOf, goodT, numT, kidsIn, c0, e3 (c == 0)]
  · simp [formOf, goodT, numT, kidsIn, c0, e3 (c == 0)]
  · simp [formOf, goodT, numT, kidsIn, c2, ops_has, e3 (c == 2)]
  · simp [formOf, goodT, numT, kidsIn, c1, e3 (c == 1)]
  · simp [formOf, goodT, numT, kidsIn, c1, e3 (c == 1)]
  · simp [formOf, goodT, numT, kidsIn, c1, e3 (c == 1)]
theorem kidsOf_q (k : Int) (w : World) : Calls Tryd.prog 117 #[.int .i64 k] w fun e w' => e = .returned (.int .i64 (kidsIn k)) ∧ w' = w := kidsOf_c k w
theorem inR_false {k : Int} (h : k < 0 ∨ 5 < k) : inRange k 0 5 = false := by unfold inRange; exact decide_eq_false (by omega)
theorem inR_true {k : Int} (h0 : 0 ≤ k) (h5 : k ≤ 5) : inRange k 0 5 = true := by unfold inRange; exact decide_eq_true (by omega)
theorem kids_bd (k : Int) : 0 ≤ kidsIn k ∧ kidsIn k ≤ 2 := by unfold kidsIn; split <;> (try split) <;> omega
set_option maxRecDepth 100000 in
set_option maxHeartbeats 4000000 in
theorem validShape_c (h : Nat) : ∀ (n : Nat) (t : Tm) (kv : Value) (hi_ : Int) (w : World), KRd w n kv t.kids → t.wide ≤ 1048576 → hi_ = (h : Int) → h ≤ 14 →
    Calls Tryd.prog 74 #[tmVal t kv, .int .i64 hi_] w fun e w' => e = .returned (.bool (shape h t)) ∧ Below w.heap.size w w' := by
  induction h with
  | zero =>
    intro n t kv hi_ w hr hw he hh
    have HNo := hid (show shape 0 t = false from rfl)
    subst he
    obtain ⟨a, cap, rfl⟩ := hr.slice
    obtain ⟨k, m, s, ks⟩ := t
    unfold tmVal
    simp only [Tm.kind, Tm.num, Tm.text, Tm.kids] at *
    have HB0 := hid ((Below.refl w.heap.size w).alloc (Nat.le_refl _) (.cells #[.int .i64 k, .int .i64 m, .string s, .slice a ks.length cap] 28))
    go_enter Tryd.func74, Tryd.ntmps74
    go_wp2_with fail
    go_quiet (fail)
    go_wp2_with fail
    go_ret
    exact ⟨bool_eq HNo.out.symm, bel_drewN HB0.out _⟩
  | succ h ih =>
    intro n t kv hi_ w hr hw he hh
    have HI := hid ih
    clear ih
    have hW := wide_eq t
    obtain ⟨a, cap, rfl⟩ := hr.slice
    have HR := hid hr
    clear hr
    obtain ⟨x0, hx0⟩ : ∃ x, t.kind = x := ⟨_, rfl⟩
    obtain ⟨x1, hx1⟩ : ∃ x, t.num = x := ⟨_, rfl⟩
    obtain ⟨x2, hx2⟩ : ∃ x, t.text = x := ⟨_, rfl⟩
    have HV := hid (show ∀ u, tmVal t u = .agg #[.int .i64 x0, .int .i64 x1, .string x2, u] by intro u; rw [tmVal, hx0, hx1, hx2])
    have HW := hid hW
    have hkl : t.kids.length ≤ 1048576 := by omega
    have htl : x2.size ≤ 1048576 := by rw [← hx2]; omega
    obtain ⟨ks, hks⟩ : ∃ l, t.kids = l := ⟨_, rfl⟩
    have HFm := hid (show t.form = formOf x0 x1 x2 ks.length by rw [Tm.form, hx0, hx1, hx2, hks])
    rw [HV.out]
    clear hx0 hx1 hx2 hW
    rw [hks] at HR HW hkl ⊢
    have HKs := hid hks
    clear hks
    have hh0 : (hi_ == 0) = false := by simp; omega
    have HHi := hid he
    clear he
    have HB0 := hid ((Below.refl w.heap.size w).alloc (Nat.le_refl _) (.cells #[.int .i64 x0, .int .i64 x1, .string x2, .slice a ks.length cap] 28))
    have HX0 := hid (Row.new w 28 #[.int .i64 x0, .int .i64 x1, .string x2, .slice a ks.length cap])
    cases hin : inRange x0 0 5
    · have HNo := hid (show shape (h + 1) t = false from shape_form (by
        rw [HFm.out]
        unfold inRange at hin
        unfold formOf
        have := of_decide_eq_false hin
        rw [if_neg (by omega), if_neg (by omega), if_neg (by omega), if_neg (by omega)]))
      have HIn := hid hin
      clear hin
      go_enter Tryd.func74, Tryd.ntmps74
      go_wp2_with fail
      go_quiet ((go_at_call 53; exact Calls.quiet_of_same (inR_q HIn.out _)))
      go_wp2_with fail
      go_ret
      exact ⟨bool_eq HNo.out.symm, bel_drewN HB0.out _⟩
    have hk05 : 0 ≤ x0 ∧ x0 ≤ 5 := by unfold inRange at hin; exact of_decide_eq_true hin
    obtain ⟨hk0, hk5⟩ := hk05
    have HIn := hid hin
    have HSp := hid (form_spec hk0 hk5 x1 x2 ks.length)
    have hkb := kids_bd x0
    clear hin
    cases hkn : ((ks.length : Int) == kidsIn x0)
    · have HNo := hid (show shape (h + 1) t = false from shape_form (by rw [HFm.out, HSp.out, hkn]; rfl))
      have HKn := hid hkn
      have HKo := hid (kidsOf_q x0)
      obtain ⟨z, hz⟩ : ∃ z, kidsIn x0 = z := ⟨_, rfl⟩
      rw [hz] at hkn hkb HKo
      clear hz
      go_enter Tryd.func74, Tryd.ntmps74
      go_wp2_with fail
      go_quiet (first | (go_at_call 53; exact Calls.quiet_of_same (inR_q HIn.out _)) | (go_at_call 117; exact Calls.quiet_of_same (HKo.out _)))
      go_wp2_with fail
      go_ret
      exact ⟨bool_eq HNo.out.symm, bel_drewN HB0.out _⟩
    have HKn := hid hkn
    have HKo := hid (kidsOf_q x0)
    obtain ⟨z, hz⟩ : ∃ z, kidsIn x0 = z := ⟨_, rfl⟩
    have HZe := hid hz
    rw [hz] at hkn hkb HKo
    clear hz
    go_enter Tryd.func74, Tryd.ntmps74
    go_wp2_with fail
    go_quiet (first | (go_at_call 53; exact Calls.quiet_of_same (inR_q HIn.out _)) | (go_at_call 117; exact Calls.quiet_of_same (HKo.out _)))
    have HXq := hid (HX0.out.drewN nq)
    have HBq := hid (bel_drewN HB0.out nq)
    generalize World.drewN _ nq = wd at HXq HBq ⊢
    have d0 := HXq.out.cell 0
    have d1 := HXq.out.cell 1
    have d2 := HXq.out.cell 2
    simp at d0 d1 d2
    go_upto_block 0 with fail
    go_cut [5] (fun g wx => g = .bool (goodT x0 x2) ∧ Row wx w.heap.size 28 #[.int .i64 x0, .int .i64 x1, .string x2, .slice a ks.length cap] ∧ Below w.heap.size w wx)
    case first =>
      by_cases h1 : x0 = 1
      · have HG := hid (show goodT x0 x2 = freeName x2 by rw [goodT, if_pos h1])
        subst h1
        go_wp2_with fail
        refine (isVar_c x2 _ (by omega)).mono ?_
        rintro e w2 ⟨rfl, hb2⟩
        have HX2 := hid (HXq.out.on hb2)
        have HB2 := hid (HBq.out.trans (hb2.mono HBq.out.size))
        obtain ⟨b, hb⟩ : ∃ b, freeName x2 = b := ⟨_, rfl⟩
        rw [hb] at HG ⊢
        clear hb hb2
        go_wp2_with fail
        go_meet
        exact ⟨by rw [HG.out], HX2.out, HB2.out⟩
      · by_cases h2 : x0 = 2
        · have HG := hid (show goodT x0 x2 = hasText opsTexts x2 by rw [goodT, if_neg h1, if_pos h2])
          subst h2
          go_wp2_with fail
          go_region_with (first
            | (go_at_call 97; refine (operators_c _).mono ?_; rintro e w2 ⟨v, rfl, hr, hb⟩; have HR2 := hid hr; have HB2 := hid (HBq.out.drew.trans (hb.mono HBq.out.drew.size)); have HX2 := hid (HXq.out.drew.on hb); have f2 := HX2.out.cell 2; simp at f2; clear hr hb)
            | (go_at_call 70; refine (inTexts_c opsTexts _ x2 _ HR2.out (by decide)).mono ?_; rintro e w3 ⟨rfl, rfl⟩))
          all_goals
            go_wp2_with fail
            go_meet
            exact ⟨by rw [HG.out], HX2.out, HB2.out⟩
        · have HG := hid (show goodT x0 x2 = noText x2 by rw [goodT, if_neg h1, if_neg h2])
          have h1b : (x0 == 1) = false := by simpa using h1
          have h2b : (x0 == 2) = false := by simpa using h2
          go_wp2_with fail
          go_meet
          exact ⟨by rw [HG.out]; rfl, HXq.out, HBq.out⟩
    case rest =>
      obtain ⟨rfl, hxc, hbc⟩ := hcut
      have HXc := hid hxc
      have HBc := hid hbc
      have e0 := hxc.cell 0
      have e1 := hxc.cell 1
      have e2 := hxc.cell 2
      have e3 := hxc.cell 3
      simp at e0 e1 e2 e3
      clear hxc hbc d0 d1 d2
      have HNum := hid (show (isW x1) = inR 5 x1 by unfold isW inR; rw [Bool.eq_iff_iff]; simp [lo, hi])
      cases hg : goodT x0 x2
      · have HNo := hid (show shape (h + 1) t = false from shape_form (by rw [HFm.out, HSp.out, hg]; simp))
        clear hg
        go_wp2_with fail
        go_ret
        exact ⟨bool_eq HNo.out.symm, HBc.out⟩
      have HGd := hid hg
      clear hg
      have HB9 := hid (show x0 = 0 ∨ x0 ≠ 0 by omega)
      have HEq := hid (fun h : x0 = 0 => (show (x0 == 0) = true ∧ (x0 != 0) = false by simp [h]))
      have HNe := hid (fun h : x0 ≠ 0 => (show (x0 == 0) = false ∧ (x0 != 0) = true by simp [h]))
      cases hnm : numT x0 x1
      · have HNo := hid (show shape (h + 1) t = false from shape_form (by rw [HFm.out, HSp.out, hnm]; simp))
        rcases HB9.out with h0 | h0
        · have HW1 := hid (show isW x1 = false by rw [HNum.out]; rw [numT, if_pos h0] at hnm; exact hnm)
          obtain ⟨k1, k2⟩ := HEq.out h0
          clear hnm h0
          go_wp2_with (go_at_call 118; refine (C1.sisWord_c _ _).mono ?_; rw [HW1.out]; rintro e w2 ⟨rfl, rfl⟩)
          go_ret
          exact ⟨bool_eq HNo.out.symm, HBc.out⟩
        · obtain ⟨k1, k2⟩ := HNe.out h0
          have h1b : (x1 != 0) = true := by rw [numT, if_neg h0] at hnm; simpa using hnm
          clear hnm h0
          go_wp2_with fail
          go_ret
          exact ⟨bool_eq HNo.out.symm, HBc.out⟩
      have HFy := hid (show t.form = true by rw [HFm.out, HSp.out, HKn.out, HGd.out, hnm]; rfl)
      rcases HB9.out with h0 | h0
      case' inl =>
        have HW1 := hid (show isW x1 = true by rw [HNum.out]; rw [numT, if_pos h0] at hnm; exact hnm)
        obtain ⟨k1, k2⟩ := HEq.out h0
        clear hnm h0
        go_wp2_with (go_at_call 118; refine (C1.sisWord_c _ _).mono ?_; rw [HW1.out]; rintro e w2 ⟨rfl, rfl⟩)
      case' inr =>
        obtain ⟨k1, k2⟩ := HNe.out h0
        have h1b : (x1 != 0) = false := by rw [numT, if_neg h0] at hnm; simpa using hnm
        clear hnm h0
        go_wp2_with fail
      all_goals
        clear k1 k2 hh0
        go_loopw [6] (fun c wr => ∃ k : Nat, c = .int .i64 k ∧ k ≤ ks.length ∧ (∀ j, j < k → shape h (ks.getD j tz) = true) ∧ Row wr w.heap.size 28 #[.int .i64 x0, .int .i64 x1, .string x2, .slice a ks.length cap] ∧ Below w.heap.size w wr) (fun c _ => ks.length - (intOf c).toNat)
        case atStart => exact ⟨0, rfl, by omega, fun j hj => by omega, HXc.out, HBc.out⟩
        case round =>
          obtain ⟨k, rfl, hk, hsh, hrow, hbel⟩ := hrel
          have HBe := hid hbel
          have HRow := hid hrow
          have HSh := hid hsh
          have hz := hbel.size
          have b3 := hrow.cell 3
          simp at b3
          clear hsh hrow
          by_cases hlt : k < ks.length
          · obtain ⟨m, b, o, cap', rfl, hv, hg, hc⟩ := HR.out.cells (by omega)
            simp only [Value.slice.injEq, true_and] at hv
            obtain ⟨rfl, rfl⟩ := hv
            obtain ⟨u, c0, c1, c2, c3, hru⟩ := hc k hlt
            have q0 := (HBe.out.cell (p := ⟨b, o + k * 4, none⟩) hg).trans c0
            have q1 := (HBe.out.cell (p := ⟨b, o + k * 4 + 1, none⟩) hg).trans c1
            have q2 := (HBe.out.cell (p := ⟨b, o + k * 4 + 2, none⟩) hg).trans c2
            have q3 := (HBe.out.cell (p := ⟨b, o + k * 4 + 3, none⟩) hg).trans c3
            have hwk := wides_at ks k hlt
            have HWk := hid (show (ks.getD k tz).wide ≤ 1048576 by have := HW.out; omega)
            have HNk := hid (fun hs : shape h (ks.getD k tz) = false => shape_no (t := t) (h := h) (j := k) (by rw [HKs.out]; exact hlt) (by rw [HKs.out]; exact hs))
            clear hwk
            obtain ⟨t2, ht⟩ : ∃ t, ks.getD k tz = t := ⟨_, rfl⟩
            rw [ht] at q0 q1 q2 hru HWk HNk
            have HT2 := hid ht
            have HRu := hid (hru.on HBe.out)
            clear hc c0 c1 c2 c3 hru ht
            obtain ⟨y0, hy0'⟩ : ∃ x, t2.kind = x := ⟨_, rfl⟩
            obtain ⟨y1, hy1'⟩ : ∃ x, t2.num = x := ⟨_, rfl⟩
            obtain ⟨y2, hy2'⟩ : ∃ x, t2.text = x := ⟨_, rfl⟩
            have HV2 := hid (show ∀ u, tmVal t2 u = .agg #[.int .i64 y0, .int .i64 y1, .string y2, u] by intro u; rw [tmVal, hy0', hy1', hy2'])
            rw [hy0'] at q0
            rw [hy1'] at q1
            rw [hy2'] at q2
            clear hy0' hy1' hy2' hbel
            have hi1 : 1 ≤ hi_ := by have := HHi.out; omega
            have hi2 : hi_ ≤ 14 := by have := HHi.out; omega
            go_wp2_with fail
            rw [← HV2.out]
            refine (HI.out m t2 u (hi_ - 1) _ HRu.out HWk.out (by have := HHi.out; omega) (by omega)).mono ?_
            rintro e w2 ⟨rfl, hb2⟩
            have HB2 := hid (HBe.out.trans (hb2.mono hz))
            have HR2 := hid (HRow.out.on hb2)
            clear hb2 q0 q1 q2 q3 b3
            cases hok : shape h t2
            · have HNo := hid (HNk.out hok)
              clear hok
              go_wp2_with fail
              go_ret
              exact ⟨bool_eq HNo.out.symm, HB2.out⟩
            · have HOk := hid hok
              clear hok
              go_wp2_with fail
              go_roundw
              case rel =>
                refine ⟨k + 1, by go_num, by omega, fun j hj => ?_, HR2.out, HB2.out⟩
                by_cases hjk : j < k
                · exact HSh.out j hjk
                · obtain rfl : j = k := by omega
                  rw [HT2.out]
                  exact HOk.out
              case measure => simp [intOf]; omega
          · obtain rfl : k = ks.length := by omega
            have HYes := hid (show shape (h + 1) t = true from shape_yes HFy.out (by rw [HKs.out]; exact HSh.out))
            clear hbel
            go_wp2_with fail
            go_ret
            exact ⟨bool_eq HYes.out.symm, HBe.out⟩
end Go.Proofs.YtffibmlgdacafaaDoor.Um
