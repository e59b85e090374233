/- When terms are the same: sameTerm of the model; TermSame of both. -/
import Derived.Test.YtffibmlgdacafaaDoorUg
import Derived.Deep.RegionWith
set_option linter.unusedSimpArgs false
set_option linter.unusedVariables false
namespace Go.Proofs.YtffibmlgdacafaaDoor.Um
open Go.RowKit Pl Ft Mm In C2 Im

set_option maxRecDepth 100000 in
set_option maxHeartbeats 4000000 in
theorem sSameTerm_of (h : Nat) (ih : CmpL 102 #[] h) : Cmp 57 (h + 1) := by
  intro n m a b va vb w ha hb hwa hwb hs
  obtain ⟨hfm, hks⟩ := shape_at hs
  have HI := hid ih
  have HA := hid ha
  have HB := hid hb
  have HWa := hid hwa
  have HWb := hid hwb
  have HKs := hid hks
  have HEa := hid (wide_eq a)
  have HEb := hid (wide_eq b)
  clear ih hwa hwb hs hfm hks
  obtain ⟨sa, ca, rfl⟩ := ha.slice
  obtain ⟨sb, cb, rfl⟩ := hb.slice
  clear ha hb
  obtain ⟨x0, x1, x2, lx, hp⟩ := Pt.of a
  obtain ⟨y0, y1, y2, ly, hq⟩ := Pt.of b
  rw [hp.val, hq.val]
  have HS := hid (show sameT (h + 1) a b = ((x0 == y0) && ((x1 == y1) && ((x2.toList == y2.toList) && sameL (sameT h) a.kids b.kids))) by rw [sameT, hp.k, hp.n, hp.s, hq.k, hq.n, hq.s])
  rw [hp.l] at HA ⊢
  rw [hq.l] at HB ⊢
  clear hp hq
  have hb1 := (Below.refl w.heap.size w).alloc (Nat.le_refl _) (.cells #[.int .i64 x0, .int .i64 x1, .string x2, .slice sa lx ca] 28)
  have HB2 := hid (hb1.alloc hb1.size (.cells #[.int .i64 y0, .int .i64 y1, .string y2, .slice sb ly cb] 28))
  clear hb1
  cases h0 : (x0 == y0)
  · have H0 := hid h0
    go_enter Tryd.func57, Tryd.ntmps57
    go_wp2_with fail
    go_ret
    exact ⟨bool_eq (by rw [HS.out, H0.out]; rfl), HB2.out⟩
  cases h1 : (x1 == y1)
  · have H0 := hid h0
    have H1 := hid h1
    go_enter Tryd.func57, Tryd.ntmps57
    go_wp2_with fail
    go_ret
    exact ⟨bool_eq (by rw [HS.out, H0.out, H1.out]; rfl), HB2.out⟩
  cases h2 : (x2.toList == y2.toList)
  · have H0 := hid h0
    have H1 := hid h1
    have H2 := hid h2
    go_enter Tryd.func57, Tryd.ntmps57
    go_wp2_with fail
    go_ret
    exact ⟨bool_eq (by rw [HS.out, H0.out, H1.out, H2.out]; rfl), HB2.out⟩
  have H0 := hid h0
  have H1 := hid h1
  have H2 := hid h2
  go_enter Tryd.func57, Tryd.ntmps57
  go_wp2_with fail
  refine (HI.out n m a.kids b.kids _ _ _ (HA.out.on HB2.out) (HB.out.on HB2.out) (by have := HEa.out; have := HWa.out; omega) (by have := HEb.out; have := HWb.out; omega) HKs.out).mono ?_
  rintro e w3 ⟨rfl, hb3⟩
  have HB3 := hid (HB2.out.trans (hb3.mono HB2.out.size))
  obtain ⟨r, hr⟩ : ∃ r, sameL (sameT h) a.kids b.kids = r := ⟨_, rfl⟩
  rw [hr] at HS ⊢
  clear hb3 hr
  go_wp2_with fail
  go_ret
  exact ⟨bool_eq (by rw [HS.out, H0.out, H1.out, H2.out]; rfl), HB3.out⟩
theorem cmp_val {F h : Nat} (hc : Cmp F h) {n m : Nat} {a b : Tm} {va vb : Value} {w : World} {x0 x1 y0 y1 : Int} {x2 y2 : ByteArray} {lx ly : Nat} (hp : Pt a x0 x1 x2 lx) (hq : Pt b y0 y1 y2 ly) (ha : KRd w n va a.kids) (hb : KRd w m vb b.kids) (hwa : a.wide ≤ 1048576) (hwb : b.wide ≤ 1048576) (hs : shape h a = true) :
    Calls Tryd.prog F #[.agg #[.int .i64 x0, .int .i64 x1, .string x2, va], .agg #[.int .i64 y0, .int .i64 y1, .string y2, vb]] w fun e w' => e = .returned (.bool (sameT h a b)) ∧ Below w.heap.size w w' := by
  rw [← hp.val, ← hq.val]
  exact hc n m a b va vb w ha hb hwa hwb hs
set_option maxRecDepth 100000 in
set_option maxHeartbeats 4000000 in
theorem sSameTerms_of (h : Nat) (hc : Cmp 57 h) : CmpL 102 #[] h := by
  intro n m ks ls va vb w ha hb hwa hwb hs
  have HC := hid hc
  have HA := hid ha
  have HB := hid hb
  have HSh := hid hs
  clear hc hs
  obtain ⟨sa, ca, rfl⟩ := ha.slice
  obtain ⟨sb, cb, rfl⟩ := hb.slice
  clear ha hb
  show Calls Tryd.prog 102 #[.slice sa ks.length ca, .slice sb ls.length cb] w _
  by_cases hl : ks.length = ls.length
  case neg =>
    have HNo := hid (sameL_len (f := sameT h) hl)
    have hne : ((ks.length : Int) != (ls.length : Int)) = true := by simp; omega
    go_enter Tryd.func102, Tryd.ntmps102
    go_wp2_with fail
    go_ret
    exact ⟨bool_eq HNo.out.symm, Below.refl _ _⟩
  have HLn := hid hl
  have heq : ((ks.length : Int) != (ls.length : Int)) = false := by simp; omega
  clear hl
  go_enter Tryd.func102, Tryd.ntmps102
  go_wp2_with fail
  go_loopw [5] (fun y wr => ∃ k : Nat, y = .int .i64 k ∧ k ≤ ks.length ∧ (∀ j, j < k → sameT h (ks.getD j tz) (ls.getD j tz) = true) ∧ Below w.heap.size w wr) (fun y _ => ks.length - (intOf y).toNat)
  case atStart => exact ⟨0, rfl, by omega, fun j hj => by omega, Below.refl _ _⟩
  case round =>
    obtain ⟨k, rfl, hk, hall, hbel⟩ := hrel
    have HAll := hid hall
    have HBe := hid hbel
    have hz := hbel.size
    clear hall hbel heq
    by_cases hlt : k < ks.length
    · have hlt2 : k < ls.length := by have := HLn.out; omega
      obtain ⟨n', b, o, cap', rfl, hv, hg, hcc⟩ := HA.out.cells (by omega)
      obtain ⟨m', b2, o2, cap2, rfl, hv2, hg2, hcc2⟩ := HB.out.cells (by omega)
      simp only [Value.slice.injEq, true_and] at hv hv2
      obtain ⟨rfl, rfl⟩ := hv
      obtain ⟨rfl, rfl⟩ := hv2
      obtain ⟨u, c0, c1, c2, c3, hru⟩ := hcc k hlt
      obtain ⟨u2, d0, d1, d2, d3, hru2⟩ := hcc2 k hlt2
      obtain ⟨su, cu, rfl⟩ := hru.slice
      obtain ⟨su2, cu2, rfl⟩ := hru2.slice
      have q0 := (HBe.out.cell (p := ⟨b, o + k * 4, none⟩) hg).trans c0
      have q1 := (HBe.out.cell (p := ⟨b, o + k * 4 + 1, none⟩) hg).trans c1
      have q2 := (HBe.out.cell (p := ⟨b, o + k * 4 + 2, none⟩) hg).trans c2
      have q3 := (HBe.out.cell (p := ⟨b, o + k * 4 + 3, none⟩) hg).trans c3
      have r0 := (HBe.out.cell (p := ⟨b2, o2 + k * 4, none⟩) hg2).trans d0
      have r1 := (HBe.out.cell (p := ⟨b2, o2 + k * 4 + 1, none⟩) hg2).trans d1
      have r2 := (HBe.out.cell (p := ⟨b2, o2 + k * 4 + 2, none⟩) hg2).trans d2
      have r3 := (HBe.out.cell (p := ⟨b2, o2 + k * 4 + 3, none⟩) hg2).trans d3
      have hwk := wides_at ks k hlt
      have hwk2 := wides_at ls k hlt2
      have HSk := hid (HSh.out k hlt)
      have HNo := hid (fun h' : sameT h (ks.getD k tz) (ls.getD k tz) = false => sameL_no hlt h')
      obtain ⟨t, ht⟩ : ∃ t, ks.getD k tz = t := ⟨_, rfl⟩
      obtain ⟨t2, ht2⟩ : ∃ t, ls.getD k tz = t := ⟨_, rfl⟩
      rw [ht] at q0 q1 q2 q3 hru hwk HSk HNo
      rw [ht2] at r0 r1 r2 r3 hru2 hwk2 HNo
      have HT := hid ht
      have HT2 := hid ht2
      have HR1 := hid (hru.on HBe.out)
      have HR2 := hid (hru2.on HBe.out)
      have HWk := hid (show t.wide ≤ 1048576 by omega)
      have HWk2 := hid (show t2.wide ≤ 1048576 by omega)
      clear hcc hcc2 c0 c1 c2 c3 d0 d1 d2 d3 hru hru2 ht ht2 hwk hwk2
      obtain ⟨x0, x1, x2, lx, hp⟩ := Pt.of t
      obtain ⟨y0, y1, y2, ly, hq⟩ := Pt.of t2
      rw [hp.k] at q0
      rw [hp.n] at q1
      rw [hp.s] at q2
      rw [hp.l] at q3 HR1
      rw [hq.k] at r0
      rw [hq.n] at r1
      rw [hq.s] at r2
      rw [hq.l] at r3 HR2
      have HP := hid hp
      have HQ := hid hq
      clear hp hq
      have hk1 : (k : Int) < ks.length := by omega
      have hk2 : (k : Int) < ls.length := by omega
      have hk0 : 0 ≤ (k : Int) := by omega
      cases hr : sameT h t t2
      · have HN := hid (HNo.out hr)
        have HV := hid hr
        clear hr
        go_wp2_with fail
        go_region_with (go_at_call 57; refine (cmp_val HC.out HP.out HQ.out (HR1.out.on ((Below.refl _ _).drew)) (HR2.out.on ((Below.refl _ _).drew)) HWk.out HWk2.out HSk.out).mono ?_; rw [HV.out]; rintro e w1 ⟨rfl, hb1⟩)
        all_goals
          have HB1 := hid (HBe.out.drew.trans (hb1.mono hz))
          clear hb1 q0 q1 q2 q3 r0 r1 r2 r3
          go_wp2_with fail
          go_ret
          exact ⟨bool_eq HN.out.symm, HB1.out⟩
      · have HV := hid hr
        clear hr
        go_wp2_with fail
        go_region_with (go_at_call 57; refine (cmp_val HC.out HP.out HQ.out (HR1.out.on ((Below.refl _ _).drew)) (HR2.out.on ((Below.refl _ _).drew)) HWk.out HWk2.out HSk.out).mono ?_; rw [HV.out]; rintro e w1 ⟨rfl, hb1⟩)
        all_goals
          have HB1 := hid (HBe.out.drew.trans (hb1.mono hz))
          clear hb1 q0 q1 q2 q3 r0 r1 r2 r3
          go_wp2_with fail
          go_roundw
          case rel =>
            refine ⟨k + 1, by go_num, by omega, fun j hj => ?_, HB1.out⟩
            by_cases hjk : j < k
            · exact HAll.out j hjk
            · obtain rfl : j = k := by omega
              rw [HT.out, HT2.out]
              exact HV.out
          case measure => simp [intOf]; omega
    · obtain rfl : k = ks.length := by omega
      have HYes := hid (sameL_yes HLn.out HAll.out)
      go_wp2_with fail
      go_ret
      exact ⟨bool_eq HYes.out.symm, HBe.out⟩
theorem sSameTerm_c (h : Nat) : Cmp 57 h := by
  induction h with
  | zero => intro n m a b va vb w _ _ _ _ hs; simp [shape] at hs
  | succ h ih => exact sSameTerm_of h (sSameTerms_of h ih)
def termSame (a b : Tm) : Bool := termOk a && (termOk b && sameT 14 a b)
theorem termOk_v {t : Tm} {x0 x1 : Int} {x2 : ByteArray} {lk : Nat} (hp : Pt t x0 x1 x2 lk) {n : Nat} {kv : Value} {w : World} (hr : KRd w n kv t.kids) (hw : t.wide ≤ 1048576) (hT : Tabs w) {b : Bool} (hb : termOk t = b) :
    Calls Tryd.prog 38 #[.agg #[.int .i64 x0, .int .i64 x1, .string x2, kv]] w fun e w' => e = .returned (.bool b) ∧ Below w.heap.size w w' := by
  subst hb
  rw [← hp.val]
  exact termOk_c n t kv w hr hw hT
theorem validTerm_v {t : Tm} {x0 x1 : Int} {x2 : ByteArray} {lk : Nat} (hp : Pt t x0 x1 x2 lk) {n : Nat} {kv : Value} {w : World} (hr : KRd w n kv t.kids) (hw : t.wide ≤ 1048576) {b : Bool} (hb : termOk t = b) :
    Calls Tryd.prog 35 #[.agg #[.int .i64 x0, .int .i64 x1, .string x2, kv]] w fun e w' => e = .returned (.bool b) ∧ Below w.heap.size w w' := by
  subst hb
  rw [← hp.val]
  exact validTerm_c n t kv w hr hw
end Go.Proofs.YtffibmlgdacafaaDoor.Um
