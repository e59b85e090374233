/- When terms are the same: sameTerm of the program and of the model. -/
import Derived.Test.YtffibmlgdacafaaDoorUe
import Derived.Test.YtffibmlgdacafaaDoorBase
set_option linter.unusedSimpArgs false
set_option linter.unusedVariables false
namespace Go.Proofs.YtffibmlgdacafaaDoor.Um
open Go.RowKit Pl Ft Mm In C2 Im

def sameL (f : Tm → Tm → Bool) (ks ls : List Tm) : Bool := (ks.length == ls.length) && (List.range ks.length).all fun j => f (ks.getD j tz) (ls.getD j tz)
/-- Whether two terms, the first at most so high, are equal in all parts. -/
def sameT : Nat → Tm → Tm → Bool
  | 0, _, _ => false
  | h + 1, a, b => (a.kind == b.kind) && ((a.num == b.num) && ((a.text.toList == b.text.toList) && sameL (sameT h) a.kids b.kids))
theorem sameL_len {f : Tm → Tm → Bool} {ks ls : List Tm} (h : ks.length ≠ ls.length) : sameL f ks ls = false := by
  have : (ks.length == ls.length) = false := by simpa using h
  rw [sameL, this]; rfl
theorem sameL_no {f : Tm → Tm → Bool} {ks ls : List Tm} {j : Nat} (hj : j < ks.length) (h : f (ks.getD j tz) (ls.getD j tz) = false) : sameL f ks ls = false := by
  have : ((List.range ks.length).all fun j => f (ks.getD j tz) (ls.getD j tz)) = false := by
    rw [List.all_eq_false]
    exact ⟨j, List.mem_range.2 hj, by rw [h]; simp⟩
  rw [sameL, this]; simp
theorem sameL_yes {f : Tm → Tm → Bool} {ks ls : List Tm} (hl : ks.length = ls.length) (h : ∀ j, j < ks.length → f (ks.getD j tz) (ls.getD j tz) = true) : sameL f ks ls = true := by
  have : ((List.range ks.length).all fun j => f (ks.getD j tz) (ls.getD j tz)) = true := by
    rw [List.all_eq_true]
    intro j hj
    exact h j (List.mem_range.1 hj)
  rw [sameL, this, hl]; simp
/-- What a function that compares two terms does, at terms of which the first is at most so high. -/
def Cmp (F : Nat) (h : Nat) : Prop := ∀ (n m : Nat) (a b : Tm) (va vb : Value) (w : World), KRd w n va a.kids → KRd w m vb b.kids → a.wide ≤ 1048576 → b.wide ≤ 1048576 → shape h a = true →
  Calls Tryd.prog F #[tmVal a va, tmVal b vb] w fun e w' => e = .returned (.bool (sameT h a b)) ∧ Below w.heap.size w w'
/-- What a function that compares two rows of terms does. -/
def CmpL (F : Nat) (args : Array Value) (h : Nat) : Prop := ∀ (n m : Nat) (ks ls : List Tm) (va vb : Value) (w : World), KRd w n va ks → KRd w m vb ls → ks.length + wides ks ≤ 1048576 → ls.length + wides ls ≤ 1048576 → (∀ j, j < ks.length → shape h (ks.getD j tz) = true) →
  Calls Tryd.prog F (#[va, vb] ++ args) w fun e w' => e = .returned (.bool (sameL (sameT h) ks ls)) ∧ Below w.heap.size w w'
set_option maxRecDepth 100000 in
set_option maxHeartbeats 4000000 in
theorem sameTerm_of (h : Nat) (ih : CmpL 169 #[.func (.func 153) #[] #[]] h) : Cmp 153 (h + 1) := by
  intro n m a b va vb w ha hb hwa hwb hs
  obtain ⟨hfm, hks⟩ := shape_at hs
  have HI := hid ih
  have HA := hid ha
  have HB := hid hb
  have HWa := hid hwa
  have HWb := hid hwb
  have HKs := hid hks
  have HEa := hid (wide_eq a)
  have HEb := hid (wide_eq b)
  clear ih hwa hwb hs hfm hks
  obtain ⟨sa, ca, rfl⟩ := ha.slice
  obtain ⟨sb, cb, rfl⟩ := hb.slice
  clear ha hb
  obtain ⟨x0, x1, x2, lx, hp⟩ := Pt.of a
  obtain ⟨y0, y1, y2, ly, hq⟩ := Pt.of b
  rw [hp.val, hq.val]
  have HS := hid (show sameT (h + 1) a b = ((x0 == y0) && ((x1 == y1) && ((x2.toList == y2.toList) && sameL (sameT h) a.kids b.kids))) by rw [sameT, hp.k, hp.n, hp.s, hq.k, hq.n, hq.s])
  rw [hp.l] at HA ⊢
  rw [hq.l] at HB ⊢
  clear hp hq
  have hb1 := (Below.refl w.heap.size w).alloc (Nat.le_refl _) (.cells #[.int .i64 x0, .int .i64 x1, .string x2, .slice sa lx ca] 28)
  have HB2 := hid (hb1.alloc hb1.size (.cells #[.int .i64 y0, .int .i64 y1, .string y2, .slice sb ly cb] 28))
  clear hb1
  cases h0 : (x0 == y0)
  · have H0 := hid h0
    go_enter Tryd.func153, Tryd.ntmps153
    go_wp2_with fail
    go_ret
    exact ⟨bool_eq (by rw [HS.out, H0.out]; rfl), HB2.out⟩
  cases h1 : (x1 == y1)
  · have H0 := hid h0
    have H1 := hid h1
    go_enter Tryd.func153, Tryd.ntmps153
    go_wp2_with fail
    go_ret
    exact ⟨bool_eq (by rw [HS.out, H0.out, H1.out]; rfl), HB2.out⟩
  cases h2 : (x2.toList == y2.toList)
  · have H0 := hid h0
    have H1 := hid h1
    have H2 := hid h2
    go_enter Tryd.func153, Tryd.ntmps153
    go_wp2_with fail
    go_ret
    exact ⟨bool_eq (by rw [HS.out, H0.out, H1.out, H2.out]; rfl), HB2.out⟩
  have H0 := hid h0
  have H1 := hid h1
  have H2 := hid h2
  go_enter Tryd.func153, Tryd.ntmps153
  go_wp2_with fail
  refine (HI.out n m a.kids b.kids _ _ _ (HA.out.on HB2.out) (HB.out.on HB2.out) (by have := HEa.out; have := HWa.out; omega) (by have := HEb.out; have := HWb.out; omega) HKs.out).mono ?_
  rintro e w3 ⟨rfl, hb3⟩
  have HB3 := hid (HB2.out.trans (hb3.mono HB2.out.size))
  obtain ⟨r, hr⟩ : ∃ r, sameL (sameT h) a.kids b.kids = r := ⟨_, rfl⟩
  rw [hr] at HS ⊢
  clear hb3 hr
  go_wp2_with fail
  go_ret
  exact ⟨bool_eq (by rw [HS.out, H0.out, H1.out, H2.out]; rfl), HB3.out⟩
theorem sameFn_enter (xs : Array Value) (w : World) : (callFunc 153 xs).run Tryd.prog w = .ok (.enter 153 xs) w := by kernel_rfl
set_option maxRecDepth 100000 in
set_option maxHeartbeats 4000000 in
theorem equalFunc_of (h : Nat) (hc : Cmp 153 h) : CmpL 169 #[.func (.func 153) #[] #[]] h := by
  intro n m ks ls va vb w ha hb hwa hwb hs
  have HC := hid hc
  have HA := hid ha
  have HB := hid hb
  have HSh := hid hs
  clear hc hs
  obtain ⟨sa, ca, rfl⟩ := ha.slice
  obtain ⟨sb, cb, rfl⟩ := hb.slice
  clear ha hb
  show Calls Tryd.prog 169 #[.slice sa ks.length ca, .slice sb ls.length cb, .func (.func 153) #[] #[]] w _
  by_cases hl : ks.length = ls.length
  case neg =>
    have HNo := hid (sameL_len (f := sameT h) hl)
    have hne : ((ks.length : Int) != (ls.length : Int)) = true := by simp; omega
    go_enter Tryd.func169, Tryd.ntmps169
    go_wp2_with fail
    go_ret
    exact ⟨bool_eq HNo.out.symm, Below.refl _ _⟩
  have HLn := hid hl
  have heq : ((ks.length : Int) != (ls.length : Int)) = false := by simp; omega
  clear hl
  have hen := sameFn_enter
  go_enter Tryd.func169, Tryd.ntmps169
  go_wp2_with fail
  go_loopw [17] (fun y wr => ∃ k : Nat, y = .int .i64 k ∧ k ≤ ks.length ∧ (∀ j, j < k → sameT h (ks.getD j tz) (ls.getD j tz) = true) ∧ Below w.heap.size w wr) (fun y _ => ks.length - (intOf y).toNat)
  case atStart => exact ⟨0, rfl, by omega, fun j hj => by omega, Below.refl _ _⟩
  case round =>
    obtain ⟨k, rfl, hk, hall, hbel⟩ := hrel
    have HAll := hid hall
    have HBe := hid hbel
    have hz := hbel.size
    clear hall hbel heq
    by_cases hlt : k < ks.length
    · have hlt2 : k < ls.length := by have := HLn.out; omega
      obtain ⟨n', b, o, cap', rfl, hv, hg, hcc⟩ := HA.out.cells (by omega)
      obtain ⟨m', b2, o2, cap2, rfl, hv2, hg2, hcc2⟩ := HB.out.cells (by omega)
      simp only [Value.slice.injEq, true_and] at hv hv2
      obtain ⟨rfl, rfl⟩ := hv
      obtain ⟨rfl, rfl⟩ := hv2
      obtain ⟨u, c0, c1, c2, c3, hru⟩ := hcc k hlt
      obtain ⟨u2, d0, d1, d2, d3, hru2⟩ := hcc2 k hlt2
      obtain ⟨su, cu, rfl⟩ := hru.slice
      obtain ⟨su2, cu2, rfl⟩ := hru2.slice
      have q0 := (HBe.out.cell (p := ⟨b, o + k * 4, none⟩) hg).trans c0
      have q1 := (HBe.out.cell (p := ⟨b, o + k * 4 + 1, none⟩) hg).trans c1
      have q2 := (HBe.out.cell (p := ⟨b, o + k * 4 + 2, none⟩) hg).trans c2
      have q3 := (HBe.out.cell (p := ⟨b, o + k * 4 + 3, none⟩) hg).trans c3
      have r0 := (HBe.out.cell (p := ⟨b2, o2 + k * 4, none⟩) hg2).trans d0
      have r1 := (HBe.out.cell (p := ⟨b2, o2 + k * 4 + 1, none⟩) hg2).trans d1
      have r2 := (HBe.out.cell (p := ⟨b2, o2 + k * 4 + 2, none⟩) hg2).trans d2
      have r3 := (HBe.out.cell (p := ⟨b2, o2 + k * 4 + 3, none⟩) hg2).trans d3
      have hwk := wides_at ks k hlt
      have hwk2 := wides_at ls k hlt2
      have HSk := hid (HSh.out k hlt)
      have HNo := hid (fun h' : sameT h (ks.getD k tz) (ls.getD k tz) = false => sameL_no hlt h')
      obtain ⟨t, ht⟩ : ∃ t, ks.getD k tz = t := ⟨_, rfl⟩
      obtain ⟨t2, ht2⟩ : ∃ t, ls.getD k tz = t := ⟨_, rfl⟩
      rw [ht] at q0 q1 q2 q3 hru hwk HSk HNo
      rw [ht2] at r0 r1 r2 r3 hru2 hwk2 HNo
      have HT := hid ht
      have HT2 := hid ht2
      have HR1 := hid (hru.on HBe.out)
      have HR2 := hid (hru2.on HBe.out)
      have HWk := hid (show t.wide ≤ 1048576 by omega)
      have HWk2 := hid (show t2.wide ≤ 1048576 by omega)
      clear hcc hcc2 c0 c1 c2 c3 d0 d1 d2 d3 hru hru2 ht ht2 hwk hwk2
      obtain ⟨x0, x1, x2, lx, hp⟩ := Pt.of t
      obtain ⟨y0, y1, y2, ly, hq⟩ := Pt.of t2
      rw [hp.k] at q0
      rw [hp.n] at q1
      rw [hp.s] at q2
      rw [hp.l] at q3 HR1
      rw [hq.k] at r0
      rw [hq.n] at r1
      rw [hq.s] at r2
      rw [hq.l] at r3 HR2
      have HP := hid hp
      have HQ := hid hq
      clear hp hq
      have ha1 := (Below.refl wr.heap.size wr).alloc (Nat.le_refl _) (.cells #[.int .i64 x0, .int .i64 x1, .string x2, .slice su lx cu] 28)
      have HA2 := hid (ha1.alloc ha1.size (.cells #[.int .i64 y0, .int .i64 y1, .string y2, .slice su2 ly cu2] 28))
      clear ha1
      have hb2r : b2 < wr.heap.size := by omega
      go_wp2_with fail
      rw [← HP.out.val, ← HQ.out.val]
      refine (HC.out _ _ t t2 _ _ _ (HR1.out.on HA2.out) (HR2.out.on HA2.out) HWk.out HWk2.out HSk.out).mono ?_
      rw [HP.out.val, HQ.out.val]
      rintro e w2 ⟨rfl, hb2⟩
      have HB2 := hid ((HBe.out.trans (HA2.out.mono hz)).trans (hb2.mono (HBe.out.trans (HA2.out.mono hz)).size))
      clear hb2 q0 q1 q2 q3 r0 r1 r2 r3
      cases hr : sameT h t t2
      · have HN := hid (HNo.out hr)
        clear hr
        go_wp2_with fail
        go_ret
        exact ⟨bool_eq HN.out.symm, HB2.out⟩
      · have HY := hid hr
        clear hr
        go_wp2_with fail
        go_roundw
        case rel =>
          refine ⟨k + 1, by go_num, by omega, fun j hj => ?_, HB2.out⟩
          by_cases hjk : j < k
          · exact HAll.out j hjk
          · obtain rfl : j = k := by omega
            rw [HT.out, HT2.out]
            exact HY.out
        case measure => simp [intOf]; omega
    · obtain rfl : k = ks.length := by omega
      have HYes := hid (sameL_yes HLn.out HAll.out)
      go_wp2_with fail
      go_ret
      exact ⟨bool_eq HYes.out.symm, HBe.out⟩
theorem sameTerm_c (h : Nat) : Cmp 153 h := by
  induction h with
  | zero => intro n m a b va vb w _ _ _ _ hs; simp [shape] at hs
  | succ h ih => exact sameTerm_of h (equalFunc_of h ih)
end Go.Proofs.YtffibmlgdacafaaDoor.Um
