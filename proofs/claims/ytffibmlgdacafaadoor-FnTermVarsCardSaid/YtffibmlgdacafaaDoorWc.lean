/- Simpler terms: plain of the model; truths, by the program and by the model. -/
import Derived.Test.YtffibmlgdacafaaDoorWb
set_option linter.unusedSimpArgs false
set_option linter.unusedVariables false
namespace Go.Proofs.YtffibmlgdacafaaDoor.Um
open Go.RowKit Pl Ft Mm In C2 Im

set_option maxRecDepth 100000 in
set_option maxHeartbeats 4000000 in
theorem plain_c (h : Nat) : ∀ (n : Nat) (t : Tm) (kv : Value) (w : World), KRd w n kv t.kids → shape h t = true →
    Calls Tryd.prog 146 #[tmVal t kv] w fun e w' => e = .returned (.bool t.plain) ∧ Below w.heap.size w w' := by
  induction h with
  | zero => intro n t kv w _ hs; simp [shape] at hs
  | succ h ih =>
    intro n t kv w hr hs
    obtain ⟨hf, hks⟩ := shape_at hs
    have HI := hid ih
    have HR := hid hr
    have HSh := hid hks
    have hk2 := form_kids hf
    have HPe := hid (plain_eq t)
    obtain ⟨a, cap, rfl⟩ := hr.slice
    clear ih hr hs hks hf
    obtain ⟨x0, x1, x2, lk, hp⟩ := Pt.of t
    rw [hp.val]
    rw [hp.k] at HPe
    rw [hp.l] at hk2 HR ⊢
    have hlk := hp.l
    clear hp
    obtain ⟨ks, hks⟩ : ∃ l, t.kids = l := ⟨_, rfl⟩
    rw [hks] at HR hlk HSh HPe
    clear hks
    subst hlk
    have HB0 := hid ((Below.refl w.heap.size w).alloc (Nat.le_refl _) (.cells #[.int .i64 x0, .int .i64 x1, .string x2, .slice a ks.length cap] 28))
    have HX0 := hid (Row.new w 28 #[.int .i64 x0, .int .i64 x1, .string x2, .slice a ks.length cap])
    by_cases h4 : x0 = 4
    · subst h4
      have HP := hid (show t.plain = false by rw [HPe.out]; rfl)
      go_enter Tryd.func146, Tryd.ntmps146
      go_wp2_with fail
      go_ret
      exact ⟨bool_eq HP.out.symm, HB0.out⟩
    by_cases h5 : x0 = 5
    · subst h5
      have HP := hid (show t.plain = false by rw [HPe.out]; rfl)
      go_enter Tryd.func146, Tryd.ntmps146
      go_wp2_with fail
      go_ret
      exact ⟨bool_eq HP.out.symm, HB0.out⟩
    have h4' : (x0 == 4) = false := by simpa using h4
    have h5' : (x0 == 5) = false := by simpa using h5
    have HP := hid (show t.plain = ks.all Tm.plain by rw [HPe.out, h4', h5']; rfl)
    go_enter Tryd.func146, Tryd.ntmps146
    go_wp2_with fail
    clear h4 h5 h4' h5'
    go_loopw [3] (fun c wr => ∃ k : Nat, c = .int .i64 k ∧ k ≤ ks.length ∧ (ks.take k).all Tm.plain = true ∧ Row wr w.heap.size 28 #[.int .i64 x0, .int .i64 x1, .string x2, .slice a ks.length cap] ∧ Below w.heap.size w wr) (fun c _ => ks.length - (intOf c).toNat)
    case atStart => exact ⟨0, rfl, by omega, rfl, HX0.out, HB0.out⟩
    case round =>
      obtain ⟨k, rfl, hk, hall, hrx, hbel⟩ := hrel
      have HAll := hid hall
      have HX := hid hrx
      have HBe := hid hbel
      have hz := hbel.size
      have hlx := hrx.lt
      have d3 := hrx.cell 3
      simp at d3
      clear hall hbel hrx
      by_cases hlt : k < ks.length
      · obtain ⟨m', b, o, cap', rfl, hv, hg, hc⟩ := HR.out.cells (by omega)
        simp only [Value.slice.injEq, true_and] at hv
        obtain ⟨rfl, rfl⟩ := hv
        obtain ⟨u, c0, c1, c2, c3, hru⟩ := hc k hlt
        have q0 := (HBe.out.cell (p := ⟨b, o + k * 4, none⟩) hg).trans c0
        have q1 := (HBe.out.cell (p := ⟨b, o + k * 4 + 1, none⟩) hg).trans c1
        have q2 := (HBe.out.cell (p := ⟨b, o + k * 4 + 2, none⟩) hg).trans c2
        have q3 := (HBe.out.cell (p := ⟨b, o + k * 4 + 3, none⟩) hg).trans c3
        have HT := hid (show (ks.take (k + 1)).all Tm.plain = ((ks.take k).all Tm.plain && (ks.getD k tz).plain) by rw [take_snoc ks k hlt, List.all_append]; simp)
        have HNo := hid (show (ks.getD k tz).plain = false → ks.all Tm.plain = false from fun h => by rw [List.all_eq_false]; exact ⟨ks.getD k tz, by simp [hlt], by rw [h]; decide⟩)
        have HShk := hid (HSh.out k hlt)
        obtain ⟨t2, ht⟩ : ∃ t, ks.getD k tz = t := ⟨_, rfl⟩
        rw [ht] at q0 q1 q2 hru HT HNo HShk
        obtain ⟨su, cu, rfl⟩ := hru.slice
        obtain ⟨y0, y1, y2, ly, hq⟩ := Pt.of t2
        rw [hq.k] at q0
        rw [hq.n] at q1
        rw [hq.s] at q2
        rw [hq.l] at q3 hru
        have HRu := hid (hru.on HBe.out)
        have HQ := hid hq
        clear hc c0 c1 c2 c3 hru ht hq
        go_wp2_with fail
        rw [← HQ.out.val]
        refine (HI.out m' t2 _ _ HRu.out HShk.out).mono ?_
        rintro e w3 ⟨rfl, hb3⟩
        have HB3 := hid (HBe.out.trans (hb3.mono hz))
        have HX3 := hid (HX.out.on hb3)
        clear hb3 q0 q1 q2 q3 d3
        cases hb : t2.plain
        · have HB := hid hb
          clear hb
          go_wp2_with fail
          go_ret
          exact ⟨by rw [HP.out, HNo.out HB.out]; rfl, HB3.out⟩
        · have HB := hid hb
          clear hb
          go_wp2_with fail
          go_roundw
          case rel => exact ⟨k + 1, by go_num, by omega, by rw [HT.out, HAll.out, HB.out]; rfl, HX3.out, HB3.out⟩
          case measure => simp [intOf]; omega
      · obtain rfl : k = ks.length := by omega
        have hal := HAll.out
        rw [List.take_length] at hal
        have HAl := hid hal
        clear hal
        go_wp2_with fail
        go_ret
        exact ⟨by rw [HP.out, HAl.out]; rfl, HBe.out⟩
theorem truth_num {n : Int} (h0 : 0 ≤ n) : decide (n ≤ 1) = (n == 0 || n == 1) := by
  rw [Bool.eq_iff_iff]
  simp
  omega
theorem asks_lit : ∀ k, k < 9 → opIs (oprs.getD k .none).text [[61, 61], [60], [60, 60]] = (oprs.getD k .none).asks := by decide
theorem asks_of {s : ByteArray} (h : isOp s = true) : opIs s [[61, 61], [60], [60, 60]] = ((opFound s).getD .none).asks := by
  obtain ⟨k, hk, rfl⟩ := op_mem h
  rw [found_lit k hk, asks_lit k hk]
  rfl
set_option maxHeartbeats 2000000 in
theorem isTruth_c (t : Tm) (kv : Value) (w : World) (hf : t.form = true) (hT : Tabs w) :
    Calls Tryd.prog 155 #[tmVal t kv] w fun e w' => e = .returned (.bool (truthT t)) ∧ Below w.heap.size w w' := by
  obtain ⟨x0, x1, x2, lk, hp⟩ := Pt.of t
  have HE := hid (show truthT t = (x0 == 3 || (x0 == 2 && opIs x2 [[61, 61], [60], [60, 60]] || x0 == 0 && decide (x1 ≤ 1))) by rw [truthT, hp.k, hp.s, hp.n])
  have HT := hid hT
  have HB0 := hid ((Below.refl w.heap.size w).alloc (Nat.le_refl _) (.cells #[.int .i64 x0, .int .i64 x1, .string x2, kv] 28))
  have HX0 := hid (Row.new w 28 #[.int .i64 x0, .int .i64 x1, .string x2, kv])
  clear hT
  by_cases h0 : x0 = 0
  · have hn : 0 ≤ x1 := by
      rcases form_casesP hf with ⟨_, h1, _⟩ | ⟨h, _⟩ | ⟨h, _⟩ | ⟨h, _⟩ | ⟨h, _⟩ | ⟨h, _⟩
      · rw [← hp.n]; exact h1
      all_goals (rw [hp.k] at h; omega)
    have HN := hid (truth_num hn)
    rw [hp.val]
    subst h0
    clear hp hn hf
    by_cases e0 : x1 = 0
    · subst e0
      go_enter Tryd.func155, Tryd.ntmps155
      go_wp2_with fail
      go_ret
      exact ⟨bool_eq (by rw [HE.out]; rfl), HB0.out⟩
    by_cases e1 : x1 = 1
    · subst e1
      go_enter Tryd.func155, Tryd.ntmps155
      go_wp2_with fail
      go_ret
      exact ⟨bool_eq (by rw [HE.out]; rfl), HB0.out⟩
    · go_enter Tryd.func155, Tryd.ntmps155
      go_wp2_with fail
      go_ret
      exact ⟨bool_eq (by rw [HE.out, HN.out]; simp [e0, e1]), HB0.out⟩
  by_cases h2 : x0 = 2
  · have ho : isOp x2 = true := by
      have := (bin_form hf (by rw [hp.k]; exact h2)).2.1
      rwa [hp.s] at this
    have HA := hid (asks_of ho)
    rw [hp.val]
    subst h2
    clear hp ho hf h0
    go_enter Tryd.func155, Tryd.ntmps155
    go_wp2_with fail
    refine (operatorOf_c x2 _ (HT.out.on HB0.out)).mono ?_
    rintro e w1 ⟨rfl, hb1⟩
    have HB1 := hid (HB0.out.trans (hb1.mono HB0.out.size))
    clear hb1
    unfold opPair Opr.val
    obtain ⟨⟨tt, tb, tn⟩, hto⟩ : ∃ o, (opFound x2).getD .none = o := ⟨_, rfl⟩
    obtain ⟨so, hso⟩ : ∃ o, (opFound x2).isSome = o := ⟨_, rfl⟩
    rw [hto] at HA ⊢
    rw [hso]
    simp only at HA ⊢
    clear hto hso
    go_wp2_with fail
    go_ret
    exact ⟨bool_eq (by rw [HE.out, HA.out]; simp), HB1.out.alloc HB1.out.size _⟩
  · rw [hp.val]
    clear hp hf
    go_enter Tryd.func155, Tryd.ntmps155
    go_wp2_with fail
    go_ret
    exact ⟨bool_eq (by rw [HE.out]; simp [h0, h2]), HB0.out⟩
set_option maxHeartbeats 2000000 in
theorem sIsTruth_c (t : Tm) (kv : Value) (w : World) (hf : t.form = true) :
    Calls Tryd.prog 121 #[tmVal t kv] w fun e w' => e = .returned (.bool (truthT t)) ∧ Below w.heap.size w w' := by
  obtain ⟨x0, x1, x2, lk, hp⟩ := Pt.of t
  have HE := hid (show truthT t = (x0 == 3 || (x0 == 2 && opIs x2 [[61, 61], [60], [60, 60]] || x0 == 0 && decide (x1 ≤ 1))) by rw [truthT, hp.k, hp.s, hp.n])
  have HB0 := hid ((Below.refl w.heap.size w).alloc (Nat.le_refl _) (.cells #[.int .i64 x0, .int .i64 x1, .string x2, kv] 28))
  by_cases h3 : x0 = 3
  · rw [hp.val]
    subst h3
    clear hp hf
    go_enter Tryd.func121, Tryd.ntmps121
    go_wp2_with fail
    go_ret
    exact ⟨bool_eq (by rw [HE.out]; rfl), HB0.out⟩
  by_cases h2 : x0 = 2
  · have ho : isOp x2 = true := by
      have := (bin_form hf (by rw [hp.k]; exact h2)).2.1
      rwa [hp.s] at this
    rw [hp.val]
    subst h2
    clear hp hf h3
    rcases op_lit ho with rfl | rfl | rfl | rfl | rfl | rfl | rfl | rfl | rfl
    all_goals
      clear ho
      go_enter Tryd.func121, Tryd.ntmps121
      go_wp2_with fail
      go_ret
      exact ⟨bool_eq (by rw [HE.out]; simp [opIs]), HB0.out⟩
  · rw [hp.val]
    clear hp hf
    by_cases h0 : x0 = 0
    · subst h0
      clear h2 h3
      go_enter Tryd.func121, Tryd.ntmps121
      go_wp2_with fail
      go_ret
      exact ⟨bool_eq (by rw [HE.out]; simp), HB0.out⟩
    · go_enter Tryd.func121, Tryd.ntmps121
      go_wp2_with fail
      go_ret
      exact ⟨bool_eq (by rw [HE.out]; simp [h0, h2, h3]), HB0.out⟩
end Go.Proofs.YtffibmlgdacafaaDoor.Um
