/- Simpler terms: when a term is plain, by the program and by the model. -/
import Derived.Test.YtffibmlgdacafaaDoorWa
import Derived.Laws.EntriesVeiled
set_option linter.unusedSimpArgs false
set_option linter.unusedVariables false
namespace Go.Proofs.YtffibmlgdacafaaDoor.Um
open Go.RowKit Pl Ft Mm In C2 Im

set_option maxRecDepth 100000 in
set_option maxHeartbeats 4000000 in
theorem everyT_c (n : Nat) (f : Tm → Bool) (ks : List Tm) (v : Value) (w0 : World) (F : Nat) (cs : Array Value) (hr : KRd w0 n v ks) (hl : ks.length ≤ 1000000) (hen : ∀ (xs : Array Value) (w : World), (callFunc F xs).run Tryd.prog w = .ok (.enter F xs) w)
    (hc : ∀ (n' j : Nat) (u : Value) (w : World), j < ks.length → n = n' + 1 → KRd w n' u (ks.getD j tz).kids → Below w0.heap.size w0 w → Calls Tryd.prog F (#[tmVal (ks.getD j tz) u] ++ cs) w fun e w' => e = .returned (.bool (f (ks.getD j tz))) ∧ Below w.heap.size w w') :
    Calls Tryd.prog 168 #[v, .func (.func F) #[] cs] w0 fun e w' => e = .returned (.bool (ks.all f)) ∧ Below w0.heap.size w0 w' := by
  obtain ⟨a, cap, rfl⟩ := hr.slice
  have HR := hid hr
  have HC := hid hc
  have HEn := hid hen
  clear hr hc hen
  go_enter Tryd.func168, Tryd.ntmps168
  go_wp2_with fail
  go_loopw [9] (fun c wr => ∃ k : Nat, c = .int .i64 k ∧ k ≤ ks.length ∧ (ks.take k).all f = true ∧ Below w0.heap.size w0 wr) (fun c _ => ks.length - (intOf c).toNat)
  case atStart => exact ⟨0, rfl, by omega, rfl, Below.refl _ _⟩
  case round =>
    obtain ⟨k, rfl, hk, hall, hbel⟩ := hrel
    have HAll := hid hall
    have HBe := hid hbel
    have hz := hbel.size
    clear hall hbel
    by_cases hlt : k < ks.length
    · obtain ⟨m', b, o, cap', rfl, hv, hg, hc⟩ := HR.out.cells (by omega)
      simp only [Value.slice.injEq, true_and] at hv
      obtain ⟨rfl, rfl⟩ := hv
      obtain ⟨u, c0, c1, c2, c3, hru⟩ := hc k hlt
      have q0 := (HBe.out.cell (p := ⟨b, o + k * 4, none⟩) hg).trans c0
      have q1 := (HBe.out.cell (p := ⟨b, o + k * 4 + 1, none⟩) hg).trans c1
      have q2 := (HBe.out.cell (p := ⟨b, o + k * 4 + 2, none⟩) hg).trans c2
      have q3 := (HBe.out.cell (p := ⟨b, o + k * 4 + 3, none⟩) hg).trans c3
      have HT := hid (show (ks.take (k + 1)).all f = ((ks.take k).all f && f (ks.getD k tz)) by rw [take_snoc ks k hlt, List.all_append]; simp)
      have HNo := hid (show f (ks.getD k tz) = false → ks.all f = false from fun h => by rw [List.all_eq_false]; exact ⟨ks.getD k tz, by simp [hlt], by rw [h]; decide⟩)
      have HCk := hid (fun (u : Value) (w : World) => HC.out m' k u w hlt rfl)
      obtain ⟨t2, ht⟩ : ∃ t, ks.getD k tz = t := ⟨_, rfl⟩
      rw [ht] at q0 q1 q2 hru HT HNo
      simp only [ht] at HCk
      obtain ⟨su, cu, rfl⟩ := hru.slice
      obtain ⟨y0, y1, y2, ly, hq⟩ := Pt.of t2
      rw [hq.k] at q0
      rw [hq.n] at q1
      rw [hq.s] at q2
      rw [hq.l] at q3 hru
      have hAl := (Below.refl wr.heap.size wr).alloc (Nat.le_refl _) (.cells #[.int .i64 y0, .int .i64 y1, .string y2, .slice su ly cu] 28)
      have HRu := hid ((hru.on HBe.out).on hAl)
      have HQ := hid hq
      have HBeA := hid (HBe.out.trans (hAl.mono hz))
      have hen := HEn.out
      clear hc c0 c1 c2 c3 hru ht hq hAl
      go_wp2_with fail
      rw [← HQ.out.val]
      refine (HCk.out _ _ HRu.out HBeA.out).mono ?_
      rintro e w3 ⟨rfl, hb3⟩
      have HB3 := hid (HBeA.out.trans (hb3.mono HBeA.out.size))
      clear hb3 q0 q1 q2 q3 hen
      cases hb : f t2
      · have HB := hid hb
        clear hb
        go_wp2_with fail
        go_ret
        exact ⟨by rw [HNo.out HB.out]; rfl, HB3.out⟩
      · have HB := hid hb
        clear hb
        go_wp2_with fail
        go_roundw
        case rel => exact ⟨k + 1, by go_num, by omega, by rw [HT.out, HAll.out, HB.out]; rfl, HB3.out⟩
        case measure => simp [intOf]; omega
    · obtain rfl : k = ks.length := by omega
      have hal := HAll.out
      rw [List.take_length] at hal
      have HAl := hid hal
      clear hal
      go_wp2_with fail
      go_ret
      exact ⟨by rw [HAl.out]; rfl, HBe.out⟩
theorem isPlain_enter (xs : Array Value) (w : World) : (callFunc 152 xs).run Tryd.prog w = .ok (.enter 152 xs) w := by kernel_rfl
set_option maxRecDepth 100000 in
set_option maxHeartbeats 4000000 in
theorem isPlain_c (h : Nat) : ∀ (n : Nat) (t : Tm) (kv : Value) (w : World), KRd w n kv t.kids → shape h t = true →
    Calls Tryd.prog 152 #[tmVal t kv] w fun e w' => e = .returned (.bool t.plain) ∧ Below w.heap.size w w' := by
  induction h with
  | zero => intro n t kv w _ hs; simp [shape] at hs
  | succ h ih =>
    intro n t kv w hr hs
    obtain ⟨hf, hks⟩ := shape_at hs
    have HI := hid ih
    have HR := hid hr
    have HSh := hid hks
    have hk2 := form_kids hf
    have HPe := hid (plain_eq t)
    obtain ⟨a, cap, rfl⟩ := hr.slice
    clear ih hr hs hks hf
    obtain ⟨x0, x1, x2, lk, hp⟩ := Pt.of t
    rw [hp.val]
    rw [hp.k] at HPe
    rw [hp.l] at hk2 HR ⊢
    have hlk := hp.l
    clear hp
    obtain ⟨ks, hks⟩ : ∃ l, t.kids = l := ⟨_, rfl⟩
    rw [hks] at HR hlk HSh HPe
    clear hks
    subst hlk
    have HB0 := hid ((Below.refl w.heap.size w).alloc (Nat.le_refl _) (.cells #[.int .i64 x0, .int .i64 x1, .string x2, .slice a ks.length cap] 28))
    by_cases h4 : x0 = 4
    · subst h4
      have HP := hid (show t.plain = false by rw [HPe.out]; rfl)
      go_enter Tryd.func152, Tryd.ntmps152
      go_wp2_with fail
      go_ret
      exact ⟨bool_eq HP.out.symm, HB0.out⟩
    by_cases h5 : x0 = 5
    · subst h5
      have HP := hid (show t.plain = false by rw [HPe.out]; rfl)
      go_enter Tryd.func152, Tryd.ntmps152
      go_wp2_with fail
      go_ret
      exact ⟨bool_eq HP.out.symm, HB0.out⟩
    have h4' : (x0 == 4) = false := by simpa using h4
    have h5' : (x0 == 5) = false := by simpa using h5
    have HP := hid (show t.plain = ks.all Tm.plain by rw [HPe.out, h4', h5']; rfl)
    have HF4 := hid h4'
    have HF5 := hid h5'
    clear h4' h5'
    go_enter Tryd.func152, Tryd.ntmps152
    go_wp2_with fail
    refine (everyT_c n Tm.plain ks _ _ 152 #[] (HR.out.on HB0.out) (by omega) isPlain_enter (fun n' j u wx hj _ hu _ => HI.out n' _ u wx hu (HSh.out j hj))).mono ?_
    rintro e w1 ⟨rfl, hb1⟩
    rw [← HP.out]
    have HB1 := hid (HB0.out.trans (hb1.mono HB0.out.size))
    clear hb1
    obtain ⟨b, hb⟩ : ∃ b, t.plain = b := ⟨_, rfl⟩
    rw [hb]
    have HBb := hid hb
    clear hb
    go_wp2_with fail
    go_ret
    exact ⟨bool_eq (by show (!(x0 == 4) && !(x0 == 5) && b) = t.plain; rw [HF4.out, HF5.out, HBb.out]; rfl), HB1.out⟩
end Go.Proofs.YtffibmlgdacafaaDoor.Um
