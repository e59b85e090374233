/- The laws' own helpers over terms: szTerm (how great an argument is), toTerm, eqTerm. -/
import Derived.Test.YtgenojpdjplccaaDoorUm
set_option linter.unusedSimpArgs false
set_option linter.unusedVariables false
namespace Go.Proofs.YtgenojpdjplccaaDoor.Um
open Go.RowKit Pl Ft Mm In C2 Im

/-- What a size tells: just what is left, or -1. -/
def SzP (left : Int) (wd : Nat) (w : World) (e : Ending) (w' : World) : Prop :=
  ∃ x : Int, e = .returned (.int .i64 x) ∧ ((wd : Int) ≤ left ∧ x = left - wd ∨ left < wd ∧ x = -1) ∧ Below w.heap.size w w'
set_option maxHeartbeats 1000000 in
theorem szTerm_of (n : Nat) (ih : ∀ (ks : List Tm) (v : Value) (left : Int) (w : World), KRd w n v ks → Lim n ks → 0 ≤ left → left ≤ 1048576 → Calls Tryd.prog 68 #[v, .int .i64 left] w (SzP left (ks.length + wides ks) w))
    (t : Tm) (kv : Value) (left : Int) (w : World) (hr : KRd w n kv t.kids) (hl : Lim n t.kids) (ht : t.text.size ≤ 9223372036854775807) (h0 : 0 ≤ left) (h1 : left ≤ 1048576) :
    Calls Tryd.prog 28 #[tmVal t kv, .int .i64 left] w (SzP left t.wide w) := by
  have HW := hid (wide_eq t)
  obtain ⟨a, cap, rfl⟩ := hr.slice
  have hnl := hl.len
  have HR := hid hr
  have HL := hid hl
  clear hr hl
  obtain ⟨k, m, s, ks⟩ := t
  unfold tmVal
  simp only [Tm.kind, Tm.num, Tm.text, Tm.kids] at *
  have HX0 := hid (Row.new w 54 #[.int .i64 k, .int .i64 m, .string s, .slice a ks.length cap])
  have HB0 := hid ((Below.refl w.heap.size w).alloc (Nat.le_refl _) (.cells #[.int .i64 k, .int .i64 m, .string s, .slice a ks.length cap] 54))
  by_cases hs : (s.size : Int) ≤ left
  · go_enter Tryd.func28, Tryd.ntmps28
    go_wp2_with fail
    refine (ih ks _ _ _ (HR.out.on HB0.out) HL.out (by omega) (by omega)).mono ?_
    rintro e w1 ⟨x, rfl, hx, hb1⟩
    have HB1 := hid (HB0.out.trans (hb1.mono HB0.out.size))
    clear hb1
    rcases hx with ⟨h2, rfl⟩ | ⟨h2, rfl⟩
    · go_wp2_with fail
      go_ret
      exact ⟨_, rfl, .inl ⟨by rw [HW.out]; omega, by rw [HW.out]; omega⟩, HB1.out⟩
    · go_wp2_with fail
      go_ret
      exact ⟨_, rfl, .inr ⟨by rw [HW.out]; omega, rfl⟩, HB1.out⟩
  · go_enter Tryd.func28, Tryd.ntmps28
    go_wp2_with fail
    go_ret
    exact ⟨_, rfl, .inr ⟨by rw [HW.out]; omega, rfl⟩, HB0.out⟩
set_option maxHeartbeats 1000000 in
theorem szTermS_c (n : Nat) : ∀ (ks : List Tm) (v : Value) (left : Int) (w : World), KRd w n v ks → Lim n ks → 0 ≤ left → left ≤ 1048576 → Calls Tryd.prog 68 #[v, .int .i64 left] w (SzP left (ks.length + wides ks) w) := by
  induction n using Nat.strongRecOn with
  | _ n ih =>
  intro ks v left w hr hl h0 h1
  obtain ⟨a, cap, rfl⟩ := hr.slice
  have hnl := hl.len
  have HR := hid hr
  have HL := hid hl
  have HI := hid ih
  clear hr hl ih
  by_cases h : (ks.length : Int) ≤ left
  case neg =>
    go_enter Tryd.func68, Tryd.ntmps68
    go_wp2_with fail
    go_ret
    exact ⟨_, rfl, .inr ⟨by omega, rfl⟩, Below.refl _ _⟩
  go_enter Tryd.func68, Tryd.ntmps68
  go_wp2_with fail
  go_loopw [1, 5] (fun l c wr => ∃ (k : Nat) (y : Int), c = .int .i64 k ∧ l = .int .i64 y ∧ k ≤ ks.length ∧ 0 ≤ y ∧ y = left - ks.length - wides (ks.take k) ∧ Below w.heap.size w wr) (fun _ c _ => ks.length - (intOf c).toNat)
  case atStart => exact ⟨0, _, rfl, rfl, by omega, by omega, by simp [wides], Below.refl _ _⟩
  case round =>
    obtain ⟨k, y, rfl, rfl, hk, hy0, hy1, hbel⟩ := hrel
    have HBe := hid hbel
    have hz := hbel.size
    have hyl : y ≤ 1048576 := by omega
    have HY := hid hy1
    clear hy1
    by_cases hlt : k < ks.length
    · obtain ⟨m, b, o, cap', rfl, hv, hg, hc⟩ := HR.out.cells (by omega)
      simp only [Value.slice.injEq, true_and] at hv
      obtain ⟨rfl, rfl⟩ := hv
      obtain ⟨u, c0, c1, c2, c3, hru⟩ := hc k hlt
      have q0 := (HBe.out.cell (p := ⟨b, o + k * 4, none⟩) hg).trans c0
      have q1 := (HBe.out.cell (p := ⟨b, o + k * 4 + 1, none⟩) hg).trans c1
      have q2 := (HBe.out.cell (p := ⟨b, o + k * 4 + 2, none⟩) hg).trans c2
      have q3 := (HBe.out.cell (p := ⟨b, o + k * 4 + 3, none⟩) hg).trans c3
      have hlk := HL.out.2 k hlt
      have HS := hid (wides_snoc ks k hlt)
      have HA := hid (wides_take_le ks (k + 1))
      obtain ⟨t, ht⟩ : ∃ t, ks.getD k tz = t := ⟨_, rfl⟩
      rw [ht] at q0 q1 q2 hru hlk HS
      have HRu := hid (hru.on HBe.out)
      have HLu := hid hlk.2
      have hts := hlk.1
      clear hc c0 c1 c2 c3 hru hlk ht
      obtain ⟨x0, hx0⟩ : ∃ x, t.kind = x := ⟨_, rfl⟩
      obtain ⟨x1, hx1⟩ : ∃ x, t.num = x := ⟨_, rfl⟩
      obtain ⟨x2, hx2⟩ : ∃ x, t.text = x := ⟨_, rfl⟩
      have HV := hid (show tmVal t u = .agg #[.int .i64 x0, .int .i64 x1, .string x2, u] by rw [tmVal, hx0, hx1, hx2])
      have HTs := hid hts
      rw [hx0] at q0
      rw [hx1] at q1
      rw [hx2] at q2
      clear hx0 hx1 hx2 hts
      go_wp2_with fail
      rw [← HV.out]
      refine (szTerm_of m (HI.out m (by omega)) t u y _ HRu.out HLu.out HTs.out hy0 hyl).mono ?_
      rintro e w2 ⟨y2, rfl, hy2, hb2⟩
      have HB2 := hid (HBe.out.trans (hb2.mono hz))
      clear hb2
      rcases hy2 with ⟨h2, rfl⟩ | ⟨h2, rfl⟩
      · obtain ⟨z, hz⟩ : ∃ z, y - (t.wide : Int) = z := ⟨_, rfl⟩
        rw [hz]
        have hz0 : 0 ≤ z := by omega
        have HZ := hid hz
        clear hz
        go_wp2_with fail
        go_roundw
        case rel => exact ⟨k + 1, z, by go_num, rfl, by omega, hz0, by have := HY.out; have := HS.out; have := HZ.out; omega, HB2.out⟩
        case measure => simp [intOf]; omega
      · go_wp2_with fail
        go_ret
        exact ⟨-1, rfl, .inr ⟨by have := HY.out; have := HS.out; have := HA.out; omega, rfl⟩, HB2.out⟩
    · obtain rfl : k = ks.length := by omega
      clear hbel
      go_wp2_with fail
      go_ret
      have := HY.out
      rw [List.take_length] at this
      exact ⟨y, rfl, .inl ⟨by omega, by omega⟩, HBe.out⟩
theorem szTerm_c (n : Nat) (t : Tm) (kv : Value) (left : Int) (w : World) (hr : KRd w n kv t.kids) (hl : Lim n t.kids) (ht : t.text.size ≤ 9223372036854775807) (h0 : 0 ≤ left) (h1 : left ≤ 1048576) :
    Calls Tryd.prog 28 #[tmVal t kv, .int .i64 left] w (SzP left t.wide w) := szTerm_of n (szTermS_c n) t kv left w hr hl ht h0 h1
end Go.Proofs.YtgenojpdjplccaaDoor.Um
