/- InsPut of the program: what it returns. -/
import Derived.Test.YtihhpgklpichgabC2f
import Derived.Test.YtihhpgklpichgabFormTab
set_option linter.unusedSimpArgs false
set_option linter.unusedVariables false
namespace Go.Proofs.Ytihhpgklpichgab.C2
open Go.RowKit Pl Ft Mm

def PutPost (o : Option (List Int)) (w : World) (e : Ending) (w' : World) : Prop :=
  ∃ v, e = .returned (.tuple #[v, .bool o.isSome]) ∧ Below w.heap.size w w' ∧ (o = none → v = .slice none 0 0) ∧ (∀ l, o = some l → w'.ownsRow w.heap.size 3 1 v l.length (ints l))
theorem putPost_no {o : Option (List Int)} {w w' : World} (h : o = none) (hb : Below w.heap.size w w') : PutPost o w (.returned (.tuple #[.slice none 0 0, .bool false])) w' := by
  subst h
  exact ⟨_, rfl, hb, fun _ => rfl, fun l hl => by cases hl⟩
theorem putPost_yes {o : Option (List Int)} {w w' : World} {v : Value} {l : List Int} (h : o = some l) (hb : Below w.heap.size w w') (hown : w'.ownsRow w.heap.size 3 1 v l.length (ints l)) : PutPost o w (.returned (.tuple #[v, .bool true])) w' := by
  subst h
  exact ⟨_, rfl, hb, fun h => (by cases h), fun l' hl => (by cases hl; exact hown)⟩
structure PutRel (i : IIns) (next : Int) (l : List Nat) (first : Int) (w : World) (B : Nat) (vt : Value) (v : Value) (k : Nat) (wr : World) : Prop where
  le : k ≤ l.length
  fits : ∀ c ∈ l.take k, letterFit c i next = true
  own : wr.ownsRow B 3 1 v (first :: putList (l.take k) i next).length (ints (first :: putList (l.take k) i next))
  box : Row wr w.heap.size 24 #[.int .i64 i.op, .int .i64 i.a, .int .i64 i.b, .int .i64 i.n]
  tails : wr.ownsRow w.heap.size 86 1 vt l.length (l.map tailOf)
  tb : ∀ g, vt.ownBlock = some g → g < B
  size : B ≤ wr.heap.size
  more : w.heap.size < B
  bel : Below w.heap.size w wr
theorem insPut_none {i : IIns} {at_ : Int} (hf : formOf i = none) : insPut i at_ = none := by simp [insPut, hf]
theorem insPut_out {i : IIns} {at_ : Int} (h : inR 8 at_ = false) : insPut i at_ = none := by
  unfold insPut
  split
  · rfl
  · rw [h]; rfl
theorem insPut_far {i : IIns} {at_ : Int} {f : IForm} (hf : formOf i = some f) {c : Nat} (hc : c ∈ letters f.follows) (h : letterFit c i (at_ + longOf (letters f.follows)) = false) : insPut i at_ = none := by
  unfold insPut
  rw [hf]
  simp only
  split
  · rw [if_neg]
    intro ha
    have := List.all_eq_true.1 ha c hc
    rw [h] at this
    cases this
  · rfl
theorem insPut_some {i : IIns} {at_ : Int} {f : IForm} (hf : formOf i = some f) (hin : inR 8 at_ = true) (h : ∀ c ∈ letters f.follows, letterFit c i (at_ + longOf (letters f.follows)) = true) : insPut i at_ = some (firstByte f i :: putList (letters f.follows) i (at_ + longOf (letters f.follows))) := by
  unfold insPut
  rw [hf]
  simp only
  rw [if_pos hin, if_pos (List.all_eq_true.2 h)]
theorem insPut_c1 (i : IIns) (at_ : Int) (w : World) (hf : formOf i = none) : Calls Try.prog 23 #[i.val, .int .i64 at_] w (PutPost (insPut i at_) w) := by
  have HF := hid hf
  have HP := hid (insPut_none (at_ := at_) hf)
  clear hf
  obtain ⟨op, a, b, n⟩ := i
  unfold IIns.val
  simp only
  go_enter Try.func23, Try.ntmps23
  go_wp2_with fail
  refine (formOf_c ⟨op, a, b, n⟩ _).mono ?_
  rintro e w1 ⟨rfl, hb⟩
  have HB1 := hid (((Below.refl _ _).alloc (Nat.le_refl _) _).trans (hb.mono (by simp)))
  have hz := hb.size
  simp at hz
  clear hb
  unfold formVal
  rw [HF.out]
  simp only [Option.getD_none, Option.isSome_none]
  unfold IForm.val IForm.none
  simp only
  go_wp2_with fail
  go_ret2
  exact putPost_no HP.out (HB1.out.alloc HB1.out.size _)
theorem insPut_c2 (i : IIns) (at_ : Int) (w : World) (f : IForm) (hf : formOf i = some f) (hin : inR 8 at_ = false) : Calls Try.prog 23 #[i.val, .int .i64 at_] w (PutPost (insPut i at_) w) := by
  have HF := hid hf
  have HIn := hid hin
  have HP := hid (insPut_out (i := i) hin)
  clear hf hin
  obtain ⟨op, a, b, n⟩ := i
  unfold IIns.val
  simp only
  go_enter Try.func23, Try.ntmps23
  go_wp2_with fail
  refine (formOf_c ⟨op, a, b, n⟩ _).mono ?_
  rintro e w1 ⟨rfl, hb⟩
  have HB1 := hid (((Below.refl _ _).alloc (Nat.le_refl _) _).trans (hb.mono (by simp)))
  have hz := hb.size
  simp at hz
  clear hb
  unfold formVal
  rw [HF.out]
  simp only [Option.getD_some, Option.isSome_some]
  obtain ⟨fop, first, added, fa, fb, fn, fol, txt⟩ := f
  unfold IForm.val
  simp only
  go_wp2_with (go_at_call 64; refine (has_c _ _ _).mono ?_; rw [HIn.out]; rintro e w' ⟨rfl, rfl⟩)
  go_ret2
  exact putPost_no HP.out (HB1.out.alloc HB1.out.size _)
theorem PutRel.later {i : IIns} {next : Int} {l : List Nat} {first : Int} {w : World} {B : Nat} {vt v v' : Value} {k : Nat} {wr w1 : World} (h : PutRel i next l first w B vt v k wr) (hlt : k < l.length) (hfit : letterFit l[k] i next = true)
    (hown : w1.ownsRow B 3 1 v' (first :: putList (l.take k) i next ++ letterPut i next l[k]).length (ints (first :: putList (l.take k) i next ++ letterPut i next l[k]))) (hb : Below B wr w1) : PutRel i next l first w B vt v' (k + 1) w1 := by
  have hm := h.more
  have hs := h.size
  refine ⟨by omega, ?_, ?_, h.box.below hb hm, own_below h.tails h.tb hb, h.tb, by have := hb.size; omega, hm, h.bel.trans (hb.mono (by omega))⟩
  · intro c hc
    rw [List.take_succ_eq_append_getElem hlt, List.mem_append, List.mem_singleton] at hc
    rcases hc with hc | rfl
    · exact h.fits c hc
    · exact hfit
  · rw [putList_succ l i next k hlt]
    exact hown
theorem PutRel.on {i : IIns} {next : Int} {l : List Nat} {first : Int} {w : World} {B : Nat} {vt v : Value} {k : Nat} {wr w1 : World} (h : PutRel i next l first w B vt v k wr) (hb : Below wr.heap.size wr w1) : PutRel i next l first w B vt v k w1 :=
  ⟨h.le, h.fits, own_on h.own hb, h.box.on hb, own_on h.tails hb, h.tb, Nat.le_trans h.size hb.size, h.more, h.bel.trans (hb.mono h.bel.size)⟩
set_option maxHeartbeats 800000 in
theorem insPut_c3 (i : IIns) (at_ : Int) (w : World) (f : IForm) (hf : formOf i = some f) (hin : inR 8 at_ = true) : Calls Try.prog 23 #[i.val, .int .i64 at_] w (PutPost (insPut i at_) w) := by
  have HF := hid hf
  have hbd := form_bounds hf
  have hat : 0 ≤ at_ ∧ at_ ≤ 1999 := by simpa [inR, lo, hi] using hin
  have hlb := longOf_bd (letters f.follows)
  rw [letters_len] at hlb
  have HSome := hid (fun h => insPut_some hf hin h)
  have HFar := hid (fun (c : Nat) hc h => insPut_far (at_ := at_) hf (c := c) hc h)
  have HIn := hid hin
  clear hf hin
  obtain ⟨op, a, b, n⟩ := i
  obtain ⟨fop, first, added, fa, fb, fn, fol, txt⟩ := f
  obtain ⟨f0, f1, a0, a1, b0, b1, n0, n1, hl, hs⟩ := hbd
  obtain ⟨at0, at1⟩ := hat
  obtain ⟨lb0, lb1⟩ := hlb
  have HL := hid hl
  clear hl
  obtain ⟨next, hnext⟩ : ∃ next, at_ + longOf (letters fol) = next := ⟨_, rfl⟩
  have nx0 : 0 ≤ next := by simp only at lb0 hs; omega
  have nx1 : next ≤ 3000 := by simp only at lb1 hs; omega
  have HN := hid hnext
  simp only at f0 f1 a0 a1 b0 b1 n0 n1 hs lb0 lb1 HL HSome HFar
  rw [hnext] at HSome HFar
  unfold IIns.val
  simp only
  go_enter Try.func23, Try.ntmps23
  clear hnext
  go_wp2_with fail
  refine (formOf_c ⟨op, a, b, n⟩ _).mono ?_
  rintro e w1 ⟨rfl, hb⟩
  have HB1 := hid (((Below.refl _ _).alloc (Nat.le_refl _) _).trans (hb.mono (by simp)))
  have hr1 := (Row.new w 24 #[.int .i64 op, .int .i64 a, .int .i64 b, .int .i64 n]).on hb
  have HR1 := hid hr1
  have hz := hb.size
  simp at hz
  clear hb hr1
  unfold formVal
  rw [HF.out]
  simp only [Option.getD_some, Option.isSome_some]
  unfold IForm.val
  simp only
  go_wp2_with (go_at_call 64; refine (has_c _ _ _).mono ?_; rw [HIn.out]; rintro e w' ⟨rfl, rfl⟩)
  refine (tails_c ⟨fop, first, added, fa, fb, fn, fol, txt⟩ HL.out hs _).mono ?_
  rintro e w2 ⟨vt, rfl, hown, hb2⟩
  obtain ⟨va, vcap, rfl⟩ := own_slice hown
  simp only at hown
  have hrf := (Row.new w1 77 #[.int .i64 fop, .int .i64 first, .int .i64 added, .int .i64 fa, .int .i64 fb, .int .i64 fn, .string fol, .string txt]).on hb2
  have HO := hid hown
  have HRF := hid hrf
  have HR2 := hid ((HR1.out.alloc _).on hb2)
  have HB2 := hid ((HB1.out.alloc HB1.out.size _).trans (hb2.mono (by simp; omega)))
  have hz2 := hb2.size
  simp at hz2
  clear hown hb2 hrf
  go_wp2_with fail
  refine (longWith_c (letters fol) HL.out (by rw [letters_len]; exact hs) _ (.slice va fol.size vcap) _ (by rw [letters_len]; exact HO.out)).mono ?_
  rintro e w3 ⟨rfl, hb3⟩
  have HO3 := hid (own_on HO.out hb3)
  have HRF3 := hid (HRF.out.on hb3)
  have HR3 := hid (HR2.out.on hb3)
  have HB3 := hid (HB2.out.trans (hb3.mono HB2.out.size))
  have hz3 := hb3.size
  clear hb3
  have q0 := HR3.out.cell 0
  have q1 := HR3.out.cell 1
  have q2 := HR3.out.cell 2
  have q3 := HR3.out.cell 3
  have p0 := HRF3.out.cell 0
  have p1 := HRF3.out.cell 1
  have p2 := HRF3.out.cell 2
  have p3 := HRF3.out.cell 3
  have p4 := HRF3.out.cell 4
  have p5 := HRF3.out.cell 5
  have p6 := HRF3.out.cell 6
  have p7 := HRF3.out.cell 7
  simp at q0 q1 q2 q3 p0 p1 p2 p3 p4 p5 p6 p7
  go_wp2_with fail
  refine (firstByte_c ⟨fop, first, added, fa, fb, fn, fol, txt⟩ ⟨op, a, b, n⟩ f0 (show first ≤ 255 by omega) (show -1000 ≤ a by omega) (show a ≤ 1000 by omega) (show -1000 ≤ b by omega) (show b ≤ 1000 by omega) _).mono ?_
  rintro e w4 ⟨rfl, hb4⟩
  clear q0 q1 q2 q3 p0 p1 p2 p3 p4 p5 p6 p7
  obtain ⟨fb1, hfb1⟩ : ∃ x, firstByte ⟨fop, first, added, fa, fb, fn, fol, txt⟩ ⟨op, a, b, n⟩ = x := ⟨_, rfl⟩
  have HFB := hid hfb1
  rw [hfb1]
  clear hfb1
  have HO4 := hid (own_on HO3.out hb4)
  have HR4 := hid (HR3.out.on hb4)
  have HB4 := hid (HB3.out.trans (hb4.mono HB3.out.size))
  have hz4 := hb4.size
  clear hb4
  go_wp2_with fail
  rw [HN.out]
  go_loopw [10, 39] (fun v c wr => ∃ k : Nat, c = .int .i64 k ∧ PutRel ⟨op, a, b, n⟩ next (letters fol) fb1 w w4.heap.size (.slice va fol.size vcap) v k wr) (fun _ c _ => fol.size - (intOf c).toNat)
  case atStart =>
    refine ⟨0, rfl, ⟨by omega, by simp, ?_, HR4.out.alloc _, ?_, ?_, by simp, by have := HR4.out.lt; omega, HB4.out.alloc HB4.out.size _⟩⟩
    · exact World.ownsRow_lit (base := w4.heap.size) w4 #[.int .i64 fb1] 1 (Nat.le_refl _) (by decide) rfl
    · have := own_mono (base' := w.heap.size) (HO4.out.alloc (.cells #[.int .i64 fb1] 3)) (by have := HB1.out.size; simp; omega)
      rw [letters_len]
      exact this
    · intro g hg
      exact (HO4.out.lt g hg).2
  case round =>
    obtain ⟨k, rfl, hrel⟩ := hrel
    have hle := hrel.le
    rw [letters_len] at hle
    by_cases hlt : k < (letters fol).length
    · have hlt' := hlt
      rw [letters_len] at hlt'
      obtain ⟨g, cap', hv, hg1, hg2⟩ := own_addr hrel.tails (by omega)
      have hva : va = some ⟨g, 0, none⟩ := by simp at hv; exact hv.1
      subst hva
      have htl := hrel.tails
      have hcl := htl.cells (g := g) rfl k (tailOf (letters fol)[k]) (by simp [hlt])
      have hck : wr.cell? ⟨g, k, none⟩ = some (tailOf (letters fol)[k]) := by
        have e : (⟨g, 0, none⟩ : Addr).add k = ⟨g, k, none⟩ := by unfold Addr.add; split <;> simp_all
        rw [e] at hcl
        exact hcl
      have hc := HL.out (letters fol)[k] (List.getElem_mem hlt)
      have hbx : -9223372036854775808 ≤ letterNum (letters fol)[k] ⟨op, a, b, n⟩ next ∧ letterNum (letters fol)[k] ⟨op, a, b, n⟩ next ≤ 9223372036854775807 := by
        unfold letterNum
        simp only
        (repeat' split) <;> omega
      have hpl : (fb1 :: putList ((letters fol).take k) ⟨op, a, b, n⟩ next).length ≤ 100 := by
        have h1 := putList_len ((letters fol).take k) ⟨op, a, b, n⟩ next
        have h2 := longOf_bd ((letters fol).take k)
        have h3 : ((letters fol).take k).length ≤ k := List.length_take_le _ _
        simp only [List.length_cons]
        omega
      have q0 := hrel.box.cell 0
      have q1 := hrel.box.cell 1
      have q2 := hrel.box.cell 2
      have q3 := hrel.box.cell 3
      simp at q0 q1 q2 q3
      have HR := hid hrel
      clear hrel hcl htl hv
      rcases letter_of hc with h | h | h | h | h | h
      · rw [h] at hck hbx
        have HH := hid h
        clear h hc
        simp [tailOf, rTail, nTail, cTail, jTail] at hck
        go_wp2_with fail
        refine (rNum_c ⟨op, a, b, n⟩ _ (show -1000 ≤ a by omega) (show a ≤ 1000 by omega) (show -1000 ≤ b by omega) (show b ≤ 1000 by omega) _).mono ?_
        rintro e w5 ⟨rfl, hb5⟩
        have HR5 := hid (HR.out.on hb5)
        clear hb5
        cases hfit : letterFit 114 ⟨op, a, b, n⟩ next
        · have HFit := hid hfit
          clear hfit
          go_wp2_with fail
          go_ret2
          exact putPost_no (HFar.out 114 (by rw [← HH.out]; exact List.getElem_mem hlt) HFit.out) HR5.out.bel
        · have HFit := hid hfit
          clear hfit
          go_wp2_with (first | (go_at_call 155; refine (rLong_c _).mono ?_; rintro e w6 ⟨rfl, hb6⟩) | (go_at_call 158; refine (nLong_c _ _ _).mono ?_; rintro e w6 ⟨rfl, hb6⟩) | (go_at_call 162; refine (cLong_c _).mono ?_; rintro e w6 ⟨rfl, hb6⟩) | (go_at_call 165; refine (jLong_c _).mono ?_; rintro e w6 ⟨rfl, hb6⟩))
          have HR6 := hid (HR5.out.on hb6)
          clear hb6
          refine (withBytes_c w4.heap.size (fb1 :: putList ((letters fol).take k) ⟨op, a, b, n⟩ next) (letterNum 114 ⟨op, a, b, n⟩ next) 1 _ _ HR6.out.own HR6.out.size (by omega) (Nat.le_trans hpl (by decide)) hbx.1 hbx.2).mono ?_
          rintro e w7 ⟨v7, rfl, hown7, hb7⟩
          have HR7 := hid (HR6.out.later (v' := v7) hlt (by rw [HH.out]; exact HFit.out) (by rw [HH.out]; exact hown7) hb7)
          clear hown7 hb7
          go_wp2_with fail
          go_roundw
          case rel => exact ⟨k + 1, by go_num, HR7.out⟩
          case measure => simp [intOf]; omega
      · rw [h] at hck hbx
        have HH := hid h
        clear h hc
        simp [tailOf, rTail, nTail, cTail, jTail] at hck
        go_wp2_with fail
        refine (nNum_c 98 (by simp) 1 false ⟨op, a, b, n⟩ _ _).mono ?_
        rintro e w5 ⟨rfl, hb5⟩
        have HR5 := hid (HR.out.on hb5)
        clear hb5
        cases hfit : letterFit 98 ⟨op, a, b, n⟩ next
        · have HFit := hid hfit
          clear hfit
          go_wp2_with fail
          go_ret2
          exact putPost_no (HFar.out 98 (by rw [← HH.out]; exact List.getElem_mem hlt) HFit.out) HR5.out.bel
        · have HFit := hid hfit
          clear hfit
          go_wp2_with (first | (go_at_call 155; refine (rLong_c _).mono ?_; rintro e w6 ⟨rfl, hb6⟩) | (go_at_call 158; refine (nLong_c _ _ _).mono ?_; rintro e w6 ⟨rfl, hb6⟩) | (go_at_call 162; refine (cLong_c _).mono ?_; rintro e w6 ⟨rfl, hb6⟩) | (go_at_call 165; refine (jLong_c _).mono ?_; rintro e w6 ⟨rfl, hb6⟩))
          have HR6 := hid (HR5.out.on hb6)
          clear hb6
          refine (withBytes_c w4.heap.size (fb1 :: putList ((letters fol).take k) ⟨op, a, b, n⟩ next) (letterNum 98 ⟨op, a, b, n⟩ next) 1 _ _ HR6.out.own HR6.out.size (by omega) (Nat.le_trans hpl (by decide)) hbx.1 hbx.2).mono ?_
          rintro e w7 ⟨v7, rfl, hown7, hb7⟩
          have HR7 := hid (HR6.out.later (v' := v7) hlt (by rw [HH.out]; exact HFit.out) (by rw [HH.out]; exact hown7) hb7)
          clear hown7 hb7
          go_wp2_with fail
          go_roundw
          case rel => exact ⟨k + 1, by go_num, HR7.out⟩
          case measure => simp [intOf]; omega
      · rw [h] at hck hbx
        have HH := hid h
        clear h hc
        simp [tailOf, rTail, nTail, cTail, jTail] at hck
        go_wp2_with fail
        refine (nNum_c 115 (by simp) 1 true ⟨op, a, b, n⟩ _ _).mono ?_
        rintro e w5 ⟨rfl, hb5⟩
        have HR5 := hid (HR.out.on hb5)
        clear hb5
        cases hfit : letterFit 115 ⟨op, a, b, n⟩ next
        · have HFit := hid hfit
          clear hfit
          go_wp2_with fail
          go_ret2
          exact putPost_no (HFar.out 115 (by rw [← HH.out]; exact List.getElem_mem hlt) HFit.out) HR5.out.bel
        · have HFit := hid hfit
          clear hfit
          go_wp2_with (first | (go_at_call 155; refine (rLong_c _).mono ?_; rintro e w6 ⟨rfl, hb6⟩) | (go_at_call 158; refine (nLong_c _ _ _).mono ?_; rintro e w6 ⟨rfl, hb6⟩) | (go_at_call 162; refine (cLong_c _).mono ?_; rintro e w6 ⟨rfl, hb6⟩) | (go_at_call 165; refine (jLong_c _).mono ?_; rintro e w6 ⟨rfl, hb6⟩))
          have HR6 := hid (HR5.out.on hb6)
          clear hb6
          refine (withBytes_c w4.heap.size (fb1 :: putList ((letters fol).take k) ⟨op, a, b, n⟩ next) (letterNum 115 ⟨op, a, b, n⟩ next) 1 _ _ HR6.out.own HR6.out.size (by omega) (Nat.le_trans hpl (by decide)) hbx.1 hbx.2).mono ?_
          rintro e w7 ⟨v7, rfl, hown7, hb7⟩
          have HR7 := hid (HR6.out.later (v' := v7) hlt (by rw [HH.out]; exact HFit.out) (by rw [HH.out]; exact hown7) hb7)
          clear hown7 hb7
          go_wp2_with fail
          go_roundw
          case rel => exact ⟨k + 1, by go_num, HR7.out⟩
          case measure => simp [intOf]; omega
      · rw [h] at hck hbx
        have HH := hid h
        clear h hc
        simp [tailOf, rTail, nTail, cTail, jTail] at hck
        go_wp2_with fail
        refine (nNum_c 119 (by simp) 2 false ⟨op, a, b, n⟩ _ _).mono ?_
        rintro e w5 ⟨rfl, hb5⟩
        have HR5 := hid (HR.out.on hb5)
        clear hb5
        cases hfit : letterFit 119 ⟨op, a, b, n⟩ next
        · have HFit := hid hfit
          clear hfit
          go_wp2_with fail
          go_ret2
          exact putPost_no (HFar.out 119 (by rw [← HH.out]; exact List.getElem_mem hlt) HFit.out) HR5.out.bel
        · have HFit := hid hfit
          clear hfit
          go_wp2_with (first | (go_at_call 155; refine (rLong_c _).mono ?_; rintro e w6 ⟨rfl, hb6⟩) | (go_at_call 158; refine (nLong_c _ _ _).mono ?_; rintro e w6 ⟨rfl, hb6⟩) | (go_at_call 162; refine (cLong_c _).mono ?_; rintro e w6 ⟨rfl, hb6⟩) | (go_at_call 165; refine (jLong_c _).mono ?_; rintro e w6 ⟨rfl, hb6⟩))
          have HR6 := hid (HR5.out.on hb6)
          clear hb6
          refine (withBytes_c w4.heap.size (fb1 :: putList ((letters fol).take k) ⟨op, a, b, n⟩ next) (letterNum 119 ⟨op, a, b, n⟩ next) 2 _ _ HR6.out.own HR6.out.size (by omega) (Nat.le_trans hpl (by decide)) hbx.1 hbx.2).mono ?_
          rintro e w7 ⟨v7, rfl, hown7, hb7⟩
          have HR7 := hid (HR6.out.later (v' := v7) hlt (by rw [HH.out]; exact HFit.out) (by rw [HH.out]; exact hown7) hb7)
          clear hown7 hb7
          go_wp2_with fail
          go_roundw
          case rel => exact ⟨k + 1, by go_num, HR7.out⟩
          case measure => simp [intOf]; omega
      · rw [h] at hck hbx
        have HH := hid h
        clear h hc
        simp [tailOf, rTail, nTail, cTail, jTail] at hck
        go_wp2_with fail
        refine (cNum_c ⟨op, a, b, n⟩ _ _).mono ?_
        rintro e w5 ⟨rfl, hb5⟩
        have HR5 := hid (HR.out.on hb5)
        clear hb5
        cases hfit : letterFit 116 ⟨op, a, b, n⟩ next
        · have HFit := hid hfit
          clear hfit
          go_wp2_with fail
          go_ret2
          exact putPost_no (HFar.out 116 (by rw [← HH.out]; exact List.getElem_mem hlt) HFit.out) HR5.out.bel
        · have HFit := hid hfit
          clear hfit
          go_wp2_with (first | (go_at_call 155; refine (rLong_c _).mono ?_; rintro e w6 ⟨rfl, hb6⟩) | (go_at_call 158; refine (nLong_c _ _ _).mono ?_; rintro e w6 ⟨rfl, hb6⟩) | (go_at_call 162; refine (cLong_c _).mono ?_; rintro e w6 ⟨rfl, hb6⟩) | (go_at_call 165; refine (jLong_c _).mono ?_; rintro e w6 ⟨rfl, hb6⟩))
          have HR6 := hid (HR5.out.on hb6)
          clear hb6
          refine (withBytes_c w4.heap.size (fb1 :: putList ((letters fol).take k) ⟨op, a, b, n⟩ next) (letterNum 116 ⟨op, a, b, n⟩ next) 1 _ _ HR6.out.own HR6.out.size (by omega) (Nat.le_trans hpl (by decide)) hbx.1 hbx.2).mono ?_
          rintro e w7 ⟨v7, rfl, hown7, hb7⟩
          have HR7 := hid (HR6.out.later (v' := v7) hlt (by rw [HH.out]; exact HFit.out) (by rw [HH.out]; exact hown7) hb7)
          clear hown7 hb7
          go_wp2_with fail
          go_roundw
          case rel => exact ⟨k + 1, by go_num, HR7.out⟩
          case measure => simp [intOf]; omega
      · rw [h] at hck hbx
        have HH := hid h
        clear h hc
        simp [tailOf, rTail, nTail, cTail, jTail] at hck
        go_wp2_with fail
        refine (jNum_c ⟨op, a, b, n⟩ _ (show -1000000 ≤ n by omega) (show n ≤ 1000000 by omega) (by omega) (by omega) _).mono ?_
        rintro e w5 ⟨rfl, hb5⟩
        have HR5 := hid (HR.out.on hb5)
        clear hb5
        cases hfit : letterFit 110 ⟨op, a, b, n⟩ next
        · have HFit := hid hfit
          clear hfit
          go_wp2_with fail
          go_ret2
          exact putPost_no (HFar.out 110 (by rw [← HH.out]; exact List.getElem_mem hlt) HFit.out) HR5.out.bel
        · have HFit := hid hfit
          clear hfit
          go_wp2_with (first | (go_at_call 155; refine (rLong_c _).mono ?_; rintro e w6 ⟨rfl, hb6⟩) | (go_at_call 158; refine (nLong_c _ _ _).mono ?_; rintro e w6 ⟨rfl, hb6⟩) | (go_at_call 162; refine (cLong_c _).mono ?_; rintro e w6 ⟨rfl, hb6⟩) | (go_at_call 165; refine (jLong_c _).mono ?_; rintro e w6 ⟨rfl, hb6⟩))
          have HR6 := hid (HR5.out.on hb6)
          clear hb6
          refine (withBytes_c w4.heap.size (fb1 :: putList ((letters fol).take k) ⟨op, a, b, n⟩ next) (letterNum 110 ⟨op, a, b, n⟩ next) 1 _ _ HR6.out.own HR6.out.size (by omega) (Nat.le_trans hpl (by decide)) hbx.1 hbx.2).mono ?_
          rintro e w7 ⟨v7, rfl, hown7, hb7⟩
          have HR7 := hid (HR6.out.later (v' := v7) hlt (by rw [HH.out]; exact HFit.out) (by rw [HH.out]; exact hown7) hb7)
          clear hown7 hb7
          go_wp2_with fail
          go_roundw
          case rel => exact ⟨k + 1, by go_num, HR7.out⟩
          case measure => simp [intOf]; omega
    · obtain rfl : k = fol.size := by rw [letters_len] at hlt; omega
      have he : (letters fol).take fol.size = letters fol := List.take_of_length_le (by rw [letters_len]; exact Nat.le_refl _)
      have HE := hid he
      have HR := hid hrel
      clear he hrel
      go_wp2_with fail
      go_ret2
      have hfits := HR.out.fits
      have hown := HR.out.own
      rw [HE.out] at hfits hown
      have h1 := HSome.out hfits
      rw [HFB.out] at h1
      exact putPost_yes h1 HR.out.bel (own_mono hown (Nat.le_of_lt HR.out.more))
theorem insPut_c (i : IIns) (at_ : Int) (w : World) : Calls Try.prog 23 #[i.val, .int .i64 at_] w (PutPost (insPut i at_) w) := by
  cases hf : formOf i with
  | none => exact insPut_c1 i at_ w hf
  | some f =>
    cases hin : inR 8 at_
    · exact insPut_c2 i at_ w f hf hin
    · exact insPut_c3 i at_ w f hf hin
end Go.Proofs.Ytihhpgklpichgab.C2
