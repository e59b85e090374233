/- The model's put and InsPut: what they return. -/
import Derived.Test.YtihhpgklpichgabC2u
import Derived.Test.YtihhpgklpichgabC2g
import Derived.Deep.CutBlock
set_option linter.unusedSimpArgs false
set_option linter.unusedVariables false
namespace Go.Proofs.Ytihhpgklpichgab.C2
open Go.RowKit Pl Ft Mm

structure SPutRel (i : IIns) (next : Int) (l : List Nat) (first : Int) (w : World) (g : Nat) (f : SForm) (B : Nat) (v : Value) (k : Nat) (wr : World) : Prop where
  le : k ≤ l.length
  fits : ∀ c ∈ l.take k, letterFit c i next = true
  own : wr.ownsRow B 3 1 v (first :: putList (l.take k) i next).length (ints (first :: putList (l.take k) i next))
  box : Row wr w.heap.size 24 #[.int .i64 i.op, .int .i64 i.a, .int .i64 i.b, .int .i64 i.n]
  form : Row wr g 122 f.cells.toArray
  gb : g < B
  size : B ≤ wr.heap.size
  more : w.heap.size < B
  bel : Below w.heap.size w wr
theorem SPutRel.on {i : IIns} {next : Int} {l : List Nat} {first : Int} {w : World} {g : Nat} {f : SForm} {B : Nat} {v : Value} {k : Nat} {wr w1 : World} (h : SPutRel i next l first w g f B v k wr) (hb : Below wr.heap.size wr w1) : SPutRel i next l first w g f B v k w1 :=
  ⟨h.le, h.fits, own_on h.own hb, h.box.on hb, h.form.on hb, h.gb, Nat.le_trans h.size hb.size, h.more, h.bel.trans (hb.mono h.bel.size)⟩
theorem SPutRel.later {i : IIns} {next : Int} {l : List Nat} {first : Int} {w : World} {g : Nat} {f : SForm} {B : Nat} {v v' : Value} {k : Nat} {wr w1 : World} (h : SPutRel i next l first w g f B v k wr) (hlt : k < l.length) (hfit : letterFit l[k] i next = true)
    {news : List Int} (hn : news = letterPut i next l[k]) {m : Nat} (hm : m = news.length)
    (hown : w1.ownsRow B 3 1 v' ((first :: putList (l.take k) i next).length + m) (ints (first :: putList (l.take k) i next) ++ ints news)) {o : Obj} (hg : (wr.alloc o).grownBy w1 v.ownBlock) : SPutRel i next l first w g f B v' (k + 1) w1 := by
  have hmore := h.more
  have hs := h.size
  have hb : Below B wr w1 := ((Below.refl B wr).alloc hs o).grown hg (by simp; omega) (fun q hq => (h.own.lt q hq).1)
  subst hm
  subst hn
  refine ⟨by omega, ?_, ?_, h.box.below hb hmore, h.form.below hb h.gb, h.gb, by have := hb.size; omega, hmore, h.bel.trans (hb.mono (by omega))⟩
  · intro c hc
    rw [List.take_succ_eq_append_getElem hlt, List.mem_append, List.mem_singleton] at hc
    rcases hc with hc | rfl
    · exact h.fits c hc
    · exact hfit
  · rw [putList_succ l i next k hlt]
    have e1 : (first :: (putList (l.take k) i next ++ letterPut i next l[k])).length = (first :: putList (l.take k) i next).length + (letterPut i next l[k]).length := by simp; omega
    have e2 : ints (first :: (putList (l.take k) i next ++ letterPut i next l[k])) = ints (first :: putList (l.take k) i next) ++ ints (letterPut i next l[k]) := by simp [ints]
    rw [e1, e2]
    exact hown
set_option maxRecDepth 100000 in
set_option maxHeartbeats 1000000 in
theorem put_c (i : IIns) (at_ : Int) (hv : validIns i = true) (hat0 : 0 ≤ at_) (hat1 : at_ ≤ 1999) (w : World) :
    Calls Try.prog 70 #[i.val, .int .i64 at_] w (PutPost (sput i at_) w) := by
  have hbd := valid_bounds hv
  clear hv
  obtain ⟨op, a, b, n⟩ := i
  obtain ⟨h0, h30, f0, f1, a0, a1, b0, b1, n0, n1, hl, hs, hfar⟩ := hbd
  simp only at h0 h30 a0 a1 b0 b1 n0 n1 hl hfar
  unfold IIns.val
  simp only
  have c1 := (Below.refl w.heap.size w).alloc (Nat.le_refl _) (.cells #[.int .i64 op, .int .i64 a, .int .i64 b, .int .i64 n] 24)
  have HC1 := hid c1
  clear c1
  obtain ⟨k, rfl⟩ := Int.eq_ofNat_of_zero_le h0
  have hk30 : k ≤ 30 := by omega
  have ek : ((k : Int)).toNat = k := by simp
  simp only [ek] at f0 f1 hl hs
  obtain ⟨f, hf⟩ : ∃ f, stab.getD k .none = f := ⟨_, rfl⟩
  rw [hf] at f0 f1 hl hs
  have HF := hid hf
  have HL := hid hl
  have HFar := hid hfar
  have hsput : sput ⟨k, a, b, n⟩ at_ = (if (isJump ⟨k, a, b, n⟩ && a == 1) = true then some [sfirst f ⟨k, a, b, n⟩ + 8, n % 256, n / 256]
      else if (letters f.rest).all (fun c => letterFit c ⟨k, a, b, n⟩ (at_ + 2)) = true then some (sfirst f ⟨k, a, b, n⟩ :: putList (letters f.rest) ⟨k, a, b, n⟩ (at_ + 2)) else none) := by
    simp only [sput, ek, hf]
  have HSP := hid hsput
  have hsf : 0 ≤ sfirst f ⟨k, a, b, n⟩ ∧ sfirst f ⟨k, a, b, n⟩ ≤ 200 := by
    unfold sfirst
    simp only
    (repeat' split) <;> omega
  obtain ⟨sf, hsfe⟩ : ∃ sf, sfirst f ⟨k, a, b, n⟩ = sf := ⟨_, rfl⟩
  have HSF := hid hsfe
  rw [hsfe] at hsf
  obtain ⟨sf0, sf1⟩ := hsf
  clear hf hl hfar hsput ek hsfe
  go_enter Try.func70, Try.ntmps70
  go_upto_region 1 with fail
  go_cut [6] (fun s6 wx => ∃ g : Nat, s6 = .pointer (some ⟨g, 0, none⟩) ∧ Got (w.alloc (.cells #[.int .i64 k, .int .i64 a, .int .i64 b, .int .i64 n] 24)) f g wx)
  case first =>
    go_region_with (go_at_call 103; refine (sforms_c _).mono ?_; rintro e w1 ⟨g, cap, rfl, hown, hb⟩; have hff := sforms_at hk30 hown; rw [HF.out] at hff; obtain ⟨f0, f1, f2, f3, f4, f5, f6, fl⟩ := hff; obtain ⟨hc, hf⟩ := bcell hb; have hz : w.heap.size < w1.heap.size := (by have := hb.size; simp at this; omega); have HB := hid hb; clear hown hb)
    all_goals
      go_wp2_with fail
      go_meet
      first | exact ⟨_, rfl, .way1 HB.out⟩ | exact ⟨_, rfl, .way2 (by simp) HB.out⟩
  case rest =>
    obtain ⟨g, rfl, hg, hrow, hbel⟩ := hcut
    have hins := ((Row.new w 24 #[.int .i64 k, .int .i64 a, .int .i64 b, .int .i64 n]).on hbel)
    have HIns := hid hins
    have HB := hid (HC1.out.trans (hbel.mono (by simp)))
    have i1 := hins.cell 1
    have i2 := hins.cell 2
    have i3 := hins.cell 3
    have i0 := hins.cell 0
    have p0 := hrow.cell 0
    have p1 := hrow.cell 1
    simp [SForm.cells] at i0 i1 i2 i3 p0 p1
    have hgl := hrow.lt
    have hiz := hins.lt
    have HRow := hid hrow
    clear hins hrow hbel
    go_upto_block 0 with fail
    go_cut [7] (fun s7 wx => s7 = .int .i64 sf ∧ wx = wc)
    case first =>
      cases e1 : f.plus == 97
      · cases e2 : f.plus == 98
        all_goals
          go_wp2_with fail
          go_meet
          refine ⟨?_, rfl⟩
          have := HSF.out
          simp at e1 e2
          rw [← this]
          simp [sfirst, e1, e2]
      · go_wp2_with fail
        go_meet
        refine ⟨?_, rfl⟩
        have := HSF.out
        simp at e1
        rw [← this]
        simp [sfirst, e1]
    case rest =>
      obtain ⟨rfl, rfl⟩ := hcut
      cases hj : isJump ⟨k, a, b, n⟩
      · have HJ := hid hj
        have hspn := HSP.out
        rw [HJ.out, HSF.out] at hspn
        simp only [Bool.false_and, Bool.false_eq_true, if_false] at hspn
        have HSPN := hid hspn
        clear hj hspn
        go_wp2_with (go_at_call 115; refine (isJump_c ⟨k, a, b, n⟩ _).mono ?_; rw [HJ.out]; rintro e w2 ⟨rfl, hb2⟩; have HB2 := hid hb2; have hzz := hb2.size; clear hb2)
        obtain ⟨i0, hi, hz0, hz1, hz2⟩ := info_parts info_int
        have H00 := hid hz0
        have H01 := hid hz1
        have H02 := hid hz2
        have HI0 := hid hi
        clear hz0 hz1 hz2 hi
        go_loopw [8, 9] (fun v c wr => ∃ j : Nat, c = .int .i64 j ∧ SPutRel ⟨k, a, b, n⟩ (at_ + 2) (letters f.rest) sf w g f w2.heap.size v j wr) (fun _ c _ => f.rest.size - (intOf c).toNat)
        case atStart => exact ⟨0, rfl, ⟨by omega, by simp, World.ownsRow_lit (base := w2.heap.size) w2 #[.int .i64 sf] 1 (Nat.le_refl _) (by decide) rfl, (HIns.out.on HB2.out).alloc _, (HRow.out.on HB2.out).alloc _, by omega, by simp, by omega, (HB.out.trans (HB2.out.mono HB.out.size)).alloc (by have := HB.out.size; omega) _⟩⟩
        case round =>
          obtain ⟨j, rfl, hrel⟩ := hrel
          have hle := hrel.le
          rw [letters_len] at hle
          by_cases hlt : j < f.rest.size
          · have hc := HL.out (f.rest[j].toNat) (by rw [← letters_get f.rest j hlt]; exact List.getElem_mem _)
            have HW := hid hc.2
            have hpl : (sf :: putList ((letters f.rest).take j) ⟨k, a, b, n⟩ (at_ + 2)).length ≤ 100 := by
              have h1 := putList_len ((letters f.rest).take j) ⟨k, a, b, n⟩ (at_ + 2)
              have h2 := longOf_bd ((letters f.rest).take j)
              have h3 : ((letters f.rest).take j).length ≤ j := List.length_take_le _ _
              simp only [List.length_cons]
              omega
            have HPL := hid hpl
            have q0 := hrel.box.cell 0
            have q1 := hrel.box.cell 1
            have q2 := hrel.box.cell 2
            have q3 := hrel.box.cell 3
            have q6 := hrel.form.cell 6
            simp [SForm.cells] at q0 q1 q2 q3 q6
            have HR := hid hrel
            have hlc := letter_of hc.1
            clear hrel hpl hc
            rcases hlc with h | h | h | h | h | h
            all_goals have HH := hid h
            · go_wp2_with (at_builtin; refine wpList_append_own _ rfl _ _ 22 rfl w2.heap.size 3 i0 (.int .i64 0) 1 8 Try.underlying22 HI0.out H00.out H01.out H02.out rfl (by decide) _ _ _ rfl (HR.out.own.alloc _) ⟨wr.heap.size, 0, none⟩ 1 1 [.int .i64 (a * 16 + b)] rfl rfl ?c1 ?c2 ?c3 ?c4 ?c5 ?_)
              case c1 => exact new_cells wr _ _ _ rfl
              case c2 => exact ints_one [a * 16 + b]
              case c3 => have := HPL.out; simp only [maxLen]; omega
              case c4 => have := HPL.out; omega
              case c5 => have := HR.out.size; simp; omega
              intro v' w1 hown' hgrow _
              have HR7 := hid (HR.out.later (v' := v') (by rw [letters_len]; exact hlt) (by rw [letters_get f.rest j hlt, HH.out]; exact rfl) (news := [a * 16 + b]) (by rw [letters_get f.rest j hlt, HH.out]; exact letterPut_r (i := ⟨k, a, b, n⟩) (at_ + 2) a0 a1 b0 b1) (m := 1) rfl hown' hgrow)
              clear hown' hgrow
              go_wp2_with fail
              go_roundw
              case rel => exact ⟨j + 1, by go_num, HR7.out⟩
              case measure => simp [intOf]; omega
            · go_wp2_with (at_builtin; refine wpList_append_own _ rfl _ _ 22 rfl w2.heap.size 3 i0 (.int .i64 0) 1 8 Try.underlying22 HI0.out H00.out H01.out H02.out rfl (by decide) _ _ _ rfl (HR.out.own.alloc _) ⟨wr.heap.size, 0, none⟩ 1 1 [.int .i64 (n % 256)] rfl rfl ?c1 ?c2 ?c3 ?c4 ?c5 ?_)
              case c1 => exact new_cells wr _ _ _ rfl
              case c2 => exact ints_one [n % 256]
              case c3 => have := HPL.out; simp only [maxLen]; omega
              case c4 => have := HPL.out; omega
              case c5 => have := HR.out.size; simp; omega
              intro v' w1 hown' hgrow _
              have HR7 := hid (HR.out.later (v' := v') (by rw [letters_len]; exact hlt) (by rw [letters_get f.rest j hlt, HH.out]; exact rfl) (news := [n % 256]) (by rw [letters_get f.rest j hlt, HH.out]; exact (by first | exact letterPut_b (i := ⟨k, a, b, n⟩) (at_ + 2) | exact letterPut_s (i := ⟨k, a, b, n⟩) (at_ + 2))) (m := 1) rfl hown' hgrow)
              clear hown' hgrow
              go_wp2_with fail
              go_roundw
              case rel => exact ⟨j + 1, by go_num, HR7.out⟩
              case measure => simp [intOf]; omega
            · go_wp2_with (at_builtin; refine wpList_append_own _ rfl _ _ 22 rfl w2.heap.size 3 i0 (.int .i64 0) 1 8 Try.underlying22 HI0.out H00.out H01.out H02.out rfl (by decide) _ _ _ rfl (HR.out.own.alloc _) ⟨wr.heap.size, 0, none⟩ 1 1 [.int .i64 (n % 256)] rfl rfl ?c1 ?c2 ?c3 ?c4 ?c5 ?_)
              case c1 => exact new_cells wr _ _ _ rfl
              case c2 => exact ints_one [n % 256]
              case c3 => have := HPL.out; simp only [maxLen]; omega
              case c4 => have := HPL.out; omega
              case c5 => have := HR.out.size; simp; omega
              intro v' w1 hown' hgrow _
              have HR7 := hid (HR.out.later (v' := v') (by rw [letters_len]; exact hlt) (by rw [letters_get f.rest j hlt, HH.out]; exact rfl) (news := [n % 256]) (by rw [letters_get f.rest j hlt, HH.out]; exact (by first | exact letterPut_b (i := ⟨k, a, b, n⟩) (at_ + 2) | exact letterPut_s (i := ⟨k, a, b, n⟩) (at_ + 2))) (m := 1) rfl hown' hgrow)
              clear hown' hgrow
              go_wp2_with fail
              go_roundw
              case rel => exact ⟨j + 1, by go_num, HR7.out⟩
              case measure => simp [intOf]; omega
            · have hn0 : 0 ≤ n := HW.out HH.out
              go_wp2_with (at_builtin; refine wpList_append_own _ rfl _ _ 22 rfl w2.heap.size 3 i0 (.int .i64 0) 1 8 Try.underlying22 HI0.out H00.out H01.out H02.out rfl (by decide) _ _ _ rfl (HR.out.own.alloc _) ⟨wr.heap.size, 0, none⟩ 2 2 [.int .i64 (n % 256), .int .i64 (n / 256)] rfl rfl ?c1 ?c2 ?c3 ?c4 ?c5 ?_)
              case c1 => exact new_cells wr _ _ _ rfl
              case c2 => exact ints_one [n % 256, n / 256]
              case c3 => have := HPL.out; simp only [maxLen]; omega
              case c4 => have := HPL.out; omega
              case c5 => have := HR.out.size; simp; omega
              intro v' w1 hown' hgrow _
              have HR7 := hid (HR.out.later (v' := v') (by rw [letters_len]; exact hlt) (by rw [letters_get f.rest j hlt, HH.out]; exact rfl) (news := [n % 256, n / 256]) (by rw [letters_get f.rest j hlt, HH.out]; exact letterPut_w (i := ⟨k, a, b, n⟩) (at_ + 2) (show 0 ≤ n from hn0) n1) (m := 2) rfl hown' hgrow)
              clear hown' hgrow
              go_wp2_with fail
              go_roundw
              case rel => exact ⟨j + 1, by go_num, HR7.out⟩
              case measure => simp [intOf]; omega
            · go_wp2_with (at_builtin; refine wpList_append_own _ rfl _ _ 22 rfl w2.heap.size 3 i0 (.int .i64 0) 1 8 Try.underlying22 HI0.out H00.out H01.out H02.out rfl (by decide) _ _ _ rfl (HR.out.own.alloc _) ⟨wr.heap.size, 0, none⟩ 1 1 [.int .i64 (b)] rfl rfl ?c1 ?c2 ?c3 ?c4 ?c5 ?_)
              case c1 => exact new_cells wr _ _ _ rfl
              case c2 => exact ints_one [b]
              case c3 => have := HPL.out; simp only [maxLen]; omega
              case c4 => have := HPL.out; omega
              case c5 => have := HR.out.size; simp; omega
              intro v' w1 hown' hgrow _
              have HR7 := hid (HR.out.later (v' := v') (by rw [letters_len]; exact hlt) (by rw [letters_get f.rest j hlt, HH.out]; exact rfl) (news := [b]) (by rw [letters_get f.rest j hlt, HH.out]; exact letterPut_t (i := ⟨k, a, b, n⟩) (at_ + 2) b0 b1) (m := 1) rfl hown' hgrow)
              clear hown' hgrow
              go_wp2_with fail
              go_roundw
              case rel => exact ⟨j + 1, by go_num, HR7.out⟩
              case measure => simp [intOf]; omega
            · have hj110 := h
              cases hfit : letterFit 110 ⟨k, a, b, n⟩ (at_ + 2)
              · have HFit := hid hfit
                have hfit' : inRange (n - at_ - 2) (-128) 127 = false := by
                  have := HFit.out
                  simp only [letterFit, inR, lo, hi, inRange] at this ⊢
                  simp at this ⊢
                  omega
                clear hfit
                go_wp2_with (go_at_call 56; refine (inR_c _ _ _ _).mono ?_; rw [hfit']; rintro e w' ⟨rfl, rfl⟩)
                go_ret2
                refine putPost_no ?_ HR.out.bel
                rw [HSPN.out, if_neg]
                intro hall
                have := List.all_eq_true.1 hall 110 (by rw [← HH.out, ← letters_get f.rest j hlt]; exact List.getElem_mem _)
                rw [HFit.out] at this
                cases this
              · have HFit := hid hfit
                have hfit' : inRange (n - at_ - 2) (-128) 127 = true ∧ -128 ≤ n - at_ - 2 ∧ n - at_ - 2 ≤ 127 := by
                  have := HFit.out
                  simp only [letterFit, inR, lo, hi, inRange] at this ⊢
                  simp at this ⊢
                  omega
                obtain ⟨hfit1, hfit2, hfit3⟩ := hfit'
                have HF1 := hid hfit1
                clear hfit hfit1
                go_wp2_with (first | (go_at_call 56; refine (inR_c _ _ _ _).mono ?_; rw [HF1.out]; rintro e w' ⟨rfl, rfl⟩) | (at_builtin; refine wpList_append_own _ rfl _ _ 22 rfl w2.heap.size 3 i0 (.int .i64 0) 1 8 Try.underlying22 HI0.out H00.out H01.out H02.out rfl (by decide) _ _ _ rfl (HR.out.own.alloc _) ⟨wr.heap.size, 0, none⟩ 1 1 [.int .i64 ((n - at_ - 2) % 256)] rfl rfl ?c1 ?c2 ?c3 ?c4 ?c5 ?_))
                case c1 => exact new_cells wr _ _ _ rfl
                case c2 => exact ints_one [(n - at_ - 2) % 256]
                case c3 => have := HPL.out; simp only [maxLen]; omega
                case c4 => have := HPL.out; omega
                case c5 => have := HR.out.size; simp; omega
                intro v' w1 hown' hgrow _
                have HR7 := hid (HR.out.later (v' := v') (by rw [letters_len]; exact hlt) (by rw [letters_get f.rest j hlt, HH.out]; exact HFit.out) (news := [(n - at_ - 2) % 256]) (by rw [letters_get f.rest j hlt, HH.out]; exact letterPut_j (i := ⟨k, a, b, n⟩) (at_ + 2) (n - at_ - 2) (show n - at_ - 2 = n - (at_ + 2) by omega)) (m := 1) rfl hown' hgrow)
                clear hown' hgrow
                go_wp2_with fail
                go_roundw
                case rel => exact ⟨j + 1, by go_num, HR7.out⟩
                case measure => simp [intOf]; omega
          · obtain rfl : j = f.rest.size := by omega
            have he : (letters f.rest).take f.rest.size = letters f.rest := List.take_of_length_le (by rw [letters_len]; exact Nat.le_refl _)
            have HE := hid he
            have q6 := hrel.form.cell 6
            simp [SForm.cells] at q6
            have HR := hid hrel
            clear he hrel
            go_wp2_with fail
            go_ret2
            have hfits := HR.out.fits
            have hown := HR.out.own
            rw [HE.out] at hfits hown
            refine putPost_yes ?_ HR.out.bel (own_mono hown (Nat.le_of_lt HR.out.more))
            rw [HSPN.out, if_pos (List.all_eq_true.2 hfits)]
      · have HJ := hid hj
        have hn0 := HFar.out hj
        clear hj
        cases ha : a == 1
        · have HA := hid ha
          have hspn := HSP.out
          rw [HJ.out, ha, HSF.out] at hspn
          simp only [Bool.and_false, Bool.false_eq_true, if_false] at hspn
          have HSPN := hid hspn
          clear hspn
          go_wp2_with (go_at_call 115; refine (isJump_c ⟨k, a, b, n⟩ _).mono ?_; rw [HJ.out]; rintro e w2 ⟨rfl, hb2⟩; have i1' := (hb2.cell (p := ⟨w.heap.size, 1, none⟩) hiz).trans i1; have HB2 := hid hb2; have hzz := hb2.size; clear hb2)
          clear i1' ha
          obtain ⟨i0, hi, hz0, hz1, hz2⟩ := info_parts info_int
          have H00 := hid hz0
          have H01 := hid hz1
          have H02 := hid hz2
          have HI0 := hid hi
          clear hz0 hz1 hz2 hi
          go_loopw [8, 9] (fun v c wr => ∃ j : Nat, c = .int .i64 j ∧ SPutRel ⟨k, a, b, n⟩ (at_ + 2) (letters f.rest) sf w g f w2.heap.size v j wr) (fun _ c _ => f.rest.size - (intOf c).toNat)
          case atStart => exact ⟨0, rfl, ⟨by omega, by simp, World.ownsRow_lit (base := w2.heap.size) w2 #[.int .i64 sf] 1 (Nat.le_refl _) (by decide) rfl, (HIns.out.on HB2.out).alloc _, (HRow.out.on HB2.out).alloc _, by omega, by simp, by omega, (HB.out.trans (HB2.out.mono HB.out.size)).alloc (by have := HB.out.size; omega) _⟩⟩
          case round =>
            obtain ⟨j, rfl, hrel⟩ := hrel
            have hle := hrel.le
            rw [letters_len] at hle
            by_cases hlt : j < f.rest.size
            · have hc := HL.out (f.rest[j].toNat) (by rw [← letters_get f.rest j hlt]; exact List.getElem_mem _)
              have HW := hid hc.2
              have hpl : (sf :: putList ((letters f.rest).take j) ⟨k, a, b, n⟩ (at_ + 2)).length ≤ 100 := by
                have h1 := putList_len ((letters f.rest).take j) ⟨k, a, b, n⟩ (at_ + 2)
                have h2 := longOf_bd ((letters f.rest).take j)
                have h3 : ((letters f.rest).take j).length ≤ j := List.length_take_le _ _
                simp only [List.length_cons]
                omega
              have HPL := hid hpl
              have q0 := hrel.box.cell 0
              have q1 := hrel.box.cell 1
              have q2 := hrel.box.cell 2
              have q3 := hrel.box.cell 3
              have q6 := hrel.form.cell 6
              simp [SForm.cells] at q0 q1 q2 q3 q6
              have HR := hid hrel
              have hlc := letter_of hc.1
              clear hrel hpl hc
              rcases hlc with h | h | h | h | h | h
              all_goals have HH := hid h
              · go_wp2_with (at_builtin; refine wpList_append_own _ rfl _ _ 22 rfl w2.heap.size 3 i0 (.int .i64 0) 1 8 Try.underlying22 HI0.out H00.out H01.out H02.out rfl (by decide) _ _ _ rfl (HR.out.own.alloc _) ⟨wr.heap.size, 0, none⟩ 1 1 [.int .i64 (a * 16 + b)] rfl rfl ?c1 ?c2 ?c3 ?c4 ?c5 ?_)
                case c1 => exact new_cells wr _ _ _ rfl
                case c2 => exact ints_one [a * 16 + b]
                case c3 => have := HPL.out; simp only [maxLen]; omega
                case c4 => have := HPL.out; omega
                case c5 => have := HR.out.size; simp; omega
                intro v' w1 hown' hgrow _
                have HR7 := hid (HR.out.later (v' := v') (by rw [letters_len]; exact hlt) (by rw [letters_get f.rest j hlt, HH.out]; exact rfl) (news := [a * 16 + b]) (by rw [letters_get f.rest j hlt, HH.out]; exact letterPut_r (i := ⟨k, a, b, n⟩) (at_ + 2) a0 a1 b0 b1) (m := 1) rfl hown' hgrow)
                clear hown' hgrow
                go_wp2_with fail
                go_roundw
                case rel => exact ⟨j + 1, by go_num, HR7.out⟩
                case measure => simp [intOf]; omega
              · go_wp2_with (at_builtin; refine wpList_append_own _ rfl _ _ 22 rfl w2.heap.size 3 i0 (.int .i64 0) 1 8 Try.underlying22 HI0.out H00.out H01.out H02.out rfl (by decide) _ _ _ rfl (HR.out.own.alloc _) ⟨wr.heap.size, 0, none⟩ 1 1 [.int .i64 (n % 256)] rfl rfl ?c1 ?c2 ?c3 ?c4 ?c5 ?_)
                case c1 => exact new_cells wr _ _ _ rfl
                case c2 => exact ints_one [n % 256]
                case c3 => have := HPL.out; simp only [maxLen]; omega
                case c4 => have := HPL.out; omega
                case c5 => have := HR.out.size; simp; omega
                intro v' w1 hown' hgrow _
                have HR7 := hid (HR.out.later (v' := v') (by rw [letters_len]; exact hlt) (by rw [letters_get f.rest j hlt, HH.out]; exact rfl) (news := [n % 256]) (by rw [letters_get f.rest j hlt, HH.out]; exact (by first | exact letterPut_b (i := ⟨k, a, b, n⟩) (at_ + 2) | exact letterPut_s (i := ⟨k, a, b, n⟩) (at_ + 2))) (m := 1) rfl hown' hgrow)
                clear hown' hgrow
                go_wp2_with fail
                go_roundw
                case rel => exact ⟨j + 1, by go_num, HR7.out⟩
                case measure => simp [intOf]; omega
              · go_wp2_with (at_builtin; refine wpList_append_own _ rfl _ _ 22 rfl w2.heap.size 3 i0 (.int .i64 0) 1 8 Try.underlying22 HI0.out H00.out H01.out H02.out rfl (by decide) _ _ _ rfl (HR.out.own.alloc _) ⟨wr.heap.size, 0, none⟩ 1 1 [.int .i64 (n % 256)] rfl rfl ?c1 ?c2 ?c3 ?c4 ?c5 ?_)
                case c1 => exact new_cells wr _ _ _ rfl
                case c2 => exact ints_one [n % 256]
                case c3 => have := HPL.out; simp only [maxLen]; omega
                case c4 => have := HPL.out; omega
                case c5 => have := HR.out.size; simp; omega
                intro v' w1 hown' hgrow _
                have HR7 := hid (HR.out.later (v' := v') (by rw [letters_len]; exact hlt) (by rw [letters_get f.rest j hlt, HH.out]; exact rfl) (news := [n % 256]) (by rw [letters_get f.rest j hlt, HH.out]; exact (by first | exact letterPut_b (i := ⟨k, a, b, n⟩) (at_ + 2) | exact letterPut_s (i := ⟨k, a, b, n⟩) (at_ + 2))) (m := 1) rfl hown' hgrow)
                clear hown' hgrow
                go_wp2_with fail
                go_roundw
                case rel => exact ⟨j + 1, by go_num, HR7.out⟩
                case measure => simp [intOf]; omega
              · have hn0 : 0 ≤ n := HW.out HH.out
                go_wp2_with (at_builtin; refine wpList_append_own _ rfl _ _ 22 rfl w2.heap.size 3 i0 (.int .i64 0) 1 8 Try.underlying22 HI0.out H00.out H01.out H02.out rfl (by decide) _ _ _ rfl (HR.out.own.alloc _) ⟨wr.heap.size, 0, none⟩ 2 2 [.int .i64 (n % 256), .int .i64 (n / 256)] rfl rfl ?c1 ?c2 ?c3 ?c4 ?c5 ?_)
                case c1 => exact new_cells wr _ _ _ rfl
                case c2 => exact ints_one [n % 256, n / 256]
                case c3 => have := HPL.out; simp only [maxLen]; omega
                case c4 => have := HPL.out; omega
                case c5 => have := HR.out.size; simp; omega
                intro v' w1 hown' hgrow _
                have HR7 := hid (HR.out.later (v' := v') (by rw [letters_len]; exact hlt) (by rw [letters_get f.rest j hlt, HH.out]; exact rfl) (news := [n % 256, n / 256]) (by rw [letters_get f.rest j hlt, HH.out]; exact letterPut_w (i := ⟨k, a, b, n⟩) (at_ + 2) (show 0 ≤ n from hn0) n1) (m := 2) rfl hown' hgrow)
                clear hown' hgrow
                go_wp2_with fail
                go_roundw
                case rel => exact ⟨j + 1, by go_num, HR7.out⟩
                case measure => simp [intOf]; omega
              · go_wp2_with (at_builtin; refine wpList_append_own _ rfl _ _ 22 rfl w2.heap.size 3 i0 (.int .i64 0) 1 8 Try.underlying22 HI0.out H00.out H01.out H02.out rfl (by decide) _ _ _ rfl (HR.out.own.alloc _) ⟨wr.heap.size, 0, none⟩ 1 1 [.int .i64 (b)] rfl rfl ?c1 ?c2 ?c3 ?c4 ?c5 ?_)
                case c1 => exact new_cells wr _ _ _ rfl
                case c2 => exact ints_one [b]
                case c3 => have := HPL.out; simp only [maxLen]; omega
                case c4 => have := HPL.out; omega
                case c5 => have := HR.out.size; simp; omega
                intro v' w1 hown' hgrow _
                have HR7 := hid (HR.out.later (v' := v') (by rw [letters_len]; exact hlt) (by rw [letters_get f.rest j hlt, HH.out]; exact rfl) (news := [b]) (by rw [letters_get f.rest j hlt, HH.out]; exact letterPut_t (i := ⟨k, a, b, n⟩) (at_ + 2) b0 b1) (m := 1) rfl hown' hgrow)
                clear hown' hgrow
                go_wp2_with fail
                go_roundw
                case rel => exact ⟨j + 1, by go_num, HR7.out⟩
                case measure => simp [intOf]; omega
              · have hj110 := h
                cases hfit : letterFit 110 ⟨k, a, b, n⟩ (at_ + 2)
                · have HFit := hid hfit
                  have hfit' : inRange (n - at_ - 2) (-128) 127 = false := by
                    have := HFit.out
                    simp only [letterFit, inR, lo, hi, inRange] at this ⊢
                    simp at this ⊢
                    omega
                  clear hfit
                  go_wp2_with (go_at_call 56; refine (inR_c _ _ _ _).mono ?_; rw [hfit']; rintro e w' ⟨rfl, rfl⟩)
                  go_ret2
                  refine putPost_no ?_ HR.out.bel
                  rw [HSPN.out, if_neg]
                  intro hall
                  have := List.all_eq_true.1 hall 110 (by rw [← HH.out, ← letters_get f.rest j hlt]; exact List.getElem_mem _)
                  rw [HFit.out] at this
                  cases this
                · have HFit := hid hfit
                  have hfit' : inRange (n - at_ - 2) (-128) 127 = true ∧ -128 ≤ n - at_ - 2 ∧ n - at_ - 2 ≤ 127 := by
                    have := HFit.out
                    simp only [letterFit, inR, lo, hi, inRange] at this ⊢
                    simp at this ⊢
                    omega
                  obtain ⟨hfit1, hfit2, hfit3⟩ := hfit'
                  have HF1 := hid hfit1
                  clear hfit hfit1
                  go_wp2_with (first | (go_at_call 56; refine (inR_c _ _ _ _).mono ?_; rw [HF1.out]; rintro e w' ⟨rfl, rfl⟩) | (at_builtin; refine wpList_append_own _ rfl _ _ 22 rfl w2.heap.size 3 i0 (.int .i64 0) 1 8 Try.underlying22 HI0.out H00.out H01.out H02.out rfl (by decide) _ _ _ rfl (HR.out.own.alloc _) ⟨wr.heap.size, 0, none⟩ 1 1 [.int .i64 ((n - at_ - 2) % 256)] rfl rfl ?c1 ?c2 ?c3 ?c4 ?c5 ?_))
                  case c1 => exact new_cells wr _ _ _ rfl
                  case c2 => exact ints_one [(n - at_ - 2) % 256]
                  case c3 => have := HPL.out; simp only [maxLen]; omega
                  case c4 => have := HPL.out; omega
                  case c5 => have := HR.out.size; simp; omega
                  intro v' w1 hown' hgrow _
                  have HR7 := hid (HR.out.later (v' := v') (by rw [letters_len]; exact hlt) (by rw [letters_get f.rest j hlt, HH.out]; exact HFit.out) (news := [(n - at_ - 2) % 256]) (by rw [letters_get f.rest j hlt, HH.out]; exact letterPut_j (i := ⟨k, a, b, n⟩) (at_ + 2) (n - at_ - 2) (show n - at_ - 2 = n - (at_ + 2) by omega)) (m := 1) rfl hown' hgrow)
                  clear hown' hgrow
                  go_wp2_with fail
                  go_roundw
                  case rel => exact ⟨j + 1, by go_num, HR7.out⟩
                  case measure => simp [intOf]; omega
            · obtain rfl : j = f.rest.size := by omega
              have he : (letters f.rest).take f.rest.size = letters f.rest := List.take_of_length_le (by rw [letters_len]; exact Nat.le_refl _)
              have HE := hid he
              have q6 := hrel.form.cell 6
              simp [SForm.cells] at q6
              have HR := hid hrel
              clear he hrel
              go_wp2_with fail
              go_ret2
              have hfits := HR.out.fits
              have hown := HR.out.own
              rw [HE.out] at hfits hown
              refine putPost_yes ?_ HR.out.bel (own_mono hown (Nat.le_of_lt HR.out.more))
              rw [HSPN.out, if_pos (List.all_eq_true.2 hfits)]
        · obtain rfl : a = 1 := by simpa using ha
          clear ha
          have hspn := HSP.out
          rw [HJ.out, HSF.out] at hspn
          simp only [Bool.and_self, beq_self_eq_true, if_true] at hspn
          have HSPN := hid hspn
          clear hspn
          go_wp2_with (go_at_call 115; refine (isJump_c ⟨k, 1, b, n⟩ _).mono ?_; rw [HJ.out]; rintro e w2 ⟨rfl, hb2⟩; have i1' := (hb2.cell (p := ⟨w.heap.size, 1, none⟩) hiz).trans i1; have i3' := (hb2.cell (p := ⟨w.heap.size, 3, none⟩) hiz).trans i3; have HB2 := hid hb2; have hzz := hb2.size; clear hb2)
          go_ret2
          exact putPost_yes HSPN.out ((HB.out.trans (HB2.out.mono HB.out.size)).alloc (by have := HB.out.size; omega) _) (World.ownsRow_lit (base := w.heap.size) w2 #[.int .i64 (sf + 8), .int .i64 (n % 256), .int .i64 (n / 256)] 3 (by have := HB.out.size; omega) (by decide) rfl)
end Go.Proofs.Ytihhpgklpichgab.C2
