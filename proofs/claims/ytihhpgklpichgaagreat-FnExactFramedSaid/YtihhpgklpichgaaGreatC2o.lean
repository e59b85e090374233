/- read of the model: the instruction at a place of bytes. -/
import Derived.Test.YtihhpgklpichgaaGreatC2n
import Derived.Test.YtihhpgklpichgaaGreatC2m
import Derived.Test.YtihhpgklpichgaaGreatC2u
import Derived.Deep.CutBlock
set_option linter.unusedSimpArgs false
set_option linter.unusedVariables false
namespace Go.Proofs.YtihhpgklpichgaaGreat.C2
open Go.RowKit Pl Ft Mm In Im

theorem sopened_lt {x : Int} {k : Nat} (h : sopened x = some k) : k < 31 := List.mem_range.1 (List.mem_of_find?_eq_some h)
theorem sopened_shit {x : Int} {k : Nat} (h : sopened x = some k) : shit x k = true := List.find?_some h
def ReadPost (o : Option IIns) (w : World) (e : Ending) (w' : World) : Prop := ∃ i : IIns, e = .returned (.tuple #[i.val, .bool o.isSome]) ∧ (∀ j, o = some j → i = j) ∧ Below w.heap.size w w'
theorem read_no {o : Option IIns} {w w' : World} (i : IIns) (h : o = none) (hb : Below w.heap.size w w') : ReadPost o w (.returned (.tuple #[i.val, .bool false])) w' := by
  subst h
  exact ⟨i, rfl, fun j hj => (by cases hj), hb⟩
theorem read_if {o : Option IIns} {w w' : World} {b : Bool} (i : IIns) (h : o = if b = true then some i else none) (hb : Below w.heap.size w w') : ReadPost o w (.returned (.tuple #[i.val, .bool b])) w' := by
  subst h
  cases b
  · exact ⟨i, rfl, fun j hj => (by cases hj), hb⟩
  · exact ⟨i, rfl, fun j hj => (by cases hj; rfl), hb⟩
theorem sread_no {code : List Int} {at_ : Nat} (h : sopened (code.getD at_ 0) = none) : sread code at_ = none := by unfold sread; rw [h]
theorem sread_some {code : List Int} {at_ k : Nat} (h : sopened (code.getD at_ 0) = some k) : sread code at_ = if (decide (at_ + slong (sopenIns k (code.getD at_ 0 - (stab.getD k .none).first)) ≤ code.length) && validIns (sreadIns code at_ k)) = true then some (sreadIns code at_ k) else none := by unfold sread; rw [h]
/-- What stands before the parts are read: the instruction as its first byte tells, the row, the result. -/
structure RdSt (w : World) (gi gf : Nat) (i : IIns) (f : SForm) (wx : World) : Prop where
  box : Row wx gi 70 (i4 i)
  frm : Row wx gf 124 f.cells.toArray
  out : Row wx w.heap.size 70 z4
  bel : Below w.heap.size w wx
theorem RdSt.on {w : World} {gi gf : Nat} {i : IIns} {f : SForm} {wx w' : World} (h : RdSt w gi gf i f wx) (hb : Below wx.heap.size wx w') : RdSt w gi gf i f w' := ⟨h.box.on hb, h.frm.on hb, h.out.on hb, h.bel.trans (hb.mono h.bel.size)⟩
theorem RdSt.put {w : World} {gi gf : Nat} {i : IIns} {f : SForm} {wx : World} (h : RdSt w gi gf i f wx) (h1 : gf ≠ gi) (h2 : w.heap.size < gi) (i' : IIns) (j : Nat) (u : Value) (hj : (i4 i).setIfInBounds j u = i4 i') : RdSt w gi gf i' f (wx.setCell ⟨gi, j, none⟩ u) :=
  ⟨by have := h.box.set j u; rwa [hj] at this, h.frm.far (p := ⟨gi, j, none⟩) h1 u, h.out.far (p := ⟨gi, j, none⟩) (by show w.heap.size ≠ gi; omega) u, h.bel.setCell (p := ⟨gi, j, none⟩) (by show w.heap.size ≤ gi; omega) u⟩
theorem sopenIns_op (k : Nat) (more : Int) : (sopenIns k more).op = k := by unfold sopenIns; (repeat' split) <;> rfl
theorem slong_eq {x : Int} (h0 : 0 ≤ x) (h1 : x ≤ 255) {k : Nat} (h : sopened x = some k) : slong (sopenIns k (x - (stab.getD k .none).first)) = longOf (sletters k (x - (stab.getD k .none).first)) := by
  obtain ⟨n, rfl⟩ := Int.eq_ofNat_of_zero_le h0
  have ha := agree_all n (by omega)
  unfold agree at ha
  rw [h] at ha
  cases hf : formAt (n : Int) with
  | none => rw [hf] at ha; cases ha
  | some f =>
    rw [hf] at ha
    simp only [Bool.and_eq_true, decide_eq_true_eq] at ha
    rw [← ha.2, ha.1.2]
theorem num_one (code : List Int) (p : Nat) (h : p < code.length) : numIn ((code.drop p).take 1) = code.getD p 0 := by
  have e : code.drop p = code[p] :: code.drop (p + 1) := List.drop_eq_getElem_cons h
  have eg : code.getD p 0 = code[p] := by simp [h]
  rw [e, eg]
  simp only [List.take_succ_cons, List.take_zero, numIn]
  omega
theorem num_two (code : List Int) (p : Nat) (h : p + 1 < code.length) : numIn ((code.drop p).take 2) = code.getD p 0 + code.getD (p + 1) 0 * 256 := by
  have e : code.drop p = code[p] :: code.drop (p + 1) := List.drop_eq_getElem_cons (by omega)
  have e2 : code.drop (p + 1) = code[p + 1] :: code.drop (p + 1 + 1) := List.drop_eq_getElem_cons h
  have h2 : p < code.length := by omega
  have eg : code.getD p 0 = code[p] := by simp [h2]
  have eg2 : code.getD (p + 1) 0 = code[p + 1] := by simp [h]
  rw [e, e2, eg, eg2]
  simp only [List.take_succ_cons, List.take_zero, numIn]
  omega
theorem sgn_mod (y : Int) (h0 : 0 ≤ y) (h1 : y ≤ 255) : (y + 128) % 256 - 128 = sgn y := by
  have e : inR 6 y = (decide (-128 ≤ y) && decide (y ≤ 127)) := rfl
  unfold sgn
  by_cases h : y ≤ 127
  · have e1 : inR 6 y = true := by rw [e, decide_eq_true (by omega), decide_eq_true h]; rfl
    rw [if_pos e1]; omega
  · have e1 : inR 6 y = false := by rw [e, decide_eq_false h, Bool.and_false]
    rw [e1, if_neg (by simp)]; omega
theorem RdSt.new {w w2 : World} {gi : Nat} {i : IIns} (hbox : Row w2 gi 70 (i4 i)) (hout : Row w2 w.heap.size 70 z4) (hb : Below w.heap.size w w2) (f : SForm) : RdSt w gi w2.heap.size i f (w2.alloc (.cells f.cells.toArray 124)) :=
  ⟨hbox.alloc _, Row.new _ _ _, hout.alloc _, hb.alloc hb.size _⟩
theorem RdSt.new1 {w w2 : World} {gi : Nat} {i i' : IIns} (hbox : Row w2 gi 70 (i4 i)) (hout : Row w2 w.heap.size 70 z4) (hb : Below w.heap.size w w2) (f : SForm) (hg : w.heap.size < gi) (j : Nat) (u : Value) (hj : (i4 i).setIfInBounds j u = i4 i') :
    RdSt w gi w2.heap.size i' f ((w2.setCell ⟨gi, j, none⟩ u).alloc (.cells f.cells.toArray 124)) := by
  have := RdSt.new (w := w) (w2 := w2.setCell ⟨gi, j, none⟩ u) (gi := gi) (i := i') (by have := hbox.set j u; rwa [hj] at this) (hout.far (p := ⟨gi, j, none⟩) (by show w.heap.size ≠ gi; omega) u) (hb.setCell (p := ⟨gi, j, none⟩) (by show w.heap.size ≤ gi; omega) u) f
  simpa only [World.size_setCell] using this
theorem RdSt.new2 {w w2 : World} {gi : Nat} {i i1 i' : IIns} (hbox : Row w2 gi 70 (i4 i)) (hout : Row w2 w.heap.size 70 z4) (hb : Below w.heap.size w w2) (f : SForm) (hg : w.heap.size < gi) (j : Nat) (u : Value) (hj : (i4 i).setIfInBounds j u = i4 i1) (j2 : Nat) (u2 : Value) (hj2 : (i4 i1).setIfInBounds j2 u2 = i4 i') :
    RdSt w gi w2.heap.size i' f (((w2.setCell ⟨gi, j, none⟩ u).setCell ⟨gi, j2, none⟩ u2).alloc (.cells f.cells.toArray 124)) := by
  have := RdSt.new1 (w := w) (w2 := w2.setCell ⟨gi, j, none⟩ u) (gi := gi) (i := i1) (i' := i') (by have := hbox.set j u; rwa [hj] at this) (hout.far (p := ⟨gi, j, none⟩) (by show w.heap.size ≠ gi; omega) u) (hb.setCell (p := ⟨gi, j, none⟩) (by show w.heap.size ≤ gi; omega) u) f hg j2 u2 hj2
  simpa only [World.size_setCell] using this
theorem stab_near : ∀ k, k < 31 → ∀ c ∈ letters (stab.getD k .none).rest, isLetter c = true ∧ (c = 110 → letters (stab.getD k .none).rest = [110]) := by decide +kernel
theorem byte_at {code : List Int} (h : code.all isByte = true) (p : Nat) (hp : p < code.length) : 0 ≤ code.getD p 0 ∧ code.getD p 0 ≤ 255 := by
  have := List.all_eq_true.1 h (code.getD p 0) (by simp [hp])
  simpa [isByte, inR, lo, hi] using this
set_option maxRecDepth 100000 in
set_option maxHeartbeats 8000000 in
theorem sRead_c (code : List Int) (v : Value) (at_ : Nat) (w : World) (hr : Rd w v code) (hb : code.all isByte = true) (hlen : code.length ≤ 2000) (hat : at_ < code.length) :
    Calls Tryz.prog 64 #[v, .int .i64 at_] w (ReadPost (sread code at_) w) := by
  have HRd := hid hr
  obtain ⟨a, cap, rfl, hrd⟩ := hr
  rcases hrd with h | ⟨g, o, rfl, hg, hcs⟩
  · subst h; simp at hat
  have HCs := hid hcs
  have hbx := List.all_eq_true.1 hb (code.getD at_ 0) (by simp [hat])
  have HBy := hid hb
  have q1 := hcs at_ hat
  obtain ⟨x, hx⟩ : ∃ x, code.getD at_ 0 = x := ⟨_, rfl⟩
  rw [hx] at q1 hbx
  have HX := hid hx
  have hx01 : 0 ≤ x ∧ x ≤ 255 := by simpa [isByte, inR, lo, hi] using hbx
  obtain ⟨hx0, hx1⟩ := hx01
  clear hcs hb hbx hx
  have at0 : 0 ≤ (at_ : Int) := by omega
  have at1 : (at_ : Int) < code.length := by omega
  have HB0 := hid ((Below.refl w.heap.size w).alloc (Nat.le_refl _) (.cells z4 70))
  have HO0 := hid (Row.new w 70 z4)
  go_enter Tryz.func64, Tryz.ntmps64
  go_wp2_with fail
  refine (sOpened_c x hx0 hx1 _).mono ?_
  rintro e w1 ⟨rfl, hb1⟩
  have HB1 := hid (HB0.out.trans (hb1.mono (by simp [z4])))
  have HO1 := hid (HO0.out.on hb1)
  have hz1 := hb1.size
  simp only [World.size_alloc] at hz1
  have hw01 : w.heap.size < w1.heap.size := by omega
  clear hb1 q1
  unfold openVal
  cases hs : sopened x with
  | none =>
    have HNo := hid (sread_no (code := code) (at_ := at_) (by rw [HX.out]; exact hs))
    clear hs
    simp only
    have o0 := HO1.out.cell 0
    have o1 := HO1.out.cell 1
    have o2 := HO1.out.cell 2
    have o3 := HO1.out.cell 3
    simp [z4] at o0 o1 o2 o3
    have hfo := HO1.out.free
    go_wp2_with fail
    clear o0 o1 o2 o3 hfo
    refine bodyPost_ret (v := .tuple #[.agg z4, .bool false]) ?_ rfl ?_
    · exact results_cell_tmp Tryz.results64 _ _ w.heap.size z4 _ rfl (four_row HO1.out 0 0 0 0) Tryz.underlying70 size_four
    exact read_no insZero HNo.out (four_bel HB1.out (Nat.le_refl _) _ _ _ _)
  | some k =>
    have hk := sopened_lt hs
    have hkk : k ≤ 30 := by omega
    have HS := hid (sread_some (code := code) (at_ := at_) (by rw [HX.out]; exact hs))
    have HSo := hid hs
    have hbd := stab_bd k hk
    simp only
    obtain ⟨f, hf⟩ : ∃ f, stab.getD k .none = f := ⟨_, rfl⟩
    rw [hf] at hbd ⊢
    have HF := hid hf
    clear hs hf
    obtain ⟨first, plus, fa, fb, flow, fhigh, frest⟩ := f
    simp only at hbd ⊢
    obtain ⟨⟨b0, b1⟩, ⟨b2, b3⟩, b4, b5⟩ := hbd
    obtain ⟨more, hmore⟩ : ∃ m, x - first = m := ⟨_, rfl⟩
    have hm0 : -300 ≤ more := by omega
    have hm1 : more ≤ 300 := by omega
    rw [hmore]
    have HM := hid hmore
    clear hmore
    have k0 : 0 ≤ (k : Int) := by omega
    have k30 : (k : Int) ≤ 30 := by omega
    have k31 : (k : Int) < 31 := by omega
    have HBx0 := hid (Row.new w1 70 (i4 ⟨k, 0, 0, 0⟩))
    have HO2 := hid (HO1.out.alloc (.cells (i4 ⟨k, 0, 0, 0⟩) 70))
    have HB2 := hid (HB1.out.alloc HB1.out.size (.cells (i4 ⟨k, 0, 0, 0⟩) 70))
    go_wp2_with fail
    refine (sforms_c _).mono ?_
    rintro e w2 ⟨gt, tcap, rfl, hown, hb3⟩
    have hff := sforms_at hkk hown
    rw [HF.out] at hff
    obtain ⟨f0, f1, f2, f3, f4, f5, f6, fl⟩ := hff
    simp only at f0 f1 f2 f3 f4 f5 f6
    have HBx := hid (HBx0.out.on hb3)
    have HO3 := hid (HO2.out.on hb3)
    have HB3 := hid (HB2.out.trans (hb3.mono HB2.out.size))
    have hz3 := hb3.size
    simp only [World.size_alloc] at hz3
    clear hown hb3
    have hw12 : w1.heap.size < w2.heap.size := by omega
    have q0 := HBx.out.cell 0
    have q1 := HBx.out.cell 1
    have q2 := HBx.out.cell 2
    have q3 := HBx.out.cell 3
    simp [i4] at q0 q1 q2 q3
    have hfq := HBx.out.free
    go_upto_block 0 with fail
    clear f0 f1 f2 f3 f4 f5 f6
    go_cut [] (fun wx => RdSt w w1.heap.size w2.heap.size (sopenIns k more) ⟨first, plus, fa, fb, flow, fhigh, frest⟩ wx)
    case first =>
      by_cases h8 : 8 ≤ more
      · have HI := hid (show sopenIns k more = ⟨k, 1, more - 8, 0⟩ by simp [sopenIns, h8])
        go_wp2_with fail
        go_meet
        rw [HI.out]
        exact .new2 (i := ⟨k, 0, 0, 0⟩) (i1 := ⟨k, 1, 0, 0⟩) HBx.out HO3.out HB3.out ⟨first, plus, fa, fb, flow, fhigh, frest⟩ (by omega) 1 _ rfl 2 _ rfl
      · by_cases hp : plus = 97
        · have HI := hid (show sopenIns k more = ⟨k, more, 0, 0⟩ by unfold sopenIns; rw [if_neg h8, HF.out, if_pos hp])
          have hpb : (plus == 97) = true := by simpa using hp
          clear hp
          go_wp2_with fail
          go_meet
          rw [HI.out]
          exact .new1 (i := ⟨k, 0, 0, 0⟩) HBx.out HO3.out HB3.out ⟨first, plus, fa, fb, flow, fhigh, frest⟩ (by omega) 1 _ rfl
        · have hpb : (plus == 97) = false := by simpa using hp
          by_cases hp2 : plus = 98
          · have HI := hid (show sopenIns k more = ⟨k, 0, more, 0⟩ by unfold sopenIns; rw [if_neg h8, HF.out, if_neg hp, if_pos hp2])
            have hpb2 : (plus == 98) = true := by simpa using hp2
            clear hp hp2
            go_wp2_with fail
            go_meet
            rw [HI.out]
            exact .new1 (i := ⟨k, 0, 0, 0⟩) HBx.out HO3.out HB3.out ⟨first, plus, fa, fb, flow, fhigh, frest⟩ (by omega) 2 _ rfl
          · have HI := hid (show sopenIns k more = ⟨k, 0, 0, 0⟩ by unfold sopenIns; rw [if_neg h8, HF.out, if_neg hp, if_neg hp2])
            have hpb2 : (plus == 98) = false := by simpa using hp2
            clear hp hp2
            go_wp2_with fail
            go_meet
            rw [HI.out]
            exact .new (i := ⟨k, 0, 0, 0⟩) HBx.out HO3.out HB3.out ⟨first, plus, fa, fb, flow, fhigh, frest⟩
    case rest =>
      have HRc := hid hcut
      clear hcut q0 q1 q2 q3 hfq
      obtain ⟨w4, rfl⟩ : ∃ y : World, y = wc := ⟨_, rfl⟩
      have hop := sopenIns_op k more
      obtain ⟨⟨iop, ia, ib, inn⟩, hi0⟩ : ∃ i, sopenIns k more = i := ⟨_, rfl⟩
      rw [hi0] at hop
      simp only at hop
      subst hop
      have HI := hid hi0
      have hcut2 := HRc.out
      rw [hi0] at hcut2
      have HR4 := hid hcut2
      clear hi0 hcut2 HRc
      have HSl := hid (show slong ⟨k, ia, ib, inn⟩ = longOf (sletters k more) by
        have := slong_eq hx0 hx1 (k := k) HSo.out
        rw [HF.out] at this
        simp only at this
        rwa [HM.out, HI.out] at this)
      have q0 := HR4.out.box.cell 0
      have q1 := HR4.out.box.cell 1
      have q2 := HR4.out.box.cell 2
      have q3 := HR4.out.box.cell 3
      simp [i4] at q0 q1 q2 q3
      go_wp2_with fail
      refine (long_c ⟨k, ia, ib, inn⟩ k0 k30 _).mono ?_
      rintro e w5 ⟨rfl, hb5⟩
      have HR5 := hid (HR4.out.on hb5)
      have hz5 : w.heap.size < w5.heap.size := HR5.out.out.lt
      clear hb5 q0 q1 q2 q3
      have hsr : sread code at_ = if (decide (at_ + slong ⟨k, ia, ib, inn⟩ ≤ code.length) && validIns (sreadIns code at_ k)) = true then some (sreadIns code at_ k) else none := by
        have := HS.out
        rw [HX.out, HF.out] at this
        simp only at this
        rwa [HM.out, HI.out] at this
      have HSr := hid hsr
      clear hsr
      have hlb0 := longOf_bd (sletters k more)
      obtain ⟨sl, hsl⟩ : ∃ y, slong ⟨k, ia, ib, inn⟩ = y := ⟨_, rfl⟩
      rw [hsl]
      have HSlv := hid hsl
      have hsl1 : 1 ≤ sl := by rw [← hsl, HSl.out]; exact hlb0.1
      have hsl2 : sl ≤ 100 := by
        rw [← hsl, HSl.out]
        have h1 := hlb0.2
        have h2 : (sletters k more).length ≤ 2 := by
          unfold sletters
          split
          · simp
          · rw [letters_len]; exact stab_rest k hkk
        omega
      clear hsl hlb0
      by_cases hnx : (at_ : Int) + sl ≤ code.length
      case neg =>
        have HNo := hid (show sread code at_ = none by rw [HSr.out, HSlv.out, decide_eq_false hnx]; rfl)
        have o0 := HR5.out.out.cell 0
        have o1 := HR5.out.out.cell 1
        have o2 := HR5.out.out.cell 2
        have o3 := HR5.out.out.cell 3
        simp [z4] at o0 o1 o2 o3
        have hfo := HR5.out.out.free
        go_wp2_with fail
        clear o0 o1 o2 o3 hfo
        refine bodyPost_ret (v := .tuple #[.agg z4, .bool false]) ?_ rfl ?_
        · exact results_cell_tmp Tryz.results64 _ _ w.heap.size z4 _ rfl (four_row HR5.out.out 0 0 0 0) Tryz.underlying70 size_four
        exact read_no insZero HNo.out (four_bel HR5.out.bel (Nat.le_refl _) _ _ _ _)
      have HSr2 := hid (show sread code at_ = if validIns (sreadIns code at_ k) = true then some (sreadIns code at_ k) else none by rw [HSr.out, HSlv.out, decide_eq_true hnx, Bool.true_and])
      have HRI := hid (show sreadIns code at_ k = (rfold code ((at_ : Int) + sl) ⟨k, ia, ib, inn⟩ (at_ + 1) (sletters k more)).1 by
        unfold sreadIns
        rw [HX.out, HF.out]
        simp only
        rw [HM.out, HI.out, HSlv.out])
      have HRdw := hid (show ∀ wx, Below w.heap.size w wx → ∀ j, j < code.length → wx.cell? ⟨g, o + j, none⟩ = some (.int .i64 (code.getD j 0)) from fun wx hb j hj => (hb.cell (p := ⟨g, o + j, none⟩) hg).trans (HCs.out j hj))
      have hwgi : w.heap.size ≠ w1.heap.size := by omega
      by_cases h8 : 8 ≤ more
      · have HLt := hid (show sletters k more = [119] by simp [sletters, h8])
        have hsl3 : sl = 3 := by rw [← HSlv.out, HSl.out, HLt.out]; rfl
        have c1 := HRdw.out _ HR5.out.bel (at_ + 1) (by omega)
        have c2 := HRdw.out _ HR5.out.bel (at_ + 1 + 1) (by omega)
        have hy1 := byte_at HBy.out (at_ + 1) (by omega)
        have hy2 := byte_at HBy.out (at_ + 1 + 1) (by omega)
        obtain ⟨y1, e1⟩ : ∃ y, code.getD (at_ + 1) 0 = y := ⟨_, rfl⟩
        obtain ⟨y2, e2⟩ : ∃ y, code.getD (at_ + 1 + 1) 0 = y := ⟨_, rfl⟩
        rw [e1] at c1 hy1
        rw [e2] at c2 hy2
        obtain ⟨y10, y11⟩ := hy1
        obtain ⟨y20, y21⟩ := hy2
        have HFin := hid (show sreadIns code at_ k = ⟨k, ia, ib, y1 + y2 * 256⟩ by
          rw [HRI.out, HLt.out]
          show letterWith 119 ⟨k, ia, ib, inn⟩ (numIn ((code.drop (at_ + 1)).take 2)) ((at_ : Int) + sl) = _
          rw [num_two code (at_ + 1) (by omega), e1, e2]
          rfl)
        clear e1 e2
        have i1 : (at_ : Int) + 1 < code.length := by omega
        have i10 : 0 ≤ (at_ : Int) + 1 := by omega
        have i2 : (at_ : Int) + 1 + 1 < code.length := by omega
        have i20 : 0 ≤ (at_ : Int) + 1 + 1 := by omega
        have wi : IntKind.i64.wrap ((at_ : Int) + 1 + 1) = (at_ : Int) + 1 + 1 := IntWalk.i64_in _ (by omega)
        have wy : IntKind.i64.wrap (y2 * 256) = y2 * 256 := IntWalk.i64_in _ (by omega)
        have wz : IntKind.i64.wrap (y1 + y2 * 256) = y1 + y2 * 256 := IntWalk.i64_in _ (by omega)
        have t1 : ((at_ : Int) + 1).toNat = at_ + 1 := by omega
        have t2 : ((at_ : Int) + 1 + 1).toNat = at_ + 1 + 1 := by omega
        have o3 := HR5.out.box.cell 3
        simp [i4] at o3
        clear hsl3
        go_upto_region 17 with fail
        go_still_tail 12, (by kernel_rfl)
        change wpList _ _ _ _ _ w5.drew
        have HR6 := hid (HR5.out.on (Below.refl _ _).drew)
        clear HR5 hz5 c1 c2 wi wy wz t1 t2 o3 i1 i10 i2 i20
        generalize w5.drew = w6 at HR6 ⊢
        have o3 := HR6.out.box.cell 3
        simp [i4] at o3
        have hfo := HR6.out.box.free
        go_wp2_with fail
        clear o3 hfo
        have HR7 := hid (HR6.out.put (by omega) (by omega) ⟨k, ia, ib, y1 + y2 * 256⟩ 3 (.int .i64 (y1 + y2 * 256)) rfl)
        generalize w6.setCell _ _ = wq at HR7 ⊢
        have HPost := hid HSr2.out
        rw [HFin.out] at HPost
        have ho := HR7.out.out.lt
        have hbx := HR7.out.box.lt
        have q0 := HR7.out.box.cell 0
        have q1 := HR7.out.box.cell 1
        have q2 := HR7.out.box.cell 2
        have q3 := HR7.out.box.cell 3
        simp [i4] at q0 q1 q2 q3
        go_region_with (go_at_call 107; refine (validIns_c ⟨k, ia, ib, y1 + y2 * 256⟩ _).mono ?_; rintro e w9 ⟨rfl, hb9⟩; have HR9 := hid (HR7.out.on ((Below.refl _ _).drew.trans hb9)); have r0 := HR9.out.box.cell 0; have r1 := HR9.out.box.cell 1; have r2 := HR9.out.box.cell 2; have r3 := HR9.out.box.cell 3; simp [i4] at r0 r1 r2 r3; have o0 := HR9.out.out.cell 0; have o1 := HR9.out.out.cell 1; have o2 := HR9.out.out.cell 2; have o3 := HR9.out.out.cell 3; simp [z4] at o0 o1 o2 o3; have hfo := HR9.out.out.free; have ho9 := HR9.out.out.lt; clear hb9)
        all_goals
          go_wp2_with fail
          refine bodyPost_ret (v := .tuple #[.agg (i4 ⟨k, ia, ib, y1 + y2 * 256⟩), .bool (validIns ⟨k, ia, ib, y1 + y2 * 256⟩)]) ?_ rfl ?_
          · exact results_cell_tmp Tryz.results64 _ _ w.heap.size (i4 ⟨k, ia, ib, y1 + y2 * 256⟩) _ rfl (four_row HR9.out.out k ia ib (y1 + y2 * 256)) Tryz.underlying70 size_four
          exact read_if ⟨k, ia, ib, y1 + y2 * 256⟩ HPost.out (four_bel HR9.out.bel (Nat.le_refl _) _ _ _ _)
      · skip
        have HLt := hid (show sletters k more = letters frest by unfold sletters; rw [if_neg h8, HF.out])
        have HLs := hid (show sl = longOf (letters frest) by rw [← HSlv.out, HSl.out, HLt.out])
        have HNear := hid (show ∀ c ∈ letters frest, isLetter c = true ∧ (c = 110 → letters frest = [110]) by have := stab_near k hk; rw [HF.out] at this; exact this)
        have p6 := HR5.out.frm.cell 6
        simp [SForm.cells] at p6
        have hfs : frest.size ≤ 2 := by have := stab_rest k hkk; rw [HF.out] at this; exact this
        go_wp2_with fail
        clear p6
        go_loopw [1, 10] (fun pos c wr => ∃ j : Nat, c = .int .i64 j ∧ j ≤ frest.size ∧ pos = .int .i64 ((rfold code ((at_ : Int) + sl) ⟨k, ia, ib, inn⟩ (at_ + 1) ((letters frest).take j)).2 : Nat) ∧ RdSt w w1.heap.size w2.heap.size (rfold code ((at_ : Int) + sl) ⟨k, ia, ib, inn⟩ (at_ + 1) ((letters frest).take j)).1 ⟨first, plus, fa, fb, flow, fhigh, frest⟩ wr) (fun _ c _ => frest.size - (intOf c).toNat)
        case atStart => exact ⟨0, rfl, by omega, by show _ = Value.int .i64 ((at_ + 1 : Nat) : Int); go_num, HR5.out⟩
        case round =>
          obtain ⟨j, rfl, hj, hpos, hst⟩ := hrel
          obtain ⟨p, hpp⟩ : ∃ p, (rfold code ((at_ : Int) + sl) ⟨k, ia, ib, inn⟩ (at_ + 1) ((letters frest).take j)).2 = p := ⟨_, rfl⟩
          rw [hpp] at hpos
          obtain rfl := hpos
          obtain ⟨⟨jop, ja, jb, jn⟩, hji⟩ : ∃ i, (rfold code ((at_ : Int) + sl) ⟨k, ia, ib, inn⟩ (at_ + 1) ((letters frest).take j)).1 = i := ⟨_, rfl⟩
          rw [hji] at hst
          have HP := hid hpp
          have HJ := hid hji
          have HR := hid hst
          have hzi := hst.box.lt
          have hzf := hst.frm.lt
          clear hpp hji hst
          have p6 := HR.out.frm.cell 6
          simp [SForm.cells] at p6
          by_cases hlt : j < frest.size
          · have hlt' : j < (letters frest).length := by rw [letters_len]; exact hlt
            have hpb := pos_bd code ((at_ : Int) + sl) ⟨k, ia, ib, inn⟩ (at_ + 1) (letters frest) j hlt'
            rw [HP.out] at hpb
            obtain ⟨hil, hnr⟩ := HNear.out (letters frest)[j] (List.getElem_mem hlt')
            have HNr := hid hnr
            have hlong : 1 ≤ letterLong (letters frest)[j] := by unfold letterLong; split <;> omega
            have hpl : p < code.length := by have := HLs.out; omega
            have hpi : (p : Int) < code.length := by omega
            have c1 := HRdw.out _ HR.out.bel p hpl
            have hy1 := byte_at HBy.out p hpl
            obtain ⟨y, e1⟩ : ∃ y, code.getD p 0 = y := ⟨_, rfl⟩
            rw [e1] at c1 hy1
            have HY := hid e1
            obtain ⟨y10, y11⟩ := hy1
            have q0 := HR.out.box.cell 0
            have q1 := HR.out.box.cell 1
            have q2 := HR.out.box.cell 2
            have q3 := HR.out.box.cell 3
            simp [i4] at q0 q1 q2 q3
            have hfq := HR.out.box.free
            have hget := letters_get frest j hlt
            clear e1 hnr hlong
            rcases letter_of hil with h | h | h | h | h | h
            · rw [h] at hget hpb
              have HI1 := hid (show (rfold code ((at_ : Int) + sl) ⟨k, ia, ib, inn⟩ (at_ + 1) ((letters frest).take (j + 1))).1 = ⟨jop, y / 16, y % 16, jn⟩ by
                rw [rfold_succ _ _ _ _ _ _ hlt', h]
                show letterWith 114 (rfold code ((at_ : Int) + sl) ⟨k, ia, ib, inn⟩ (at_ + 1) ((letters frest).take j)).1 (numIn ((code.drop (rfold code ((at_ : Int) + sl) ⟨k, ia, ib, inn⟩ (at_ + 1) ((letters frest).take j)).2).take 1)) ((at_ : Int) + sl) = _
                rw [HJ.out, HP.out]
                rw [num_one code p hpl, HY.out]; rfl)
              have HP1 := hid (show (rfold code ((at_ : Int) + sl) ⟨k, ia, ib, inn⟩ (at_ + 1) ((letters frest).take (j + 1))).2 = p + 1 by
                rw [rfold_succ _ _ _ _ _ _ hlt', h]
                show (rfold code ((at_ : Int) + sl) ⟨k, ia, ib, inn⟩ (at_ + 1) ((letters frest).take j)).2 + 1 = _
                rw [HP.out])
              have hc : frest[j].toNat = 114 := hget.symm
              clear h hget hpb hil
              go_wp2_with fail
              clear hc p6 c1 q0 q1 q2 q3 hfq
              go_roundw
              case rel => exact ⟨j + 1, by go_num, by omega, by rw [HP1.out]; go_num, by rw [HI1.out]; exact (HR.out.put (by omega) (by omega) ⟨jop, y / 16, jb, jn⟩ 1 _ rfl).put (by omega) (by omega) ⟨jop, y / 16, y % 16, jn⟩ 2 _ rfl⟩
              case measure => simp [intOf]; omega
            · rw [h] at hget hpb
              have HI1 := hid (show (rfold code ((at_ : Int) + sl) ⟨k, ia, ib, inn⟩ (at_ + 1) ((letters frest).take (j + 1))).1 = ⟨jop, ja, jb, y⟩ by
                rw [rfold_succ _ _ _ _ _ _ hlt', h]
                show letterWith 98 (rfold code ((at_ : Int) + sl) ⟨k, ia, ib, inn⟩ (at_ + 1) ((letters frest).take j)).1 (numIn ((code.drop (rfold code ((at_ : Int) + sl) ⟨k, ia, ib, inn⟩ (at_ + 1) ((letters frest).take j)).2).take 1)) ((at_ : Int) + sl) = _
                rw [HJ.out, HP.out]
                rw [num_one code p hpl, HY.out]; rfl)
              have HP1 := hid (show (rfold code ((at_ : Int) + sl) ⟨k, ia, ib, inn⟩ (at_ + 1) ((letters frest).take (j + 1))).2 = p + 1 by
                rw [rfold_succ _ _ _ _ _ _ hlt', h]
                show (rfold code ((at_ : Int) + sl) ⟨k, ia, ib, inn⟩ (at_ + 1) ((letters frest).take j)).2 + 1 = _
                rw [HP.out])
              have hc : frest[j].toNat = 98 := hget.symm
              clear h hget hpb hil
              go_wp2_with fail
              clear hc p6 c1 q0 q1 q2 q3 hfq
              go_roundw
              case rel => exact ⟨j + 1, by go_num, by omega, by rw [HP1.out]; go_num, by rw [HI1.out]; exact HR.out.put (by omega) (by omega) ⟨jop, ja, jb, y⟩ 3 _ rfl⟩
              case measure => simp [intOf]; omega
            · rw [h] at hget hpb
              have HI1 := hid (show (rfold code ((at_ : Int) + sl) ⟨k, ia, ib, inn⟩ (at_ + 1) ((letters frest).take (j + 1))).1 = ⟨jop, ja, jb, (y + 128) % 256 - 128⟩ by
                rw [rfold_succ _ _ _ _ _ _ hlt', h]
                show letterWith 115 (rfold code ((at_ : Int) + sl) ⟨k, ia, ib, inn⟩ (at_ + 1) ((letters frest).take j)).1 (numIn ((code.drop (rfold code ((at_ : Int) + sl) ⟨k, ia, ib, inn⟩ (at_ + 1) ((letters frest).take j)).2).take 1)) ((at_ : Int) + sl) = _
                rw [HJ.out, HP.out]
                rw [num_one code p hpl, HY.out, sgn_mod y y10 y11]; rfl)
              have HP1 := hid (show (rfold code ((at_ : Int) + sl) ⟨k, ia, ib, inn⟩ (at_ + 1) ((letters frest).take (j + 1))).2 = p + 1 by
                rw [rfold_succ _ _ _ _ _ _ hlt', h]
                show (rfold code ((at_ : Int) + sl) ⟨k, ia, ib, inn⟩ (at_ + 1) ((letters frest).take j)).2 + 1 = _
                rw [HP.out])
              have hc : frest[j].toNat = 115 := hget.symm
              clear h hget hpb hil
              go_wp2_with fail
              clear hc p6 c1 q0 q1 q2 q3 hfq
              go_roundw
              case rel => exact ⟨j + 1, by go_num, by omega, by rw [HP1.out]; go_num, by rw [HI1.out]; exact HR.out.put (by omega) (by omega) ⟨jop, ja, jb, (y + 128) % 256 - 128⟩ 3 _ rfl⟩
              case measure => simp [intOf]; omega
            · rw [h] at hget hpb
              have hpl2 : p + 1 < code.length := by have e : letterLong 119 = 2 := rfl; rw [e] at hpb; have := HLs.out; omega
              have hpi2 : (p : Int) + 1 < code.length := by omega
              have c2 := HRdw.out _ HR.out.bel (p + 1) hpl2
              have hy2 := byte_at HBy.out (p + 1) hpl2
              obtain ⟨y2, e2⟩ : ∃ y, code.getD (p + 1) 0 = y := ⟨_, rfl⟩
              rw [e2] at c2 hy2
              have HY2 := hid e2
              obtain ⟨y20, y21⟩ := hy2
              clear e2
              have HI1 := hid (show (rfold code ((at_ : Int) + sl) ⟨k, ia, ib, inn⟩ (at_ + 1) ((letters frest).take (j + 1))).1 = ⟨jop, ja, jb, y + y2 * 256⟩ by
                rw [rfold_succ _ _ _ _ _ _ hlt', h]
                show letterWith 119 (rfold code ((at_ : Int) + sl) ⟨k, ia, ib, inn⟩ (at_ + 1) ((letters frest).take j)).1 (numIn ((code.drop (rfold code ((at_ : Int) + sl) ⟨k, ia, ib, inn⟩ (at_ + 1) ((letters frest).take j)).2).take 2)) ((at_ : Int) + sl) = _
                rw [HJ.out, HP.out]
                rw [num_two code p hpl2, HY.out, HY2.out]; rfl)
              have HP1 := hid (show (rfold code ((at_ : Int) + sl) ⟨k, ia, ib, inn⟩ (at_ + 1) ((letters frest).take (j + 1))).2 = p + 2 by
                rw [rfold_succ _ _ _ _ _ _ hlt', h]
                show (rfold code ((at_ : Int) + sl) ⟨k, ia, ib, inn⟩ (at_ + 1) ((letters frest).take j)).2 + 2 = _
                rw [HP.out])
              have hc : frest[j].toNat = 119 := hget.symm
              clear h hget hpb hil
              go_wp2_with fail
              clear hc p6 c1 c2 q0 q1 q2 q3 hfq
              go_roundw
              case rel => exact ⟨j + 1, by go_num, by omega, by rw [HP1.out]; go_num, by rw [HI1.out]; exact HR.out.put (by omega) (by omega) ⟨jop, ja, jb, y + y2 * 256⟩ 3 _ rfl⟩
              case measure => simp [intOf]; omega
            · rw [h] at hget hpb
              have HI1 := hid (show (rfold code ((at_ : Int) + sl) ⟨k, ia, ib, inn⟩ (at_ + 1) ((letters frest).take (j + 1))).1 = ⟨jop, ja, y, jn⟩ by
                rw [rfold_succ _ _ _ _ _ _ hlt', h]
                show letterWith 116 (rfold code ((at_ : Int) + sl) ⟨k, ia, ib, inn⟩ (at_ + 1) ((letters frest).take j)).1 (numIn ((code.drop (rfold code ((at_ : Int) + sl) ⟨k, ia, ib, inn⟩ (at_ + 1) ((letters frest).take j)).2).take 1)) ((at_ : Int) + sl) = _
                rw [HJ.out, HP.out]
                rw [num_one code p hpl, HY.out]; rfl)
              have HP1 := hid (show (rfold code ((at_ : Int) + sl) ⟨k, ia, ib, inn⟩ (at_ + 1) ((letters frest).take (j + 1))).2 = p + 1 by
                rw [rfold_succ _ _ _ _ _ _ hlt', h]
                show (rfold code ((at_ : Int) + sl) ⟨k, ia, ib, inn⟩ (at_ + 1) ((letters frest).take j)).2 + 1 = _
                rw [HP.out])
              have hc : frest[j].toNat = 116 := hget.symm
              clear h hget hpb hil
              go_wp2_with fail
              clear hc p6 c1 q0 q1 q2 q3 hfq
              go_roundw
              case rel => exact ⟨j + 1, by go_num, by omega, by rw [HP1.out]; go_num, by rw [HI1.out]; exact HR.out.put (by omega) (by omega) ⟨jop, ja, y, jn⟩ 2 _ rfl⟩
              case measure => simp [intOf]; omega
            · rw [h] at hget hpb
              have HN1 := hid (show (at_ : Int) + sl = (p : Int) + 1 by
                have hl := HNr.out h
                have hjz : j = 0 := by have := congrArg List.length hl; simp only [List.length_cons, List.length_nil] at this; omega
                have hpz := HP.out
                rw [hjz] at hpz
                have hp1 : at_ + 1 = p := hpz
                have := HLs.out
                rw [hl] at this
                have e : longOf [110] = 2 := rfl
                rw [e] at this
                omega)
              have HI1 := hid (show (rfold code ((at_ : Int) + sl) ⟨k, ia, ib, inn⟩ (at_ + 1) ((letters frest).take (j + 1))).1 = ⟨jop, ja, jb, (p : Int) + 1 + (y + 128) % 256 - 128⟩ by
                rw [rfold_succ _ _ _ _ _ _ hlt', h]
                show letterWith 110 (rfold code ((at_ : Int) + sl) ⟨k, ia, ib, inn⟩ (at_ + 1) ((letters frest).take j)).1 (numIn ((code.drop (rfold code ((at_ : Int) + sl) ⟨k, ia, ib, inn⟩ (at_ + 1) ((letters frest).take j)).2).take 1)) ((at_ : Int) + sl) = _
                rw [HJ.out, HP.out]
                rw [num_one code p hpl, HY.out]; show IIns.mk jop ja jb (((at_ : Int) + sl) + sgn y) = _; rw [← sgn_mod y y10 y11, HN1.out]; congr 1; omega)
              have HP1 := hid (show (rfold code ((at_ : Int) + sl) ⟨k, ia, ib, inn⟩ (at_ + 1) ((letters frest).take (j + 1))).2 = p + 1 by
                rw [rfold_succ _ _ _ _ _ _ hlt', h]
                show (rfold code ((at_ : Int) + sl) ⟨k, ia, ib, inn⟩ (at_ + 1) ((letters frest).take j)).2 + 1 = _
                rw [HP.out])
              have hc : frest[j].toNat = 110 := hget.symm
              clear h hget hpb hil
              go_wp2_with fail
              clear hc p6 c1 q0 q1 q2 q3 hfq
              go_roundw
              case rel => exact ⟨j + 1, by go_num, by omega, by rw [HP1.out]; go_num, by rw [HI1.out]; exact HR.out.put (by omega) (by omega) ⟨jop, ja, jb, (p : Int) + 1 + (y + 128) % 256 - 128⟩ 3 _ rfl⟩
              case measure => simp [intOf]; omega
          · obtain rfl : j = frest.size := by omega
            have he : (letters frest).take frest.size = letters frest := List.take_of_length_le (by rw [letters_len]; exact Nat.le_refl _)
            have HFin := hid (show sreadIns code at_ k = ⟨jop, ja, jb, jn⟩ by
              have := HJ.out
              rw [he] at this
              rw [HRI.out, HLt.out, this])
            clear he
            have HR7 := hid HR.out
            go_wp2_with fail
            clear p6
            have HPost := hid HSr2.out
            rw [HFin.out] at HPost
            have ho := HR7.out.out.lt
            have hbx := HR7.out.box.lt
            have q0 := HR7.out.box.cell 0
            have q1 := HR7.out.box.cell 1
            have q2 := HR7.out.box.cell 2
            have q3 := HR7.out.box.cell 3
            simp [i4] at q0 q1 q2 q3
            go_region_with (go_at_call 107; refine (validIns_c ⟨jop, ja, jb, jn⟩ _).mono ?_; rintro e w9 ⟨rfl, hb9⟩; have HR9 := hid (HR7.out.on ((Below.refl _ _).drew.trans hb9)); have r0 := HR9.out.box.cell 0; have r1 := HR9.out.box.cell 1; have r2 := HR9.out.box.cell 2; have r3 := HR9.out.box.cell 3; simp [i4] at r0 r1 r2 r3; have o0 := HR9.out.out.cell 0; have o1 := HR9.out.out.cell 1; have o2 := HR9.out.out.cell 2; have o3 := HR9.out.out.cell 3; simp [z4] at o0 o1 o2 o3; have hfo := HR9.out.out.free; have ho9 := HR9.out.out.lt; clear hb9)
            all_goals
              go_wp2_with fail
              refine bodyPost_ret (v := .tuple #[.agg (i4 ⟨jop, ja, jb, jn⟩), .bool (validIns ⟨jop, ja, jb, jn⟩)]) ?_ rfl ?_
              · exact results_cell_tmp Tryz.results64 _ _ w.heap.size (i4 ⟨jop, ja, jb, jn⟩) _ rfl (four_row HR9.out.out jop ja jb jn) Tryz.underlying70 size_four
              exact read_if ⟨jop, ja, jb, jn⟩ HPost.out (four_bel HR9.out.bel (Nat.le_refl _) _ _ _ _)
end Go.Proofs.YtihhpgklpichgaaGreat.C2
