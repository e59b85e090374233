/- NameOf, by the program and by the model. -/
import Derived.Test.YtihhpgklpichgacDoorNo
import Derived.Laws.Closers25b
set_option linter.unusedSimpArgs false
set_option linter.unusedVariables false
namespace Go.Proofs.YtihhpgklpichgacDoor.Im
open Go.RowKit Pl Ft Mm In C2

def dec (x : Int) : ByteArray := ⟨(Lib.decDigits x.toNat).toArray⟩
/-- The name of a place. -/
def nameOf (m : Img) (x : Int) : ByteArray :=
  if imageOk m && (decide (0 ≤ x) && decide (x < m.code.length)) then
    match found m.names x with
    | some n => n.text
    | none => ⟨#[102]⟩ ++ dec x
  else ⟨#[]⟩
def textAt (l : List Nm) (x : Int) : ByteArray := match found l x with | some n => n.text | none => ⟨#[]⟩
theorem dec_size {x : Int} (h0 : 0 ≤ x) : (dec x).size ≤ x.toNat + 1 := digits_len x.toNat
theorem itoa_dec {x : Int} (h0 : 0 ≤ x) : (⟨(Lib.itoa x).toArray⟩ : ByteArray) = dec x := by
  unfold dec Lib.itoa
  rw [if_neg (by omega)]
abbrev Tab (w : World) : Prop := Lib.TabIs Tryd.prog w "internal/strconv.uint64pow10" .u64 Lib.pow10Tab
theorem Tab.on {w w' : World} (h : Tab w) (hb : Below w.heap.size w w') : Tab w' := (Lib.tabBelow_of_tabIs h).on hb |>.here
set_option maxRecDepth 100000 in
set_option maxHeartbeats 1000000 in
theorem nameOf_c (m : Img) (vc vd vn : Value) (x : Int) (w : World) (h : ICells w vc vd vn m) (hs : Sm m) (ht : Tab w) :
    Calls Tryd.prog 7 #[imgVal vc vd vn m, .int .i64 x] w fun e w' => e = .returned (.string (nameOf m x)) ∧ Below w.heap.size w w' := by
  obtain ⟨ac, cc, rfl⟩ := rd_slice h.c
  obtain ⟨ad, cd, rfl⟩ := rd_slice h.d
  obtain ⟨an, cn, rfl⟩ := nrd_slice h.n
  have HI := hid h
  have HS := hid hs
  have HT := hid ht
  have hlc := hs.c
  have hln := hs.n
  clear h hs ht
  have HN := hid (show ∃ s, nameOf m x = s from ⟨_, rfl⟩)
  obtain ⟨s, hn⟩ := HN.out
  have HQ := hid hn
  rw [hn]
  clear hn HN
  have hV : imgVal (.slice ac m.code.length cc) (.slice ad m.data.length cd) (.slice an m.names.length cn) m = .agg #[.slice ac m.code.length cc, .int .i64 m.entry, .int .i64 m.room, .slice ad m.data.length cd, .slice an m.names.length cn] := rfl
  have HV := hid hV
  rw [hV]
  clear hV
  have HX0 := hid (Row.new w 30 #[.slice ac m.code.length cc, .int .i64 m.entry, .int .i64 m.room, .slice ad m.data.length cd, .slice an m.names.length cn])
  have hB0 := (Below.refl w.heap.size w).alloc (Nat.le_refl _) (.cells #[.slice ac m.code.length cc, .int .i64 m.entry, .int .i64 m.room, .slice ad m.data.length cd, .slice an m.names.length cn] 30)
  have hA0 := (Below.refl (w.alloc (.cells #[.slice ac m.code.length cc, .int .i64 m.entry, .int .i64 m.room, .slice ad m.data.length cd, .slice an m.names.length cn] 30)).heap.size (w.alloc (.cells #[.slice ac m.code.length cc, .int .i64 m.entry, .int .i64 m.room, .slice ad m.data.length cd, .slice an m.names.length cn] 30))).alloc (Nat.le_refl _) (.cells #[.int .i64 x] 3)
  have HX1 := hid (HX0.out.on hA0)
  have HY1 := hid (Row.new (w.alloc (.cells #[.slice ac m.code.length cc, .int .i64 m.entry, .int .i64 m.room, .slice ad m.data.length cd, .slice an m.names.length cn] 30)) 3 #[.int .i64 x])
  have HB1 := hid (hB0.trans (hA0.mono hB0.size))
  have hg : (w.alloc (.cells #[.slice ac m.code.length cc, .int .i64 m.entry, .int .i64 m.room, .slice ad m.data.length cd, .slice an m.names.length cn] 30)).heap.size = w.heap.size + 1 := by simp
  rw [hg] at HY1
  clear hB0 hA0 hg HX0
  go_enter Tryd.func7, Tryd.ntmps7
  go_wp2_with fail
  generalize (w.alloc (.cells #[.slice ac m.code.length cc, .int .i64 m.entry, .int .i64 m.room, .slice ad m.data.length cd, .slice an m.names.length cn] 30)).alloc (.cells #[.int .i64 x] 3) = w1 at HX1 HY1 HB1 ⊢
  rw [← HV.out]
  refine (imageOk_c m _ _ _ w1 (HI.out.on HB1.out) HS.out).mono ?_
  rintro e w2 ⟨rfl, hb2⟩
  have HX2 := hid (HX1.out.on hb2)
  have HY2 := hid (HY1.out.on hb2)
  have HB2 := hid (HB1.out.trans (hb2.mono HB1.out.size))
  clear hb2
  rw [HV.out]
  cases h1 : imageOk m
  · obtain rfl : s = ⟨#[]⟩ := by rw [← HQ.out, nameOf, h1]; rfl
    clear h1
    go_wp2_with fail
    go_ret
    exact ⟨rfl, HB2.out⟩
  have H1 := hid h1
  clear h1
  have x0 := HX2.out.cell 0
  have x1 := HX2.out.cell 1
  have x2 := HX2.out.cell 2
  have x3 := HX2.out.cell 3
  have x4 := HX2.out.cell 4
  have y0 := HY2.out.cell 0
  simp at x0 x1 x2 x3 x4 y0
  go_wp2_with fail
  rw [← HV.out]
  refine (hasPlace_c m _ _ _ x w2 (HI.out.on HB2.out) HS.out).mono ?_
  rintro e w3 ⟨rfl, hb3⟩
  have HX3 := hid (HX2.out.on hb3)
  have HY3 := hid (HY2.out.on hb3)
  have HB3 := hid (HB2.out.trans (hb3.mono HB2.out.size))
  clear hb3 x0 x1 x2 x3 x4 y0
  cases h2 : (decide (0 ≤ x) && decide (x < m.code.length))
  · obtain rfl : s = ⟨#[]⟩ := by rw [← HQ.out, nameOf, h2, Bool.and_false]; rfl
    clear h2
    go_wp2_with fail
    go_ret
    exact ⟨rfl, HB3.out⟩
  have H2 := hid h2
  obtain ⟨hx0, hx1⟩ : 0 ≤ x ∧ x < m.code.length := by simpa using h2
  clear h2
  have x4 := HX3.out.cell 4
  simp at x4
  have hlt := HY3.out.lt
  have y0 := HY3.out.cell 0
  simp at y0
  have HYc := hid y0
  go_wp2_with fail
  refine (indexAt_c m.names _ x _ _ (HI.out.on HB3.out).n hln hlt HYc.out).mono ?_
  rintro e w4 ⟨k, rfl, hk0, hk1, hf, hb4⟩
  have HX4 := hid (HX3.out.on hb4)
  have HY4 := hid (HY3.out.on hb4)
  have HB4 := hid (HB3.out.trans (hb4.mono HB3.out.size))
  clear hb4 x4 y0 HYc
  have x4 := HX4.out.cell 4
  have y0 := HY4.out.cell 0
  simp at x4 y0
  by_cases hk : 0 ≤ k
  · have hf' : found m.names x = some (m.names.getD k.toNat .none) := by
      rcases hf with ⟨h, _⟩ | ⟨_, h⟩
      · omega
      · exact h
    have hs2 : s = (m.names.getD k.toNat .none).text := by rw [← HQ.out, nameOf, H1.out, H2.out, hf']; rfl
    have HS2 := hid hs2
    clear hf hf' hs2
    obtain ⟨j, rfl⟩ := Int.eq_ofNat_of_zero_le hk
    rw [Int.toNat_natCast] at HS2
    rcases (HI.out.on HB4.out).n with ⟨a', c', e', hc'⟩
    simp only [Value.slice.injEq] at e'
    obtain ⟨rfl, _, rfl⟩ := e'
    rcases hc' with h0 | ⟨g2, o, rfl, hg2, hcs⟩
    · rw [h0] at hk1; simp at hk1; omega
    obtain ⟨q1, q2⟩ := hcs j (by omega)
    rw [← HS2.out] at q1
    clear hcs q2
    go_wp2_with fail
    go_ret
    exact ⟨rfl, HB4.out⟩
  · have hf' : found m.names x = none := by
      rcases hf with ⟨_, h⟩ | ⟨h, _⟩
      · exact h
      · omega
    have hs2 : s = ⟨#[102]⟩ ++ dec x := by rw [← HQ.out, nameOf, H1.out, H2.out, hf']; rfl
    have HS2 := hid hs2
    clear hf hf' hs2
    go_wp2_with fail
    refine (Tryd.strconv_Itoa x (by omega) (by omega) _ (HT.out.on HB4.out)).mono ?_
    rintro e w5 ⟨rfl, kk, os, rfl⟩
    have HB5 := hid (HB4.out.trans (Lib.below_grow w.heap.size w4 HB4.out.size kk os))
    generalize Sort.grow (w4.drewN kk) os = w5 at HB5 ⊢
    rw [itoa_dec hx0]
    have hd := dec_size hx0
    obtain ⟨d, hdd⟩ : ∃ d, dec x = d := ⟨_, rfl⟩
    rw [hdd] at hd ⊢
    have HD := hid hdd
    clear hdd
    go_wp2_with fail
    go_ret
    refine ⟨?_, HB5.out⟩
    rw [HS2.out, HD.out]
    rfl
set_option maxHeartbeats 800000 in
theorem nameAt_c (m : Img) (vc vd vn : Value) (x : Int) (w : World) (h : ICells w vc vd vn m) (hs : Sm m) :
    Calls Tryd.prog 13 #[imgVal vc vd vn m, .int .i64 x] w fun e w' => e = .returned (.string (textAt m.names x)) ∧ Below w.heap.size w w' := by
  obtain ⟨ac, cc, rfl⟩ := rd_slice h.c
  obtain ⟨ad, cd, rfl⟩ := rd_slice h.d
  obtain ⟨an, cn, rfl⟩ := nrd_slice h.n
  have HI := hid h
  have HS := hid hs
  have hln := hs.n
  clear h hs
  have hV : imgVal (.slice ac m.code.length cc) (.slice ad m.data.length cd) (.slice an m.names.length cn) m = .agg #[.slice ac m.code.length cc, .int .i64 m.entry, .int .i64 m.room, .slice ad m.data.length cd, .slice an m.names.length cn] := rfl
  rw [hV]
  clear hV
  have HX0 := hid (Row.new w 30 #[.slice ac m.code.length cc, .int .i64 m.entry, .int .i64 m.room, .slice ad m.data.length cd, .slice an m.names.length cn])
  have HB0 := hid ((Below.refl w.heap.size w).alloc (Nat.le_refl _) (.cells #[.slice ac m.code.length cc, .int .i64 m.entry, .int .i64 m.room, .slice ad m.data.length cd, .slice an m.names.length cn] 30))
  have HN := hid HI.out.n
  go_enter Tryd.func13, Tryd.ntmps13
  go_wp2_with fail
  generalize w.alloc (.cells #[.slice ac m.code.length cc, .int .i64 m.entry, .int .i64 m.room, .slice ad m.data.length cd, .slice an m.names.length cn] 30) = w1 at HX0 HB0 ⊢
  go_loopw [5] (fun c wr => ∃ k : Nat, c = .int .i64 k ∧ k ≤ m.names.length ∧ NoAt m.names x k ∧ Below w1.heap.size w1 wr) (fun c _ => m.names.length - (intOf c).toNat)
  case atStart => exact ⟨0, rfl, by omega, NoAt.zero _ x, Below.refl _ _⟩
  case round =>
    obtain ⟨k, rfl, hk, hno, hb⟩ := hrel
    have HB := hid (HB0.out.trans (hb.mono HB0.out.size))
    have HX := hid (HX0.out.on hb)
    have HNo := hid hno
    have HW := hid hb
    clear hb hno
    have x4 := HX.out.cell 4
    simp at x4
    by_cases hlt : k < m.names.length
    · rcases (HN.out.on HB.out) with ⟨a', c', e', hc'⟩
      simp only [Value.slice.injEq] at e'
      obtain ⟨rfl, _, rfl⟩ := e'
      rcases hc' with h0 | ⟨g2, o, rfl, hg2, hcs⟩
      · rw [h0] at hlt; simp at hlt
      obtain ⟨q1, q2⟩ := hcs k hlt
      obtain ⟨t, ht⟩ : ∃ t, (m.names.getD k .none).text = t := ⟨_, rfl⟩
      obtain ⟨y, hy⟩ : ∃ t, (m.names.getD k .none).at_ = t := ⟨_, rfl⟩
      rw [ht] at q1
      rw [hy] at q2
      have HY := hid hy
      have HT := hid ht
      clear hcs ht hy
      cases he : (y == x)
      · have HE := hid he
        have hne : y ≠ x := by simpa using he
        go_wp2_with fail
        go_roundw
        case rel => exact ⟨k + 1, by go_num, by omega, HNo.out.succ hlt (by rw [HY.out]; exact HE.out), HW.out⟩
        case measure => simp [intOf]; omega
      · have HE := hid he
        obtain rfl : y = x := by simpa using he
        have hq : textAt m.names y = t := by unfold textAt; rw [HNo.out.found hlt (by rw [HY.out]; exact HE.out)]; exact HT.out
        have HQ := hid hq
        clear hq
        go_wp2_with fail
        go_ret
        exact ⟨by rw [HQ.out]; rfl, HB.out⟩
    · obtain rfl : k = m.names.length := by omega
      have hq : textAt m.names x = ⟨#[]⟩ := by unfold textAt; rw [HNo.out.all]
      have HQ := hid hq
      clear hq
      go_wp2_with fail
      go_ret
      exact ⟨by rw [HQ.out]; rfl, HB.out⟩
set_option maxRecDepth 100000 in
set_option maxHeartbeats 1000000 in
theorem sNameOf_c (m : Img) (vc vd vn : Value) (x : Int) (w : World) (h : ICells w vc vd vn m) (hs : Sm m) :
    Calls Tryd.prog 5 #[imgVal vc vd vn m, .int .i64 x] w fun e w' => e = .returned (.string (nameOf m x)) ∧ Below w.heap.size w w' := by
  obtain ⟨ac, cc, rfl⟩ := rd_slice h.c
  obtain ⟨ad, cd, rfl⟩ := rd_slice h.d
  obtain ⟨an, cn, rfl⟩ := nrd_slice h.n
  have HI := hid h
  have HS := hid hs
  have hlc := hs.c
  have hln := hs.n
  clear h hs
  have HN := hid (show ∃ s, nameOf m x = s from ⟨_, rfl⟩)
  obtain ⟨s, hn⟩ := HN.out
  have HQ := hid hn
  rw [hn]
  clear hn HN
  have hV : imgVal (.slice ac m.code.length cc) (.slice ad m.data.length cd) (.slice an m.names.length cn) m = .agg #[.slice ac m.code.length cc, .int .i64 m.entry, .int .i64 m.room, .slice ad m.data.length cd, .slice an m.names.length cn] := rfl
  have HV := hid hV
  rw [hV]
  clear hV
  have HX1 := hid (Row.new w 30 #[.slice ac m.code.length cc, .int .i64 m.entry, .int .i64 m.room, .slice ad m.data.length cd, .slice an m.names.length cn])
  have HB1 := hid ((Below.refl w.heap.size w).alloc (Nat.le_refl _) (.cells #[.slice ac m.code.length cc, .int .i64 m.entry, .int .i64 m.room, .slice ad m.data.length cd, .slice an m.names.length cn] 30))
  go_enter Tryd.func5, Tryd.ntmps5
  go_wp2_with fail
  generalize w.alloc (.cells #[.slice ac m.code.length cc, .int .i64 m.entry, .int .i64 m.room, .slice ad m.data.length cd, .slice an m.names.length cn] 30) = w1 at HX1 HB1 ⊢
  rw [← HV.out]
  refine (validImage_c m _ _ _ w1 (HI.out.on HB1.out) HS.out).mono ?_
  rintro e w2 ⟨rfl, hb2⟩
  have HX2 := hid (HX1.out.on hb2)
  have HB2 := hid (HB1.out.trans (hb2.mono HB1.out.size))
  clear hb2
  rw [HV.out]
  cases h1 : imageOk m
  · obtain rfl : s = ⟨#[]⟩ := by rw [← HQ.out, nameOf, h1]; rfl
    clear h1
    go_wp2_with fail
    go_ret
    exact ⟨rfl, HB2.out⟩
  have H1 := hid h1
  clear h1
  have x4 := HX2.out.cell 4
  have x0 := HX2.out.cell 0
  simp at x4 x0
  go_wp2_with fail
  refine (inR_c _ _ _ _).mono ?_
  rintro e w3 ⟨rfl, rfl⟩
  cases h2 : inRange x 0 ((m.code.length : Int) - 1)
  · have h2' : (decide (0 ≤ x) && decide (x < m.code.length)) = false := by
      rw [← h2]; simp only [inRange]
      by_cases a : 0 ≤ x <;> by_cases b : x < m.code.length <;> simp [a, b] <;> omega
    obtain rfl : s = ⟨#[]⟩ := by rw [← HQ.out, nameOf, h2', Bool.and_false]; rfl
    clear h2 h2'
    go_wp2_with fail
    go_ret
    exact ⟨rfl, HB2.out⟩
  obtain ⟨hx0, hx1⟩ : 0 ≤ x ∧ x < m.code.length := by
    simp only [inRange, Bool.and_eq_true, decide_eq_true_eq] at h2
    omega
  have H2 := hid (show (decide (0 ≤ x) && decide (x < m.code.length)) = true by simp; omega)
  clear h2
  have x1 := HX2.out.cell 1
  have x2 := HX2.out.cell 2
  have x3 := HX2.out.cell 3
  simp at x1 x2 x3
  go_wp2_with fail
  rw [← HV.out]
  refine (nameAt_c m _ _ _ x w2 (HI.out.on HB2.out) HS.out).mono ?_
  rintro e w4 ⟨rfl, hb4⟩
  have HB4 := hid (HB2.out.trans (hb4.mono HB2.out.size))
  clear hb4 x0 x1 x2 x3 x4
  rw [HV.out]
  obtain ⟨u, hu⟩ : ∃ u, textAt m.names x = u := ⟨_, rfl⟩
  rw [hu]
  cases hf : found m.names x
  · obtain rfl : u = ⟨#[]⟩ := by rw [← hu, textAt, hf]
    clear hu
    have hs2 : s = ⟨#[102]⟩ ++ dec x := by rw [← HQ.out, nameOf, H1.out, H2.out, hf]; rfl
    have HS2 := hid hs2
    clear hf hs2
    go_wp2_with fail
    obtain ⟨n, rfl⟩ := Int.eq_ofNat_of_zero_le hx0
    refine (decimal_c n _ (by omega)).mono ?_
    rintro e w5 ⟨rfl, rfl⟩
    have hd := dec_size (x := (n : Int)) (by omega)
    have hq : (⟨(Lib.decDigits n).toArray⟩ : ByteArray) = dec n := rfl
    rw [hq]
    obtain ⟨d, hdd⟩ : ∃ d, dec (n : Int) = d := ⟨_, rfl⟩
    rw [hdd] at hd ⊢
    have HD := hid hdd
    clear hdd hq
    go_wp2_with fail
    go_ret
    refine ⟨?_, HB4.out⟩
    rw [HS2.out, HD.out]
    rfl
  · rename_i n
    have hs2 : s = n.text := by rw [← HQ.out, nameOf, H1.out, H2.out, hf]; rfl
    have hsz : 1 ≤ n.text.size := by
      have hm := List.mem_of_find?_eq_some (show m.names.find? (fun n => n.at_ == x) = some n from hf)
      obtain ⟨k, hk, e⟩ := List.mem_iff_getElem.1 hm
      have hok := H1.out
      simp only [imageOk, Bool.and_eq_true] at hok
      have h3 := (nmOk_bd ((namesOk_at hok.2.2).2 k hk)).1
      have e2 : m.names.getD k .none = n := by rw [← e]; simp [hk]
      rw [e2] at h3
      exact (isName_bd h3).1
    obtain rfl : u = s := by rw [← hu, hs2, textAt, hf]
    rw [← hs2] at hsz
    have hne : u.toList.isEmpty = false := by
      cases he : u.toList with
      | nil =>
        rw [toList_nil_iff_emptyBytes] at he
        rw [he] at hsz
        simp at hsz
      | cons a l => rfl
    clear hf hs2 hu
    go_wp2_with fail
    go_ret
    exact ⟨rfl, HB4.out⟩
end Go.Proofs.YtihhpgklpichgacDoor.Im
