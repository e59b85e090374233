/- ImageBytes of the program. -/
import Derived.Test.YtihhpgklpichgabApp3
set_option linter.unusedSimpArgs false
set_option linter.unusedVariables false
namespace Go.Proofs.Ytihhpgklpichgab.Im
open Go.RowKit Pl Ft Mm In C2

def bts (m : Img) : List Int := if imageOk m = true then imgBytes m else []
def BytesPost (m : Img) (w : World) (e : Ending) (w' : World) : Prop := ∃ v, e = .returned v ∧ w'.ownsRow w.heap.size 3 1 v (bts m).length (ints (bts m)) ∧ Below w.heap.size w w'
/-- The list so far. -/
structure Lst (B : Nat) (w : World) (xs : List Int) (v : Value) (wr : World) : Prop where
  own : wr.ownsRow B 3 1 v xs.length (ints xs)
  size : B ≤ wr.heap.size
  bel : Below B w wr
theorem head_names (m : Img) (k : Nat) (h : ImgBd m) : (imgFront m ++ namesBytes (m.names.take k)).length ≤ 200 := by
  have h1 := names_len (m.names.take k) (fun n hn => h.text8 n (List.mem_of_mem_take hn))
  have h2 := List.length_take_le k m.names
  have h3 : (m.names.take k).length ≤ m.names.length := by rw [List.length_take]; omega
  have h4 := h.n1
  rw [List.length_append, front_len]
  omega
theorem int_ne_name' : 3 ≠ 98 := by decide
set_option maxRecDepth 100000 in
set_option maxHeartbeats 4000000 in
theorem imageBytes_c (m : Img) (vc vd vn : Value) (w : World) (h : ICells w vc vd vn m) (hs : Sm m) :
    Calls Try.prog 36 #[imgVal vc vd vn m] w (BytesPost m w) := by
  obtain ⟨ac, cc, rfl⟩ := rd_slice h.c
  obtain ⟨ad, cd, rfl⟩ := rd_slice h.d
  obtain ⟨an, cn, rfl⟩ := nrd_slice h.n
  have HI := hid h
  have HS := hid hs
  have HX0 := hid (Row.new w 48 #[.slice ac m.code.length cc, .int .i64 m.entry, .int .i64 m.room, .slice ad m.data.length cd, .slice an m.names.length cn])
  have HB0 := hid ((Below.refl w.heap.size w).alloc (Nat.le_refl _) (.cells #[.slice ac m.code.length cc, .int .i64 m.entry, .int .i64 m.room, .slice ad m.data.length cd, .slice an m.names.length cn] 48))
  have hlc := hs.c
  have hld := hs.d
  have hln := hs.n
  clear h hs
  obtain ⟨i0, hi, hz0, hz1, hz2⟩ := info_parts info_int
  have H0 := hid hz0
  have H1 := hid hz1
  have H2 := hid hz2
  have HIn := hid hi
  clear hz0 hz1 hz2 hi
  have hV : imgVal (.slice ac m.code.length cc) (.slice ad m.data.length cd) (.slice an m.names.length cn) m = .agg #[.slice ac m.code.length cc, .int .i64 m.entry, .int .i64 m.room, .slice ad m.data.length cd, .slice an m.names.length cn] := rfl
  rw [hV]
  clear hV
  go_enter Try.func36, Try.ntmps36
  go_wp2_with fail
  refine (imageOk_c m _ _ _ _ (HI.out.on HB0.out) HS.out).mono ?_
  rintro e w1 ⟨rfl, hb1⟩
  have HB1 := hid (HB0.out.trans (hb1.mono HB0.out.size))
  have HX1 := hid (HX0.out.on hb1)
  have hz1 := hb1.size
  simp only [World.size_alloc] at hz1
  have hw01 : w.heap.size < w1.heap.size := by omega
  clear hb1
  cases hok : imageOk m
  · have HOk := hid hok
    clear hok
    go_wp2_with fail
    go_ret
    refine ⟨_, rfl, ?_, HB1.out⟩
    have e : bts m = [] := by rw [bts, HOk.out]; rfl
    rw [e]
    exact World.ownsRow_nil _ _ _ _
  have HBd := hid (imageOk_bd hok)
  have HBts := hid (show bts m = imgBytes m by rw [bts, hok]; rfl)
  clear hok
  have x0 := HX1.out.cell 0
  have x1 := HX1.out.cell 1
  have x2 := HX1.out.cell 2
  have x3 := HX1.out.cell 3
  have x4 := HX1.out.cell 4
  simp at x0 x1 x2 x3 x4
  have b1 := HBd.out.c1
  have b2 := HBd.out.e0
  have b3 := HBd.out.e1
  go_wp2_with fail
  have HL1 := hid (own_lit w1 [108, 99] #[.int .i64 108, .int .i64 99] rfl (by decide) 2 rfl)
  have HX2 := hid (HX1.out.alloc (.cells #[.int .i64 108, .int .i64 99] 3))
  refine (withBytes_g w1.heap.size [108, 99] m.code.length 2 _ _ HL1.out (by simp) (by omega) (by simp) (by omega) (by omega)).mono ?_
  rintro e w2 ⟨v2, rfl, hg2⟩
  obtain ⟨l2, hl2⟩ : ∃ l, [108, 99] ++ bytesOf m.code.length 2 = l := ⟨_, rfl⟩
  have hn2 : l2.length = 4 := by rw [← hl2]; rfl
  have HE2 := hid hl2
  rw [hl2] at hg2
  have HG2 := hid hg2
  have HX3 := hid (HX2.out.below hg2.bel HX1.out.lt)
  have HB2 := hid ((HB1.out.alloc HB1.out.size (.cells #[.int .i64 108, .int .i64 99] 3)).trans (hg2.bel.mono HB1.out.size))
  have hz2 := hg2.bel.size
  simp only [World.size_alloc] at hz2
  have hw2 : w.heap.size < w2.heap.size := by omega
  clear hg2 hl2 x0 x1 x2 x3 x4
  have x0 := HX3.out.cell 0
  have x1 := HX3.out.cell 1
  have x2 := HX3.out.cell 2
  have x3 := HX3.out.cell 3
  have x4 := HX3.out.cell 4
  simp at x0 x1 x2 x3 x4
  go_wp2_with fail
  refine (withBytes_g w1.heap.size l2 m.entry 2 _ _ HG2.out.own (by omega) (by omega) (by omega) (by omega) (by omega)).mono ?_
  rintro e w3 ⟨v3, rfl, hg3⟩
  obtain ⟨l3, hl3⟩ : ∃ l, l2 ++ bytesOf m.entry 2 = l := ⟨_, rfl⟩
  have hn3 : l3.length = 6 := by rw [← hl3, List.length_append, hn2, bytesOf_len]
  have HE3 := hid hl3
  rw [hl3] at hg3
  have HG3 := hid hg3
  have HX4 := hid (HX3.out.below hg3.bel HX1.out.lt)
  have HB3 := hid (HB2.out.trans (hg3.bel.mono HB1.out.size))
  have hz3 := hg3.bel.size
  have hw3 : w.heap.size < w3.heap.size := by omega
  clear hg3 hl3 x0 x1 x2 x3 x4
  have x0 := HX4.out.cell 0
  have x1 := HX4.out.cell 1
  have x2 := HX4.out.cell 2
  have x3 := HX4.out.cell 3
  have x4 := HX4.out.cell 4
  simp at x0 x1 x2 x3 x4
  have b4 := HBd.out.n1
  have HN2 := hid hn2
  clear hn2
  go_wp2_with (at_builtin; refine app_ints _ rfl _ _ rfl w1.heap.size l3 [m.room, m.data.length, m.names.length] v3 rfl (HG3.out.own.alloc _) _ _ _ rfl rfl (SrcAt.at_ w3 [m.room, m.data.length, m.names.length] #[.int .i64 m.room, .int .i64 m.data.length, .int .i64 m.names.length] _ 3 rfl rfl rfl) (by simp; omega) (by simp; omega) ?_)
  intro v4 w4 hg4
  have HFr := hid (show l3 ++ [m.room, (m.data.length : Int), (m.names.length : Int)] = imgFront m by rw [← HE3.out, ← HE2.out]; rfl)
  rw [HFr.out] at hg4
  obtain ⟨l4, hl4⟩ : ∃ l, imgFront m = l := ⟨_, rfl⟩
  have HE4 := hid hl4
  rw [hl4] at hg4
  have HG4 := hid hg4
  have HX5 := hid ((HX4.out.alloc (.cells #[.int .i64 m.room, .int .i64 m.data.length, .int .i64 m.names.length] 3)).below hg4.bel HX1.out.lt)
  have HB4 := hid ((HB3.out.alloc HB3.out.size (.cells #[.int .i64 m.room, .int .i64 m.data.length, .int .i64 m.names.length] 3)).trans (hg4.bel.mono HB1.out.size))
  have hz4 := hg4.bel.size
  simp only [World.size_alloc] at hz4
  have hw4 : w1.heap.size ≤ w4.heap.size := by omega
  clear hg4 hl4 x0 x1 x2 x3 x4
  have x4 := HX5.out.cell 4
  simp at x4
  go_wp2_with fail
  go_loopw [3, 33] (fun v c wr => ∃ k : Nat, c = .int .i64 k ∧ k ≤ m.names.length ∧ Grows w1.heap.size (l4 ++ namesBytes (m.names.take k)) v4 v w4 wr) (fun _ c _ => m.names.length - (intOf c).toNat)
  case atStart => exact ⟨0, rfl, by omega, by simpa [namesBytes] using Grows.refl HG4.out.own⟩
  case round =>
    obtain ⟨k, rfl, hk, hgr⟩ := hrel
    have HGr := hid hgr
    have hzr := hgr.bel.size
    have hwr : w1.heap.size ≤ wr.heap.size := by omega
    have hlk := head_names m k HBd.out
    rw [HE4.out] at hlk
    have HXr := hid (HX5.out.below hgr.bel HX1.out.lt)
    have HBw := hid (HB4.out.trans (hgr.bel.mono HB1.out.size))
    clear hgr x4
    by_cases hlt : k < m.names.length
    · rcases HI.out.n with ⟨a', c', e', hn⟩
      simp only [Value.slice.injEq] at e'
      obtain ⟨rfl, _, rfl⟩ := e'
      rcases hn with h | ⟨g, o, rfl, hg, hc⟩
      · rw [h] at hlt; simp at hlt
      obtain ⟨c0, c1⟩ := hc k hlt
      have q0 : wr.cell? ⟨g, o + k * 2, none⟩ = some (.string (m.names.getD k .none).text) := (HBw.out.cell (p := ⟨g, o + k * 2, none⟩) hg).trans c0
      have q1 : wr.cell? ⟨g, o + k * 2 + 1, none⟩ = some (.int .i64 (m.names.getD k .none).at_) := (HBw.out.cell (p := ⟨g, o + k * 2 + 1, none⟩) hg).trans c1
      have h8 := HBd.out.text8 (m.names.getD k .none) (by simp [hlt])
      have hat := HBd.out.at0 k hlt
      obtain ⟨ha0, ha1⟩ := hat
      have HSucc := hid (namesBytes_succ m.names k hlt)
      obtain ⟨⟨t, x⟩, hn⟩ : ∃ n, m.names.getD k .none = n := ⟨_, rfl⟩
      rw [hn] at q0 q1 h8 ha0 ha1 HSucc
      simp only at q0 q1 h8 ha0 ha1
      clear hc c0 c1 hn
      obtain ⟨L, hL⟩ : ∃ L, l4 ++ namesBytes (m.names.take k) = L := ⟨_, rfl⟩
      rw [hL] at HGr hlk
      have HL := hid hL
      clear hL
      go_upto_region 10 with fail
      have HN := hid (Row.new wr 98 #[.string t, .int .i64 x])
      have HGn := hid (HGr.out.more hw4 ((Below.refl _ _).alloc (Nat.le_refl _) (.cells #[.string t, .int .i64 x] 98)))
      go_wp2_with (at_builtin; refine app_ints _ rfl _ _ rfl w1.heap.size L [(t.size : Int)] _ rfl (HGn.out.own.alloc _) _ _ _ rfl rfl (SrcAt.at_ _ [(t.size : Int)] #[.int .i64 t.size] _ 1 rfl (by simp) rfl) (by simp; omega) (by simp; omega) ?_)
      intro v5 w5 hg5
      have HN5 := hid (hg5.row (HN.out.alloc (.cells #[.int .i64 t.size] 3)) (no_own (HN.out.alloc (.cells #[.int .i64 t.size] 3)) (HGn.out.own.alloc _) int_ne_name'))
      have HG5 := hid ((HGn.out.more hw4 ((Below.refl _ _).alloc (Nat.le_refl _) (.cells #[.int .i64 t.size] 3))).trans hg5)
      have hz5 := hg5.bel.size
      simp only [World.size_alloc] at hz5
      have hwr5 : wr.heap.size < w5.heap.size := by omega
      obtain ⟨L5, hL5⟩ : ∃ l, L ++ [(t.size : Int)] = l := ⟨_, rfl⟩
      have hn5 : L5.length = L.length + 1 := by rw [← hL5, List.length_append]; rfl
      rw [hL5] at HG5
      have HE5 := hid hL5
      clear hg5 q0 q1 hL5
      have n0 := HN5.out.cell 0
      have n1 := HN5.out.cell 1
      simp at n0 n1
      go_wp2_with fail
      refine (withText_g w1.heap.size L5 t _ _ HG5.out.own (by omega) (by omega) (by omega)).mono ?_
      rintro e w6 ⟨v6, rfl, hg6⟩
      have HN6 := hid (hg6.row HN5.out (no_own HN5.out HG5.out.own int_ne_name'))
      have HG6 := hid (HG5.out.trans hg6)
      have hz6 := hg6.bel.size
      have hwr6 : wr.heap.size < w6.heap.size := by omega
      obtain ⟨L6, hL6⟩ : ∃ l, L5 ++ textInts t = l := ⟨_, rfl⟩
      have hn6 : L6.length ≤ L5.length + 8 := by rw [← hL6, List.length_append, textInts_len]; omega
      rw [hL6] at HG6
      have HE6 := hid hL6
      clear hg6 n0 n1 hL6
      have n0 := HN6.out.cell 0
      have n1 := HN6.out.cell 1
      simp at n0 n1
      go_wp2_with fail
      refine (withBytes_g w1.heap.size L6 x 2 _ _ HG6.out.own (by omega) (by omega) (by omega) (by omega) (by omega)).mono ?_
      rintro e w7 ⟨v7, rfl, hg7⟩
      have HG7 := hid (HG6.out.trans hg7)
      have hs7 : L6 ++ bytesOf x 2 = l4 ++ namesBytes (m.names.take (k + 1)) := by
        rw [HSucc.out, ← HE6.out, ← HE5.out, ← HL.out]
        simp [nmBytes]
      rw [hs7] at HG7
      clear hg7 n0 n1 hs7
      go_wp2_with fail
      go_roundw
      case rel => exact ⟨k + 1, by go_num, by omega, HG7.out⟩
      case measure => simp [intOf]; omega
    · obtain rfl : k = m.names.length := by omega
      rw [List.take_length] at HGr
      have hll := head_len HBd.out
      have hlh : (imgFront m ++ namesBytes m.names ++ m.code ++ m.data).length ≤ 2205 := hll
      rw [HE4.out] at hlh
      obtain ⟨L, hL⟩ : ∃ L, l4 ++ namesBytes m.names = L := ⟨_, rfl⟩
      rw [hL] at HGr hlh
      have HL := hid hL
      have x0 := HXr.out.cell 0
      have x3 := HXr.out.cell 3
      simp at x0 x3
      have HRc := hid (HI.out.on HBw.out).c
      simp only [List.length_append] at hlh
      clear hL hll hlk
      go_wp2_with (at_builtin; refine app_ints _ rfl _ _ rfl w1.heap.size L m.code _ rfl HGr.out.own _ _ _ rfl rfl (SrcAt.of_rd HRc.out) (by omega) (by omega) ?_)
      intro v5 w5 hg5
      have HX6 := hid (HXr.out.below hg5.bel HX1.out.lt)
      have HB5 := hid (HBw.out.trans (hg5.bel.mono HB1.out.size))
      have HG5 := hid hg5
      have hz5 := hg5.bel.size
      obtain ⟨L5, hL5⟩ : ∃ l, L ++ m.code = l := ⟨_, rfl⟩
      have hn5 : L5.length = L.length + m.code.length := by rw [← hL5, List.length_append]
      rw [hL5] at HG5
      have HE5 := hid hL5
      clear hg5 x0 x3 hL5
      have x3 := HX6.out.cell 3
      simp at x3
      have HRd := hid (HI.out.on HB5.out).d
      go_wp2_with (at_builtin; refine app_ints _ rfl _ _ rfl w1.heap.size L5 m.data _ rfl HG5.out.own _ _ _ rfl rfl (SrcAt.of_rd HRd.out) (by omega) (by omega) ?_)
      intro v6 w6 hg6
      have HB6 := hid (HB5.out.trans (hg6.bel.mono HB1.out.size))
      have HG6 := hid hg6
      have hz6 := hg6.bel.size
      have HH := hid (show L5 ++ m.data = imgHead m by rw [← HE5.out, ← HL.out, ← HE4.out]; rfl)
      rw [HH.out] at HG6
      obtain ⟨L6, hL6⟩ : ∃ l, imgHead m = l := ⟨_, rfl⟩
      have hn6 : L6.length = L5.length + m.data.length := by rw [← hL6, ← HH.out, List.length_append]
      have hby := head_byte HBd.out
      rw [hL6] at HG6 hby
      have HBy := hid hby
      have HE6 := hid hL6
      clear hg6 x3 hL6 hby
      go_wp2_with fail
      refine (sumOf_c L6 _ _ (.of_own HG6.out.own) (by omega) HBy.out).mono ?_
      rintro e w7 ⟨rfl, rfl⟩
      obtain ⟨z, hz⟩ : ∃ z, chk L6 = z := ⟨_, rfl⟩
      rw [hz]
      have HZ := hid hz
      clear hz
      go_wp2_with (at_builtin; refine app_ints _ rfl _ _ rfl w1.heap.size L6 [z] _ rfl (HG6.out.own.alloc _) _ _ _ rfl rfl (SrcAt.at_ _ [z] #[.int .i64 z] _ 1 rfl (by simp) rfl) (by simp; omega) (by simp; omega) ?_)
      intro v7 w7 hg7
      have HB7 := hid ((HB6.out.alloc HB6.out.size (.cells #[.int .i64 z] 3)).trans (hg7.bel.mono HB1.out.size))
      have HG7 := hid hg7
      have HF := hid (show L6 ++ [z] = bts m by rw [HBts.out, ← HZ.out, ← HE6.out]; rfl)
      rw [HF.out] at HG7
      clear hg7
      go_wp2_with fail
      go_ret
      exact ⟨_, rfl, own_mono HG7.out.own HB1.out.size, HB7.out⟩
end Go.Proofs.Ytihhpgklpichgab.Im
