/- FollowOf of the program and of the model. -/
import Derived.Test.YtihhpgklpichgaaGreatPl
import Derived.Test.YtihhpgklpichgaaGreatWs5
set_option linter.unusedSimpArgs false
set_option linter.unusedVariables false
namespace Go.Proofs.YtihhpgklpichgaaGreat.Wk
open Go.RowKit Pl Ft Mm In C2 Im Sw

/-- The instructions that are reached from some places on, with what is called or without, ascending. -/
noncomputable def reachL (code : List Int) (S : List Int) (calls : Bool) : List Int := truesL (fun q => pdec (Rc (Gm code calls) S q ∧ (readP code q).isSome = true)) code.length
theorem decide_pdec {P Q : Prop} [Decidable P] (h : P ↔ Q) : decide P = pdec Q := by
  by_cases hp : P
  · rw [decide_eq_true hp, pdec_yes (h.1 hp)]
  · rw [decide_eq_false hp, pdec_no (fun hq => hp (h.2 hq))]
theorem trues_reach {code S : List Int} {calls : Bool} {ms : List Nat} (h : ∀ p, p ∈ ms ↔ Rc (Gm code calls) S p) : truesL (fun q => decide (q ∈ insOf code ms)) code.length = reachL code S calls := by
  unfold reachL
  congr 1
  funext q
  apply decide_pdec
  rw [mem_insOf, h q]
theorem reachL_len (code S : List Int) (calls : Bool) : (reachL code S calls).length ≤ code.length := truesL_len _ _
noncomputable def followP (m : Img) : List Int := if imageOk m = true then reachL m.code [m.entry] true else []
theorem followP_len (m : Img) : (followP m).length ≤ 1000000 := by
  unfold followP
  split
  · rename_i h
    have := reachL_len m.code [m.entry] true
    have := (imageOk_bd h).c1
    omega
  · simp
theorem gw_gm {code S : List Int} {ms : List Nat} (h : ∀ p, p ∈ ms ↔ Rc (Gw code) S p) (p : Nat) : p ∈ ms ↔ Rc (Gm code true) S p := by
  rw [h p]
  exact (Rc.congr (fun p q => gm_gw)).symm
theorem insOf_lt {code : List Int} {ms : List Nat} (p : Nat) (h : p ∈ insOf code ms) : p < code.length := by
  obtain ⟨i, hi⟩ := Option.isSome_iff_exists.1 (mem_insOf.1 h).2
  exact (readP_facts hi).1
set_option maxRecDepth 100000 in
set_option maxHeartbeats 2000000 in
theorem follow_c (m : Img) (vc vd vn : Value) (w : World) (h : ICells w vc vd vn m) (hs : Sm m) (hcc : ∀ a n c, vc = .slice a n c → n ≤ c) :
    Calls Tryz.prog 16 #[imgVal vc vd vn m] w (WaysPost2 (followP m) w) := by
  obtain ⟨ac, cc, rfl⟩ := rd_slice h.c
  obtain ⟨ad, cd, rfl⟩ := rd_slice h.d
  obtain ⟨an, cn, rfl⟩ := nrd_slice h.n
  have HI := hid h
  have HS := hid hs
  have HCap := hid hcc
  clear h hs hcc
  obtain ⟨o, ho⟩ : ∃ o, followP m = o := ⟨_, rfl⟩
  have HQ := hid ho
  rw [ho]
  clear ho
  have hV : imgVal (.slice ac m.code.length cc) (.slice ad m.data.length cd) (.slice an m.names.length cn) m = .agg #[.slice ac m.code.length cc, .int .i64 m.entry, .int .i64 m.room, .slice ad m.data.length cd, .slice an m.names.length cn] := rfl
  have HV := hid hV
  rw [hV]
  clear hV
  have HB1 := hid ((Below.refl w.heap.size w).alloc (Nat.le_refl _) (.cells #[.slice ac m.code.length cc, .int .i64 m.entry, .int .i64 m.room, .slice ad m.data.length cd, .slice an m.names.length cn] 30))
  go_enter Tryz.func16, Tryz.ntmps16
  go_wp2_with fail
  generalize w.alloc (.cells #[.slice ac m.code.length cc, .int .i64 m.entry, .int .i64 m.room, .slice ad m.data.length cd, .slice an m.names.length cn] 30) = w1 at HB1 ⊢
  rw [← HV.out]
  cases h1 : imageOk m
  · obtain rfl : o = [] := by rw [← HQ.out, followP, h1]; rfl
    refine (walkOf_no m _ _ _ w1 (HI.out.on HB1.out) HS.out h1).mono ?_
    rintro e w2 ⟨rfl, hb2⟩
    have HB2 := hid (HB1.out.trans (hb2.mono HB1.out.size))
    clear hb2 h1
    go_wp2_with fail
    go_ret
    exact ⟨_, rfl, World.ownsRow_nil _ _ _ _, HB2.out⟩
  · have HO := hid (show o = reachL m.code [m.entry] true by rw [← HQ.out, followP, h1]; rfl)
    have hl2 := (imageOk_bd h1).c1
    refine (walkOf_yes m _ _ _ w1 (HI.out.on HB1.out) HS.out HCap.out h1).mono ?_
    rintro e w2 ⟨gw, gm, ms, rfl, hrow, hmap, hmem, hnd, hb2, _, _⟩
    have HB2 := hid (HB1.out.trans (hb2.mono HB1.out.size))
    have HRow := hid hrow
    have HMap := hid hmap
    have HMem := hid hmem
    have HNd := hid hnd
    clear hb2 h1 hrow hmap hmem hnd
    go_wp2_with fail
    refine (places_c m.code _ _ gw gm (insOf m.code ms) m.code.length w2 HRow.out HMap.out (HNd.out.filter _) insOf_lt hl2).mono ?_
    rintro e w3 ⟨v3, rfl, hown, hb3⟩
    have HB3 := hid (HB2.out.trans (hb3.mono HB2.out.size))
    rw [trues_reach (gw_gm HMem.out), ← HO.out] at hown
    have HOw := hid (own_mono hown HB2.out.size)
    obtain ⟨s3, c3, rfl⟩ := own_slice hown
    clear hown hb3
    go_wp2_with fail
    go_ret
    exact ⟨_, rfl, HOw.out, HB3.out⟩
set_option maxRecDepth 100000 in
set_option maxHeartbeats 2000000 in
theorem sFollow_c (m : Img) (vc vd vn : Value) (w : World) (h : ICells w vc vd vn m) (hs : Sm m) :
    Calls Tryz.prog 14 #[imgVal vc vd vn m] w (WaysPost2 (followP m) w) := by
  obtain ⟨ac, cc, rfl⟩ := rd_slice h.c
  obtain ⟨ad, cd, rfl⟩ := rd_slice h.d
  obtain ⟨an, cn, rfl⟩ := nrd_slice h.n
  have HI := hid h
  have HS := hid hs
  clear h hs
  obtain ⟨o, ho⟩ : ∃ o, followP m = o := ⟨_, rfl⟩
  have HQ := hid ho
  rw [ho]
  clear ho
  have hV : imgVal (.slice ac m.code.length cc) (.slice ad m.data.length cd) (.slice an m.names.length cn) m = .agg #[.slice ac m.code.length cc, .int .i64 m.entry, .int .i64 m.room, .slice ad m.data.length cd, .slice an m.names.length cn] := rfl
  have HV := hid hV
  rw [hV]
  clear hV
  have HB1 := hid ((Below.refl w.heap.size w).alloc (Nat.le_refl _) (.cells #[.slice ac m.code.length cc, .int .i64 m.entry, .int .i64 m.room, .slice ad m.data.length cd, .slice an m.names.length cn] 30))
  have HX1 := hid (Row.new w 30 #[.slice ac m.code.length cc, .int .i64 m.entry, .int .i64 m.room, .slice ad m.data.length cd, .slice an m.names.length cn])
  have hw01 : w.heap.size < (w.alloc (.cells #[.slice ac m.code.length cc, .int .i64 m.entry, .int .i64 m.room, .slice ad m.data.length cd, .slice an m.names.length cn] 30)).heap.size := by simp
  go_enter Tryz.func14, Tryz.ntmps14
  go_wp2_with fail
  generalize w.alloc (.cells #[.slice ac m.code.length cc, .int .i64 m.entry, .int .i64 m.room, .slice ad m.data.length cd, .slice an m.names.length cn] 30) = w1 at HB1 HX1 hw01 ⊢
  rw [← HV.out]
  refine (validImage_c m _ _ _ w1 (HI.out.on HB1.out) HS.out).mono ?_
  rintro e w2 ⟨rfl, hb2⟩
  have HB2 := hid (HB1.out.trans (hb2.mono HB1.out.size))
  have HX2 := hid (HX1.out.on hb2)
  have hz2 := hb2.size
  clear hb2
  cases h1 : imageOk m
  · obtain rfl : o = [] := by rw [← HQ.out, followP, h1]; rfl
    clear h1
    go_wp2_with fail
    go_ret
    exact ⟨_, rfl, World.ownsRow_nil _ _ _ _, HB2.out⟩
  · have HO := hid (show o = reachL m.code [m.entry] true by rw [← HQ.out, followP, h1]; rfl)
    have HBd := hid (imageOk_bd h1)
    have hl2 := HBd.out.c1
    have he0 := HBd.out.e0
    have he1 := HBd.out.e1
    have x0 := HX2.out.cell 0
    have x1 := HX2.out.cell 1
    simp at x0 x1
    have hw02 : w.heap.size < w2.heap.size := by omega
    have HB3 := hid (HB2.out.alloc HB2.out.size (.cells #[.int .i64 m.entry] 3))
    have HRs := hid (Rd.of_own (own_lit w2 [m.entry] #[.int .i64 m.entry] rfl (by simp) 1 rfl))
    clear h1
    go_wp2_with fail
    refine (walk_c m.code [m.entry] true ac _ cc _ _ (HI.out.on HB3.out).c HRs.out HBd.out.cb hl2 (by omega) (fun q hq => by obtain rfl : q = m.entry := (by simpa using hq); omega) (by simp)).mono ?_
    rintro e w3 ⟨v, ms, rfl, hown, hms, hb3⟩
    have HB4 := hid (HB3.out.trans (hb3.mono HB3.out.size))
    rw [trues_reach hms, ← HO.out] at hown
    have HOw := hid (own_mono hown HB3.out.size)
    obtain ⟨s, c, rfl⟩ := own_slice hown
    clear hown hms hb3
    go_wp2_with fail
    go_ret
    exact ⟨_, rfl, HOw.out, HB4.out⟩
end Go.Proofs.YtihhpgklpichgaaGreat.Wk
