/- walkOf and Sound of the program. -/
import Derived.Test.YtihhpgklpichgaaGreatWy4
import Derived.Test.YtihhpgklpichgaaGreatIm1
set_option linter.unusedSimpArgs false
set_option linter.unusedVariables false
namespace Go.Proofs.YtihhpgklpichgaaGreat.Wk
open Go.RowKit Pl Ft Mm In C2 Im Sw

noncomputable def pdec (P : Prop) : Bool := @decide P (Classical.propDecidable P)
theorem pdec_yes {P : Prop} (h : P) : pdec P = true := by
  unfold pdec
  exact @decide_eq_true _ (Classical.propDecidable _) h
theorem pdec_no {P : Prop} (h : ¬ P) : pdec P = false := by
  unfold pdec
  exact @decide_eq_false _ (Classical.propDecidable _) h
theorem pdec_iff {P Q : Prop} (h : P ↔ Q) : pdec P = pdec Q := by
  have e : P = Q := propext h
  subst e
  rfl
noncomputable def lostG (code : List Int) (G : Nat → List Int) (S : List Int) : Bool := pdec (∃ p, Rc G S p ∧ badAt code p = true)
theorem lostIn_eq {code : List Int} {G : Nat → List Int} {S : List Int} {ms : List Nat} (h : ∀ p, p ∈ ms ↔ Rc G S p) : lostIn code ms = lostG code G S := by
  unfold lostG lostIn
  cases hx : ms.any (badAt code) with
  | true =>
    obtain ⟨p, hp, hb⟩ := List.any_eq_true.1 hx
    exact (pdec_yes ⟨p, (h p).1 hp, hb⟩).symm
  | false =>
    refine (pdec_no ?_).symm
    rintro ⟨p, hp, hb⟩
    have := List.any_eq_false.1 hx p ((h p).2 hp)
    exact this hb
/-- What walkOf answers for an image. -/
def WofPost (m : Img) (vc : Value) (w : World) (e : Ending) (w' : World) : Prop :=
  ∃ (gw gm : Nat) (ms : List Nat), e = .returned (.tuple #[.pointer (some ⟨gw, 0, none⟩), .bool true]) ∧ Row w' gw 88 #[vc, .map (some gm), .bool (lostIn m.code ms)] ∧ MapAt w' gm m.code (insOf m.code ms) ∧ (∀ p, p ∈ ms ↔ Rc (Gw m.code) [m.entry] p) ∧ ms.Nodup ∧ Below w.heap.size w w' ∧ w.heap.size ≤ gw ∧ w.heap.size ≤ gm
set_option maxRecDepth 100000 in
set_option maxHeartbeats 2000000 in
theorem walkOf_no (m : Img) (vc vd vn : Value) (w : World) (h : ICells w vc vd vn m) (hs : Sm m) (h1 : imageOk m = false) :
    Calls Tryz.prog 49 #[imgVal vc vd vn m] w fun e w' => e = .returned (.tuple #[.pointer none, .bool false]) ∧ Below w.heap.size w w' := by
  obtain ⟨ac, cc, rfl⟩ := rd_slice h.c
  obtain ⟨ad, cd, rfl⟩ := rd_slice h.d
  obtain ⟨an, cn, rfl⟩ := nrd_slice h.n
  have HI := hid h
  have HS := hid hs
  have H1 := hid h1
  clear h hs h1
  have hV : imgVal (.slice ac m.code.length cc) (.slice ad m.data.length cd) (.slice an m.names.length cn) m = .agg #[.slice ac m.code.length cc, .int .i64 m.entry, .int .i64 m.room, .slice ad m.data.length cd, .slice an m.names.length cn] := rfl
  have HV := hid hV
  rw [hV]
  clear hV
  have HB1 := hid ((Below.refl w.heap.size w).alloc (Nat.le_refl _) (.cells #[.slice ac m.code.length cc, .int .i64 m.entry, .int .i64 m.room, .slice ad m.data.length cd, .slice an m.names.length cn] 30))
  go_enter Tryz.func49, Tryz.ntmps49
  go_wp2_with fail
  generalize w.alloc (.cells #[.slice ac m.code.length cc, .int .i64 m.entry, .int .i64 m.room, .slice ad m.data.length cd, .slice an m.names.length cn] 30) = w1 at HB1 ⊢
  rw [← HV.out]
  refine (imageOk_c m _ _ _ w1 (HI.out.on HB1.out) HS.out).mono ?_
  rintro e w2 ⟨rfl, hb2⟩
  have HB2 := hid (HB1.out.trans (hb2.mono HB1.out.size))
  clear hb2
  rw [H1.out, HV.out]
  go_wp2_with fail
  go_ret2
  exact ⟨rfl, HB2.out⟩
set_option maxRecDepth 100000 in
set_option maxHeartbeats 600000 in
theorem walkOf_yes (m : Img) (vc vd vn : Value) (w : World) (h : ICells w vc vd vn m) (hs : Sm m) (hcc : ∀ a n c, vc = .slice a n c → n ≤ c) (h1 : imageOk m = true) :
    Calls Tryz.prog 49 #[imgVal vc vd vn m] w (WofPost m vc w) := by
  obtain ⟨ac, cc, rfl⟩ := rd_slice h.c
  obtain ⟨ad, cd, rfl⟩ := rd_slice h.d
  obtain ⟨an, cn, rfl⟩ := nrd_slice h.n
  have HI := hid h
  have HS := hid hs
  have HCap := hid hcc
  have H1 := hid h1
  have HBd := hid (imageOk_bd h1)
  clear h hs hcc h1
  have hl2 := HBd.out.c1
  have he0 := HBd.out.e0
  have he1 := HBd.out.e1
  obtain ⟨e, he⟩ := Int.eq_ofNat_of_zero_le he0
  have HE := hid (show m.entry.toNat = e by omega)
  have HEe := hid he
  have HE1 := hid (show e ≤ 2000 by omega)
  clear he he0 he1
  have hV : imgVal (.slice ac m.code.length cc) (.slice ad m.data.length cd) (.slice an m.names.length cn) m = .agg #[.slice ac m.code.length cc, .int .i64 m.entry, .int .i64 m.room, .slice ad m.data.length cd, .slice an m.names.length cn] := rfl
  have HV := hid hV
  rw [hV]
  clear hV
  have HX1 := hid (Row.new w 30 #[.slice ac m.code.length cc, .int .i64 m.entry, .int .i64 m.room, .slice ad m.data.length cd, .slice an m.names.length cn])
  have HB1 := hid ((Below.refl w.heap.size w).alloc (Nat.le_refl _) (.cells #[.slice ac m.code.length cc, .int .i64 m.entry, .int .i64 m.room, .slice ad m.data.length cd, .slice an m.names.length cn] 30))
  go_enter Tryz.func49, Tryz.ntmps49
  go_wp2_with fail
  generalize w.alloc (.cells #[.slice ac m.code.length cc, .int .i64 m.entry, .int .i64 m.room, .slice ad m.data.length cd, .slice an m.names.length cn] 30) = w1 at HX1 HB1 ⊢
  rw [← HV.out]
  refine (imageOk_c m _ _ _ w1 (HI.out.on HB1.out) HS.out).mono ?_
  rintro en w2 ⟨rfl, hb2⟩
  have HX2 := hid (HX1.out.on hb2)
  have HB2 := hid (HB1.out.trans (hb2.mono HB1.out.size))
  clear hb2
  rw [H1.out, HV.out]
  have x0 := HX2.out.cell 0
  simp at x0
  have x1 := HX2.out.cell 1
  simp at x1
  have hmm := @run_makeMap Tryz.prog
  go_upto_region 4 with fail
  clear hmm x0 x1
  have hmp := (mapAt_new w2 m.code).alloc (.cells #[.slice ac m.code.length cc, .map (some w2.heap.size), .bool false] 88)
  have hrw := Row.new (w2.alloc (.map #[] 0)) 88 #[.slice ac m.code.length cc, .map (some w2.heap.size), .bool false]
  have hbw := ((Below.refl w2.heap.size w2).alloc (Nat.le_refl _) (.map #[] 0)).alloc (by simp) (.cells #[.slice ac m.code.length cc, .map (some w2.heap.size), .bool false] 88)
  rw [World.size_alloc] at hrw
  obtain ⟨gm, hgm⟩ : ∃ g, w2.heap.size = g := ⟨_, rfl⟩
  obtain ⟨gw, hgw⟩ : ∃ g, w2.heap.size + 1 = g := ⟨_, rfl⟩
  rw [hgw] at hrw
  try rw [hgw]
  have HG := hid (show w2.heap.size ≤ gm ∧ w2.heap.size ≤ gw by omega)
  generalize (w2.alloc (.map #[] 0)).alloc (.cells #[.slice ac m.code.length cc, .map (some w2.heap.size), .bool false] 88) = w3 at hmp hrw hbw ⊢
  rw [hgm] at hrw hmp
  try rw [hgm]
  have HM3 := hid hmp
  have HW3 := hid hrw
  have HB23 := hid hbw
  have HX3 := hid (HX2.out.on hbw)
  clear hmp hrw hbw hgm hgw
  have x1 := HX3.out.cell 1
  simp at x1
  go_wp2_with fail
  rw [HEe.out]
  have hz3 := HB23.out.size
  have HL := hid (own_lit w3 [(e : Int)] #[.int .i64 e] rfl (by simp) 1 rfl)
  have HB4 := hid (HB23.out.alloc HB23.out.size (.cells #[.int .i64 e] 3))
  have hbd := HBd.out.cb
  have hgb := gbd_lt (gw_bd hbd hl2 HE1.out)
  have hw3 := HW3.out.lt
  have hm3 := HM3.out.lt
  refine (reached_f [e] _ _ (meet_leads m.code _ gw gm w3.heap.size [e] w2 (HI.out.on HB2.out).c HCap.out HG.out.2 HG.out.1 hw3 hm3 hbd hl2) hgb.1 (by omega) (by have := HE1.out; simp; omega) (by simp) (Rd.of_own HL.out) (fun k hk => ?_) ⟨rfl, by simp, HW3.out.alloc _, HM3.out.alloc _, HB4.out⟩).mono ?_
  · have := HL.out.lt k hk
    exact ⟨this.2, fun h => by have := this.1; omega⟩
  rintro en w4 ⟨ms, lf, v4, T, rfl, hd, hown4, ⟨_, _, hrow, hmap, hbel⟩, _⟩
  have hmem := dfs_rc (gw_bd hbd hl2 HE1.out) (S := [(e : Int)]) hd
  have hnd := hd.nodup List.nodup_nil
  obtain ⟨s4, c4, rfl⟩ := own_slice hown4
  clear hd hown4 hgb hw3 hm3
  have HRow := hid hrow
  have HMap := hid hmap
  have HMem := hid hmem
  have HNd := hid hnd
  have HB5 := hid (HB2.out.trans (hbel.mono HB2.out.size))
  clear hrow hmap hmem hnd hbel x1
  go_wp2_with fail
  go_ret2
  exact ⟨gw, gm, ms, rfl, HRow.out, HMap.out, by rw [HEe.out]; exact HMem.out, HNd.out, HB5.out, by have := HB2.out.size; have := HG.out; omega, by have := HB2.out.size; have := HG.out; omega⟩
end Go.Proofs.YtihhpgklpichgaaGreat.Wk
namespace Go.Proofs.YtihhpgklpichgaaGreat.Wk
open Go.RowKit Pl Ft Mm In C2 Im Sw

noncomputable def soundP (m : Img) : Bool := imageOk m && !(lostG m.code (Gw m.code) [m.entry])
end Go.Proofs.YtihhpgklpichgaaGreat.Wk
