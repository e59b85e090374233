/- The functions of an image: funsIn, FunsOf and calledIn of the program and of the model. -/
import Derived.Test.YtihhpgklpichgaaGreatPl
import Derived.Test.YtihhpgklpichgaaGreatFo
set_option linter.unusedSimpArgs false
set_option linter.unusedVariables false
namespace Go.Proofs.YtihhpgklpichgaaGreat.Wk
open Go.RowKit Pl Ft Mm In C2 Im Sw

/-- What reachL tells besides the Entry. -/
noncomputable def othersL (m : Img) : List Int := (calledL m.code (reachL m.code [m.entry] true)).filter fun x => !decide (x = m.entry)
noncomputable def funsL (m : Img) : List Int := m.entry :: othersL m
theorem othersL_len (m : Img) : (othersL m).length ≤ m.code.length := Nat.le_trans (List.length_filter_le _ _) (calledL_len _ _)
theorem isEntry_c (e : Int) (vc vd vn : Value) (room : Int) (g : Nat) (x : Int) (w : World) (h : Row w g 30 #[vc, .int .i64 e, .int .i64 room, vd, vn]) :
    Calls Tryz.prog 96 #[.int .i64 x, .pointer (some ⟨g, 0, none⟩)] w fun en w' => en = .returned (.bool (decide (x = e))) ∧ w' = w := by
  have x1 := h.cell 1
  simp at x1
  have hb : (x == e) = decide (x = e) := by by_cases hx : x = e <;> simp [hx]
  have HB := hid hb
  clear h hb
  go_enter Tryz.func96, Tryz.ntmps96
  go_wp2_with fail
  go_ret
  first
    | exact ⟨rfl, rfl⟩
    | exact ⟨congrArg (fun b => Ending.returned (.bool b)) HB.out, rfl⟩
theorem res_cell_tmp {fn : Func} {p r : Tmp} {t : TypeId} (h : fn.results = #[.cell p t, .tmp r]) (tmps : Array Value) (w : World) (g : Nat) (cs : Array Value) (fs : Array Field)
    (hp : tmps.getD p undef = .pointer (some ⟨g, 0, none⟩)) (h1 : Row w g t cs) (hu : Tryz.prog.underlying t = some (.struct fs)) (hi : (Tryz.prog.info? t).map (·.size) = some cs.size) :
    (results fn tmps).run Tryz.prog w = .ok (.tuple #[.agg cs, tmps.getD r undef]) w := by
  have hp' : tmps[p]?.getD undef = .pointer (some ⟨g, 0, none⟩) := by simpa using hp
  simp [results, h, hp', asAddr, run_loadVar_row w g t t cs (0, 0) _ h1 hu rfl hi]
theorem size_funs : (Tryz.prog.info? 59).map (·.size) = some 2 := by kernel_rfl
/-- What funsIn answers for an image. -/
def FinPost (m : Img) (vc : Value) (w : World) (e : Ending) (w' : World) : Prop :=
  ∃ (gw gm : Nat) (ms : List Nat) (vl : Value), e = .returned (.tuple #[.agg #[.pointer (some ⟨gw, 0, none⟩), vl], .bool true]) ∧ Row w' gw 88 #[vc, .map (some gm), .bool (lostIn m.code ms)] ∧ MapAt w' gm m.code (insOf m.code ms) ∧ (∀ p, p ∈ ms ↔ Rc (Gw m.code) [m.entry] p) ∧ ms.Nodup ∧
    w'.ownsRow w.heap.size 3 1 vl (funsL m).length (ints (funsL m)) ∧ Below w.heap.size w w' ∧ w.heap.size ≤ gw ∧ w.heap.size ≤ gm
set_option maxRecDepth 100000 in
set_option maxHeartbeats 2000000 in
theorem funsIn_no (m : Img) (vc vd vn : Value) (w : World) (h : ICells w vc vd vn m) (hs : Sm m) (h1 : imageOk m = false) :
    Calls Tryz.prog 54 #[imgVal vc vd vn m] w fun e w' => e = .returned (.tuple #[.agg #[.pointer none, .slice none 0 0], .bool false]) ∧ Below w.heap.size w w' := by
  obtain ⟨ac, cc, rfl⟩ := rd_slice h.c
  obtain ⟨ad, cd, rfl⟩ := rd_slice h.d
  obtain ⟨an, cn, rfl⟩ := nrd_slice h.n
  have HI := hid h
  have HS := hid hs
  have H1 := hid h1
  clear h hs h1
  have hV : imgVal (.slice ac m.code.length cc) (.slice ad m.data.length cd) (.slice an m.names.length cn) m = .agg #[.slice ac m.code.length cc, .int .i64 m.entry, .int .i64 m.room, .slice ad m.data.length cd, .slice an m.names.length cn] := rfl
  have HV := hid hV
  rw [hV]
  clear hV
  obtain ⟨w0, hw0, hr0, hb0, hz0⟩ := new_ex w 30 #[.slice ac m.code.length cc, .int .i64 m.entry, .int .i64 m.room, .slice ad m.data.length cd, .slice an m.names.length cn]
  obtain ⟨w1, hw1, hr1, hb1, hz1⟩ := new_ex w0 59 #[.pointer none, .slice none 0 0]
  have HB1 := hid (hb0.trans (hb1.mono (Nat.le_of_lt hz0)))
  have HX1 := hid (hr0.on hb1)
  have HR1 := hid hr1
  have x0 := HX1.out.cell 0
  have x1 := HX1.out.cell 1
  have x2 := HX1.out.cell 2
  have x3 := HX1.out.cell 3
  have x4 := HX1.out.cell 4
  simp at x0 x1 x2 x3 x4
  clear hr0 hb0 hr1 hb1
  go_enter Tryz.func54, Tryz.ntmps54
  go_wp2_with fail
  clear hw0 hw1 x0 x1 x2 x3 x4
  rw [← HV.out]
  refine (walkOf_no m _ _ _ w1 (HI.out.on HB1.out) HS.out H1.out).mono ?_
  rintro e w2 ⟨rfl, hb2⟩
  have HB2 := hid (HB1.out.trans (hb2.mono HB1.out.size))
  have HR2 := hid (HR1.out.on hb2)
  clear hb2
  have z0 := HR2.out.cell 0
  have z1 := HR2.out.cell 1
  have hf := HR2.out.free
  simp at z0 z1
  go_wp2_with fail
  clear z0 z1 hf
  refine bodyPost_ret (v := .tuple #[.agg #[.pointer none, .slice none 0 0], .bool false]) ?_ rfl ?_
  · exact res_cell_tmp Tryz.results54 _ _ w0.heap.size #[.pointer none, .slice none 0 0] _ rfl ((HR2.out.set 0 (.pointer none)).set 1 (.slice none 0 0)) Tryz.underlying59 size_funs
  exact ⟨rfl, (HB2.out.setCell (p := ⟨w0.heap.size, 0, none⟩) (by simp only; omega) _).setCell (p := ⟨w0.heap.size, 1, none⟩) (by simp only; omega) _⟩
set_option maxRecDepth 100000 in
set_option maxHeartbeats 4000000 in
theorem funsIn_yes (m : Img) (vc vd vn : Value) (w : World) (h : ICells w vc vd vn m) (hs : Sm m) (hcc : ∀ a n c, vc = .slice a n c → n ≤ c) (h1 : imageOk m = true) :
    Calls Tryz.prog 54 #[imgVal vc vd vn m] w (FinPost m vc w) := by
  obtain ⟨ac, cc, rfl⟩ := rd_slice h.c
  obtain ⟨ad, cd, rfl⟩ := rd_slice h.d
  obtain ⟨an, cn, rfl⟩ := nrd_slice h.n
  have HI := hid h
  have HS := hid hs
  have HCap := hid hcc
  have H1 := hid h1
  have HBd := hid (imageOk_bd h1)
  have hl2 := HBd.out.c1
  clear h hs hcc h1
  have hV : imgVal (.slice ac m.code.length cc) (.slice ad m.data.length cd) (.slice an m.names.length cn) m = .agg #[.slice ac m.code.length cc, .int .i64 m.entry, .int .i64 m.room, .slice ad m.data.length cd, .slice an m.names.length cn] := rfl
  have HV := hid hV
  rw [hV]
  clear hV
  obtain ⟨w0, hw0, hr0, hb0, hz0⟩ := new_ex w 30 #[.slice ac m.code.length cc, .int .i64 m.entry, .int .i64 m.room, .slice ad m.data.length cd, .slice an m.names.length cn]
  obtain ⟨w1, hw1, hr1, hb1, hz1⟩ := new_ex w0 59 #[.pointer none, .slice none 0 0]
  have HB1 := hid (hb0.trans (hb1.mono (Nat.le_of_lt hz0)))
  have HX1 := hid (hr0.on hb1)
  have HR1 := hid hr1
  have x0 := HX1.out.cell 0
  have x1 := HX1.out.cell 1
  have x2 := HX1.out.cell 2
  have x3 := HX1.out.cell 3
  have x4 := HX1.out.cell 4
  simp at x0 x1 x2 x3 x4
  clear hr0 hb0 hr1 hb1
  go_enter Tryz.func54, Tryz.ntmps54
  go_wp2_with fail
  clear hw0 hw1 x0 x1 x2 x3 x4
  obtain ⟨g0, hg0⟩ : ∃ g, w.heap.size = g := ⟨_, rfl⟩
  obtain ⟨g1, hg1⟩ : ∃ g, w0.heap.size = g := ⟨_, rfl⟩
  have HG := hid (show g0 = w.heap.size ∧ w.heap.size < g1 ∧ g1 < w1.heap.size by omega)
  rw [hg0] at HX1
  rw [hg1] at HR1
  try rw [hg0]
  try rw [hg1]
  clear hg0 hg1 hz0 hz1
  rw [← HV.out]
  refine (walkOf_yes m _ _ _ w1 (HI.out.on HB1.out) HS.out HCap.out H1.out).mono ?_
  rintro e w2 ⟨gw, gm, ms, rfl, hrow, hmap, hmem, hnd, hb2, hgw, hgm⟩
  have HB2 := hid (HB1.out.trans (hb2.mono HB1.out.size))
  have HX2 := hid (HX1.out.on hb2)
  have HR2 := hid (HR1.out.on hb2)
  have HRow := hid hrow
  have HMap := hid hmap
  have HMem := hid hmem
  have HNd := hid hnd
  have HGw := hid (show w.heap.size ≤ gw ∧ w.heap.size ≤ gm by have := HB1.out.size; omega)
  have hz2 := HB2.out.size
  clear hb2 hrow hmap hmem hnd hgw hgm
  go_wp2_with fail
  refine (places_c m.code _ _ gw gm (insOf m.code ms) m.code.length w2 HRow.out HMap.out (HNd.out.filter _) insOf_lt hl2).mono ?_
  rintro e w3 ⟨v3, rfl, hown3, hb3⟩
  rw [trues_reach (gw_gm HMem.out)] at hown3
  obtain ⟨pl, hpl⟩ : ∃ pl, reachL m.code [m.entry] true = pl := ⟨_, rfl⟩
  have hpb : ∀ x ∈ pl, ∃ p : Nat, x = p ∧ p ∈ insOf m.code ms := by
    rw [← hpl, ← trues_reach (gw_gm HMem.out)]
    intro x hx
    obtain ⟨q, hq, rfl⟩ := List.mem_map.1 hx
    exact ⟨q, rfl, of_decide_eq_true (List.mem_filter.1 hq).2⟩
  have hpll : pl.length ≤ m.code.length := by rw [← hpl]; exact reachL_len _ _ _
  rw [hpl] at hown3
  have HPl := hid hpl
  have HPb := hid hpb
  have HO3 := hid hown3
  have HB3 := hid (HB2.out.trans (hb3.mono hz2))
  have HX3 := hid (HX2.out.on hb3)
  have HR3 := hid (HR2.out.on hb3)
  have HRow3 := hid (HRow.out.on hb3)
  have HMap3 := hid (HMap.out.on hb3)
  have hz3 := HB3.out.size
  obtain ⟨s3, c3, rfl⟩ := own_slice hown3
  clear hown3 hb3 hpl hpb
  go_wp2_with fail
  refine (calledAt_c m.code ac cc _ gw gm (insOf m.code ms) pl _ w3 HRow3.out HMap3.out (.of_own HO3.out) HPb.out (fun p hp => (mem_insOf.1 hp).2) (by omega)).mono ?_
  rintro e w4 ⟨v4, rfl, hown4, hb4⟩
  have HO4 := hid hown4
  have HB4 := hid (HB3.out.trans (hb4.mono hz3))
  have HX4 := hid (HX3.out.on hb4)
  have HR4 := hid (HR3.out.on hb4)
  have HRow4 := hid (HRow3.out.on hb4)
  have HMap4 := hid (HMap3.out.on hb4)
  have hz4 := HB4.out.size
  have hcl := calledL_len m.code pl
  obtain ⟨ol, hol⟩ : ∃ ol, calledL m.code pl = ol := ⟨_, rfl⟩
  rw [hol] at HO4 hcl
  have HOl := hid hol
  have h34 := hb4.size
  obtain ⟨s4, c4, rfl⟩ := own_slice HO4.out
  clear hown4 hb4 hol
  go_wp2_with fail
  refine (del_c w3.heap.size ol (fun x => decide (x = m.entry)) _ #[.pointer (some ⟨g0, 0, none⟩)] _ w4 HO4.out (by omega) (enters_of Tryz.func96 (by kernel_rfl) rfl) (fun W x hb => isEntry_c m.entry _ _ _ m.room g0 x W (HX4.out.below hb (by have := HX3.out.lt; omega)))).mono ?_
  rintro e w5 ⟨v5, rfl, hown5, ho5⟩
  obtain ⟨fl, hfl⟩ : ∃ fl, (ol.filter fun x => !decide (x = m.entry)) = fl := ⟨_, rfl⟩
  have hfll : fl.length ≤ m.code.length := by rw [← hfl]; exact Nat.le_trans (List.length_filter_le _ _) hcl
  rw [hfl] at hown5
  have HFl := hid (show othersL m = fl by unfold othersL; rw [HPl.out, HOl.out]; exact hfl)
  have HO5 := hid hown5
  have HFar := hid (fun k (hk : (Value.slice s4 ol.length c4).ownBlock = some k) => show w3.heap.size ≤ k from (HO4.out.lt k hk).1)
  have HB5 := hid (HB4.out.trans (ho5.below hz4 (fun k hk => by have := HFar.out k hk; omega)))
  have hb45 := ho5.below (B := w3.heap.size) h34 HFar.out
  have HX5 := hid (HX4.out.below hb45 HX3.out.lt)
  have HR5 := hid (HR4.out.below hb45 HR3.out.lt)
  have HRow5 := hid (HRow4.out.below hb45 HRow3.out.lt)
  have HMap5 := hid (show MapAt w5 gm m.code (insOf m.code ms) from (hb45.block gm HMap3.out.lt).trans HMap4.out)
  have hz5 := HB5.out.size
  obtain ⟨s5, c5, rfl⟩ := own_slice hown5
  have HSrc := hid (SrcAt.of_rd (Rd.of_own hown5))
  clear hown5 ho5 hfl hb45
  have x1 := HX5.out.cell 1
  simp at x1
  have HL := hid (own_lit w5 [m.entry] #[.int .i64 m.entry] rfl (by simp) 1 rfl)
  have HB6 := hid ((Below.refl w5.heap.size w5).alloc (Nat.le_refl _) (.cells #[.int .i64 m.entry] 3))
  have HS6 := hid (HSrc.out.on (fun p hp => HB6.out.cell hp))
  have hz6 : (w5.alloc (.cells #[.int .i64 m.entry] 3)).heap.size = w5.heap.size + 1 := by simp
  have HR6 := hid (HR5.out.on HB6.out)
  have HRow6 := hid (HRow5.out.on HB6.out)
  have HMap6 := hid (HMap5.out.on HB6.out)
  have hlt6 := HR5.out.lt
  have hlt7 := HRow5.out.lt
  have hlt8 := HMap5.out.lt
  go_wp2_with (at_builtin; refine app_ints _ rfl _ _ rfl w5.heap.size [m.entry] fl _ rfl HL.out _ _ _ rfl rfl HS6.out (by simp; omega) (by omega) ?_)
  intro v7 w7 hg7
  have HO7 := hid hg7.own
  have HB7 := hid ((HB6.out.trans hg7.bel))
  have HR7 := hid (HR5.out.below HB7.out hlt6)
  have HRow7 := hid (HRow5.out.below HB7.out hlt7)
  have HMap7 := hid (show MapAt w7 gm m.code (insOf m.code ms) from (HB7.out.block gm hlt8).trans HMap5.out)
  have HB8 := hid (HB5.out.trans (HB7.out.mono hz5))
  obtain ⟨fs, hfs⟩ : ∃ fs, m.entry :: fl = fs := ⟨_, rfl⟩
  have hown7 := HO7.out
  rw [hfs] at hown7
  have HFs := hid (show funsL m = fs by unfold funsL; rw [HFl.out]; exact hfs)
  have HO8 := hid (own_mono hown7 hz5)
  obtain ⟨s7, c7, rfl⟩ := own_slice hown7
  clear hg7 hown7 hfs
  have z0 := HR7.out.cell 0
  have z1 := HR7.out.cell 1
  have hf := HR7.out.free
  simp at z0 z1
  go_wp2_with fail
  clear z0 z1 hf x1
  refine bodyPost_ret (v := .tuple #[.agg #[.pointer (some ⟨gw, 0, none⟩), .slice s7 fs.length c7], .bool true]) ?_ rfl ?_
  · exact res_cell_tmp Tryz.results54 _ _ g1 #[.pointer (some ⟨gw, 0, none⟩), .slice s7 fs.length c7] _ rfl ((HR7.out.set 0 (.pointer (some ⟨gw, 0, none⟩))).set 1 (.slice s7 fs.length c7)) Tryz.underlying59 size_funs
  have hg1 := HG.out
  have hne : gw ≠ g1 := fun h => by
    have h1 := HRow7.out
    rw [h] at h1
    have := h1.symm.trans HR7.out
    simp at this
  have hnm : gm ≠ g1 := fun h => by
    have h1 := HMap7.out
    unfold MapAt at h1
    rw [h] at h1
    have := h1.symm.trans HR7.out
    simp at this
  have hno : ∀ b, (Value.slice s7 fs.length c7).ownBlock = some b → b ≠ g1 := fun b hb h => no_own HR7.out HO8.out (by decide) (h ▸ hb)
  refine ⟨gw, gm, ms, _, rfl, (HRow7.out.far hne _).far hne _, (HMap7.out.set (by simpa using hnm) _).set (by simpa using hnm) _, HMem.out, HNd.out, ?_, (HB8.out.setCell (p := ⟨g1, 0, none⟩) (by simp only; omega) _).setCell (p := ⟨g1, 1, none⟩) (by simp only; omega) _, HGw.out.1, HGw.out.2⟩
  rw [HFs.out]
  exact own_far (own_far (own_mono HO8.out (by omega)) (p := ⟨g1, 0, none⟩) hno _) (p := ⟨g1, 1, none⟩) hno _
end Go.Proofs.YtihhpgklpichgaaGreat.Wk
namespace Go.Proofs.YtihhpgklpichgaaGreat.Wk
open Go.RowKit Pl Ft Mm In C2 Im Sw

theorem reachL_mem {code S : List Int} {calls : Bool} {x : Int} (h : x ∈ reachL code S calls) : ∃ p : Nat, x = p ∧ p < code.length ∧ Rc (Gm code calls) S p ∧ (readP code p).isSome = true := by
  obtain ⟨q, hq, rfl⟩ := List.mem_map.1 h
  have h1 := List.mem_filter.1 hq
  have h2 : pdec (Rc (Gm code calls) S q ∧ (readP code q).isSome = true) = true := h1.2
  by_cases hP : Rc (Gm code calls) S q ∧ (readP code q).isSome = true
  · exact ⟨q, rfl, List.mem_range.1 h1.1, hP⟩
  · rw [pdec_no hP] at h2; cases h2
theorem callAt_eq {code : List Int} {p : Nat} {i : IIns} (hi : readP code p = some i) : callAt code (p : Int) = if i.op = 29 ∧ i.n < code.length then some i.n else none := by
  unfold callAt
  rw [Int.toNat_natCast, hi]
/-- One call more is marked. -/
theorem mark_more {xs : List Int} {n : Nat} (e : Option Int) : (fun q : Nat => (decide ((q : Int) ∈ xs) && !decide (some (q : Int) = e)) || (q == n)) = (fun q : Nat => if some (n : Int) = e then ((decide ((q : Int) ∈ xs) && !decide (some (q : Int) = e)) || (q == n)) else decide ((q : Int) ∈ xs ++ [(n : Int)]) && !decide (some (q : Int) = e)) := by
  funext q
  by_cases he : some (n : Int) = e
  · rw [if_pos he]
  · rw [if_neg he]
    by_cases h1 : q = n
    · subst h1
      simp [he]
    · have h2 : ¬ (q : Int) = n := by omega
      simp [h1, h2]
structure CsRel (code l : List Int) (e : Option Int) (gb : Nat) (w : World) (k : Nat) (lv : Value) (wr : World) : Prop where
  own : wr.ownsRow w.heap.size 3 1 lv l.length (ints l)
  bat : BAt wr gb code.length (fun q => decide ((q : Int) ∈ callsL code (l.take k)) && !decide (some (q : Int) = e))
  bel : Below w.heap.size w wr
theorem CsRel.skip {code l : List Int} {e : Option Int} {gb : Nat} {w : World} {k : Nat} {lv : Value} {wr w1 : World} (h : CsRel code l e gb w k lv wr) (hk : k < l.length) (hc : callAt code l[k] = none ∨ ∃ n, callAt code l[k] = some n ∧ some n = e) (hb : Below wr.heap.size wr w1) : CsRel code l e gb w (k + 1) lv w1 := by
  refine ⟨own_on h.own hb, ?_, h.bel.trans (hb.mono h.bel.size)⟩
  have e1 : (fun q : Nat => decide ((q : Int) ∈ callsL code (l.take (k + 1))) && !decide (some (q : Int) = e)) = fun q : Nat => decide ((q : Int) ∈ callsL code (l.take k)) && !decide (some (q : Int) = e) := by
    funext q
    rw [callsL_succ code l k hk]
    rcases hc with hc | ⟨n, hc, rfl⟩
    · rw [hc]; simp
    · rw [hc]
      by_cases h2 : (q : Int) = n <;> simp [h2]
  rw [e1]
  exact h.bat.on hb
theorem CsRel.mark {code l : List Int} {e : Option Int} {gb : Nat} {w : World} {k n : Nat} {lv : Value} {wr w1 : World} (h : CsRel code l e gb w k lv wr) (hk : k < l.length) (hc : callAt code l[k] = some (n : Int)) (hne : some (n : Int) ≠ e) (hown : w1.ownsRow w.heap.size 3 1 lv l.length (ints l)) (hb : Below w.heap.size w w1)
    (hbt : BAt w1 gb code.length (fun q => (decide ((q : Int) ∈ callsL code (l.take k)) && !decide (some (q : Int) = e)) || q == n)) : CsRel code l e gb w (k + 1) lv w1 := by
  refine ⟨hown, ?_, hb⟩
  have e1 : (fun q : Nat => decide ((q : Int) ∈ callsL code (l.take (k + 1))) && !decide (some (q : Int) = e)) = (fun q : Nat => (decide ((q : Int) ∈ callsL code (l.take k)) && !decide (some (q : Int) = e)) || q == n) := by
    funext q
    rw [callsL_succ code l k hk, hc]
    by_cases h1 : q = n
    · subst h1
      simp [hne]
    · have h2 : ¬ (q : Int) = n := by omega
      simp [h1, h2]
  rw [e1]
  exact hbt
set_option maxRecDepth 100000 in
set_option maxHeartbeats 8000000 in
theorem sCalledIn_c (code : List Int) (ac : Option Addr) (cc : Nat) (at_ : Int) (w : World) (hr : Rd w (.slice ac code.length cc) code) (hb : code.all isByte = true) (hlen : code.length ≤ 2000) (hpos : 0 < code.length) (h0 : 0 ≤ at_) (h1 : at_ ≤ 100000) :
    Calls Tryz.prog 58 #[.slice ac code.length cc, .int .i64 at_] w (WaysPost2 (calledL code (reachL code [at_] false)) w) := by
  have HRd := hid hr
  have HBy := hid hb
  obtain ⟨i0, hi, hz0, hz1, hz2⟩ := info_parts info_bool
  have H0 := hid hz0
  have H1 := hid hz1
  have H2 := hid hz2
  have HI := hid hi
  clear hz0 hz1 hz2 hi hr hb
  have HB1 := hid ((Below.refl w.heap.size w).alloc (Nat.le_refl _) (.cells #[.int .i64 at_] 3))
  have HRs := hid (Rd.of_own (own_lit w [at_] #[.int .i64 at_] rfl (by simp) 1 rfl))
  go_enter Tryz.func58, Tryz.ntmps58
  go_wp2_with fail
  refine (walk_c code [at_] false ac _ cc _ _ (HRd.out.on HB1.out) HRs.out HBy.out hlen hpos (fun q hq => by obtain rfl : q = at_ := (by simpa using hq); omega) (by simp)).mono ?_
  rintro e w2 ⟨v2, ms, rfl, hown2, hms, hb2⟩
  rw [trues_reach hms] at hown2
  obtain ⟨l, hl⟩ : ∃ l, reachL code [at_] false = l := ⟨_, rfl⟩
  have hmem : ∀ x ∈ l, ∃ p : Nat, x = p ∧ p < code.length ∧ (readP code p).isSome = true := by
    rw [← hl]
    intro x hx
    obtain ⟨p, e1, e2, _, e3⟩ := reachL_mem hx
    exact ⟨p, e1, e2, e3⟩
  have hll : l.length ≤ 2000 := by rw [← hl]; exact Nat.le_trans (reachL_len _ _ _) hlen
  rw [hl] at hown2
  have HMem := hid hmem
  have HL := hid hl
  rw [hl]
  have HO2 := hid (own_mono hown2 HB1.out.size)
  have HB2 := hid (HB1.out.trans (hb2.mono HB1.out.size))
  have hz2 := HB2.out.size
  obtain ⟨s2, c2, rfl⟩ := own_slice hown2
  clear hown2 hb2 hmem hl hms
  go_wp2_with (refine wpList_make_full _ rfl _ _ 102 rfl w2.heap.size 4 i0 (.bool false) 1 Tryz.underlying102 HI.out H0.out H1.out .i64 .i64 _ _ code.length rfl rfl rfl rfl (by rw [H2.out]; omega) (by simp only [maxLen]; omega) (Nat.le_refl _) ?_; intro w3 hown3 hg3)
  rw [made_bools] at hown3
  obtain ⟨g0, c0, he0, _, hbat⟩ := BAt.of_own (f := fun _ => false) hown3 hpos
  simp only [Value.slice.injEq, Option.some.injEq, Addr.mk.injEq, true_and, and_true] at he0
  obtain ⟨rfl, -⟩ := he0
  have hb3 := (Below.refl w2.heap.size w2).grown hg3 (Nat.le_refl _) (by simp)
  have HB3 := hid (HB2.out.trans (hb3.mono hz2))
  have HRel := hid (show CsRel code l none w2.heap.size w 0 (.slice s2 l.length c2) w3 from ⟨own_on HO2.out hb3, by simpa [callsL] using hbat, HB3.out⟩)
  obtain ⟨gb, hgb⟩ : ∃ g, w2.heap.size = g := ⟨_, rfl⟩
  rw [hgb] at HRel
  try rw [hgb]
  have HGb := hid (show w.heap.size ≤ gb by omega)
  clear hown3 hg3 hbat hb3 hgb
  go_wp2_with fail
  go_loopw [8] (fun c wr => ∃ k : Nat, c = .int .i64 k ∧ k ≤ l.length ∧ CsRel code l none gb w k (.slice s2 l.length c2) wr) (fun c _ => l.length - (intOf c).toNat)
  case atStart => exact ⟨0, rfl, by omega, HRel.out⟩
  case round =>
    obtain ⟨k, rfl, hk, hrel⟩ := hrel
    have HR := hid hrel
    have hz := hrel.bel.size
    clear hrel
    by_cases hlt : k < l.length
    case neg =>
      obtain rfl : k = l.length := by omega
      go_wp2_with fail
      refine (trues_c code.length gb _ _ _ HR.out.bat hlen).mono ?_
      rintro e w4 ⟨v4, rfl, hown4, hb4⟩
      have HB4 := hid (HR.out.bel.trans (hb4.mono hz))
      have he : truesL (fun q => decide ((q : Int) ∈ callsL code (l.take l.length)) && !decide (some (q : Int) = none)) code.length = calledL code l := by
        unfold calledL
        rw [List.take_length]
        congr 1
        funext q
        simp
      rw [he] at hown4
      obtain ⟨cl, hcl⟩ : ∃ x, calledL code l = x := ⟨_, rfl⟩
      rw [hcl] at hown4
      have HE := hid hcl
      have HO4 := hid (own_mono hown4 hz)
      obtain ⟨s4, c4, rfl⟩ := own_slice hown4
      clear hown4 hb4 he hcl
      go_wp2_with fail
      go_ret
      rw [HL.out, HE.out]
      exact ⟨_, rfl, HO4.out, HB4.out⟩
    obtain ⟨p, hp, hpl, hps⟩ := HMem.out l[k] (List.getElem_mem hlt)
    have HO := hid HR.out.own
    obtain ⟨g, cap, hsl, hg, hgl⟩ := own_addr HO.out (by omega)
    simp only [Value.slice.injEq, true_and] at hsl
    obtain ⟨rfl, rfl⟩ := hsl
    have hcell : wr.cell? ⟨g, k, none⟩ = some (.int .i64 p) := by
      have h := HO.out.cells (g := g) rfl k (.int .i64 p) (by rw [ints, List.getElem?_map, List.getElem?_eq_getElem hlt, Option.map_some, hp])
      rwa [addr_add] at h
    have hx := byte_at HBy.out p hpl
    have heq := (readP_in hpl).trans (insIn_eq code p hx.1 hx.2)
    obtain ⟨i, hi⟩ := Option.isSome_iff_exists.1 hps
    have hso : sread code p = some i := heq.symm.trans hi
    have HCa := hid (show callAt code l[k] = if i.op = 29 ∧ i.n < code.length then some i.n else none by rw [hp]; exact callAt_eq hi)
    have hln := fun h29 => lead_bd (readP_facts hi).2.1 (.inr (.inr h29))
    have HSo := hid hso
    have HApp := hid (fun b (hb : (Value.slice (some ⟨g, 0, none⟩) l.length c2).ownBlock = some b) => show b ≠ gb from fun h => by
      obtain ⟨cur, hcr, _⟩ := HR.out.bat
      exact no_own hcr HO.out (by decide) (h ▸ hb))
    clear hp hps hx heq hi hso
    go_wp2_with fail
    refine (sRead_c code _ p _ (HRd.out.on HR.out.bel) HBy.out hlen hpl).mono ?_
    rintro e w4 ⟨⟨jop, ja, jb, jn⟩, rfl, hij, hb4⟩
    rw [HSo.out]
    obtain rfl := hij i HSo.out
    unfold IIns.val
    simp only [Option.isSome_some]
    obtain ⟨w5, hw5, hr5, hb5, hz5⟩ := new_ex w4 70 #[.int .i64 jop, .int .i64 ja, .int .i64 jb, .int .i64 jn]
    have HB5 := hid (hb4.trans (hb5.mono hb4.size))
    have HX5 := hid hr5
    have hz45 := hb4.size
    have hbt5 := HR.out.bat.on HB5.out
    have HBt5 := hid hbt5
    have HO5 := hid (own_on HO.out HB5.out)
    have HBl5 := hid (HR.out.bel.trans (HB5.out.mono hz))
    have hgbl := HR.out.bat.lt
    have hfree : ∀ j, w5.frozen? ⟨gb, j, none⟩ = false := fun j => by obtain ⟨cur, hcr, _⟩ := hbt5; exact hcr.free j
    have HFr := hid hfree
    clear hij hr5 hb5 hb4 hbt5 hfree hcell
    simp only at hln HCa
    go_upto_region 7 with fail
    clear hw5
    obtain ⟨g5, hg5⟩ : ∃ g, w4.heap.size = g := ⟨_, rfl⟩
    rw [hg5] at HX5
    try rw [hg5]
    have HNe := hid (show g5 ≠ gb by omega)
    have x0 := HX5.out.cell 0
    have x3 := HX5.out.cell 3
    simp at x0 x3
    by_cases h29 : jop = 29
    · subst h29
      have hn0 := hln rfl
      by_cases hn : jn < code.length
      · have HC2 := hid (show callAt code l[k] = some jn by rw [HCa.out, if_pos ⟨rfl, hn⟩])
        obtain ⟨nn, rfl⟩ := Int.eq_ofNat_of_zero_le hn0.1
        have hbc := HBt5.out.cell (j := nn) (by omega)
        have hfz := HFr.out nn
        clear hln HCa
        go_wp2_with fail
        go_roundw
        case rel => exact ⟨k + 1, by go_num, by omega, HR.out.mark hlt HC2.out (by simp) (own_far HO5.out (p := ⟨gb, nn, none⟩) HApp.out _) (HBl5.out.setCell (p := ⟨gb, nn, none⟩) HGb.out _) (HBt5.out.set (by omega))⟩
        case measure => simp [intOf]; omega
      · have HC2 := hid (show callAt code l[k] = none by rw [HCa.out, if_neg (fun h => hn h.2)])
        clear hln HCa
        go_wp2_with fail
        go_roundw
        case rel => exact ⟨k + 1, by go_num, by omega, HR.out.skip hlt (.inl HC2.out) HB5.out⟩
        case measure => simp [intOf]; omega
    · have HC2 := hid (show callAt code l[k] = none by rw [HCa.out, if_neg (fun h => h29 h.1)])
      have hne : (jop == 29) = false := by rw [beq_eq_false_iff_ne]; exact h29
      clear hln HCa h29
      go_wp2_with fail
      go_roundw
      case rel => exact ⟨k + 1, by go_num, by omega, HR.out.skip hlt (.inl HC2.out) HB5.out⟩
      case measure => simp [intOf]; omega
end Go.Proofs.YtihhpgklpichgaaGreat.Wk
namespace Go.Proofs.YtihhpgklpichgaaGreat.Wk
open Go.RowKit Pl Ft Mm In C2 Im Sw

theorem trues_filter (f : Nat → Bool) (e : Int) (n : Nat) : (truesL f n).filter (fun x => !decide (x = e)) = truesL (fun q => f q && !decide (some (q : Int) = some e)) n := by
  unfold truesL
  rw [List.filter_map, List.filter_filter]
  congr 1
  apply List.filter_congr
  intro q _
  simp [Bool.and_comm]
set_option maxRecDepth 100000 in
set_option maxHeartbeats 8000000 in
theorem sFuns_c (m : Img) (vc vd vn : Value) (w : World) (h : ICells w vc vd vn m) (hok : imageOk m = true) :
    Calls Tryz.prog 53 #[imgVal vc vd vn m] w (WaysPost2 (funsL m) w) := by
  obtain ⟨ac, cc, rfl⟩ := rd_slice h.c
  obtain ⟨ad, cd, rfl⟩ := rd_slice h.d
  obtain ⟨an, cn, rfl⟩ := nrd_slice h.n
  have HI := hid h
  have HBd := hid (imageOk_bd hok)
  have hl2 := HBd.out.c1
  have he0 := HBd.out.e0
  have he1 := HBd.out.e1
  obtain ⟨i0, hi, hz0, hz1, hz2⟩ := info_parts info_bool
  have H0 := hid hz0
  have H1 := hid hz1
  have H2 := hid hz2
  have HIn := hid hi
  clear hz0 hz1 hz2 hi h hok
  have hV : imgVal (.slice ac m.code.length cc) (.slice ad m.data.length cd) (.slice an m.names.length cn) m = .agg #[.slice ac m.code.length cc, .int .i64 m.entry, .int .i64 m.room, .slice ad m.data.length cd, .slice an m.names.length cn] := rfl
  rw [hV]
  clear hV
  obtain ⟨w0, hw0, hr0, hb0, hz0⟩ := new_ex w 30 #[.slice ac m.code.length cc, .int .i64 m.entry, .int .i64 m.room, .slice ad m.data.length cd, .slice an m.names.length cn]
  obtain ⟨w1, hw1, _, hb1, hz1⟩ := new_ex w0 3 #[.int .i64 m.entry]
  have HL1 := hid (show w1.ownsRow w0.heap.size 3 1 (.slice (some ⟨w0.heap.size, 0, none⟩) 1 1) 1 (ints [m.entry]) by rw [← hw1]; exact own_lit w0 [m.entry] #[.int .i64 m.entry] rfl (by simp) 1 rfl)
  have HB1 := hid (hb0.trans (hb1.mono (Nat.le_of_lt hz0)))
  have HX1 := hid (hr0.on hb1)
  have q0 := hr0.cell 0
  have q1 := hr0.cell 1
  have x0 := HX1.out.cell 0
  have x1 := HX1.out.cell 1
  simp at q0 q1 x0 x1
  clear hr0 hb0 hb1
  go_enter Tryz.func53, Tryz.ntmps53
  go_upto_region 3 with (refine wpList_make_full _ rfl _ _ 102 rfl w1.heap.size 4 i0 (.bool false) 1 Tryz.underlying102 HIn.out H0.out H1.out .i64 .i64 _ _ m.code.length rfl rfl rfl rfl (by rw [H2.out]; omega) (by simp only [maxLen]; omega) (Nat.le_refl _) ?_; intro w2 hown2 hg2)
  clear hw0 hw1 q0 q1 x0 x1
  rw [made_bools] at hown2
  obtain ⟨g0, c0, he0', _, hbat⟩ := BAt.of_own (f := fun _ => false) hown2 (by omega)
  simp only [Value.slice.injEq, Option.some.injEq, Addr.mk.injEq, true_and, and_true] at he0'
  obtain ⟨rfl, -⟩ := he0'
  have hb2 := (Below.refl w1.heap.size w1).grown hg2 (Nat.le_refl _) (by simp)
  have HB2 := hid (HB1.out.trans (hb2.mono HB1.out.size))
  have HL2 := hid (own_on HL1.out hb2)
  have HX2 := hid (HX1.out.on hb2)
  have HBt2 := hid hbat
  obtain ⟨gx, hgx⟩ : ∃ g, w.heap.size = g := ⟨_, rfl⟩
  obtain ⟨go, hgo⟩ : ∃ g, w0.heap.size = g := ⟨_, rfl⟩
  obtain ⟨gb, hgb⟩ : ∃ g, w1.heap.size = g := ⟨_, rfl⟩
  have HG := hid (show gx = w.heap.size ∧ w.heap.size < go ∧ go < gb by omega)
  rw [hgb] at HBt2
  rw [hgo] at HL2
  rw [hgx] at HX2
  try rw [hgb]
  try rw [hgo]
  try rw [hgx]
  clear hown2 hg2 hbat hb2 hgx hgo hgb hz0 hz1
  have x0 := HX2.out.cell 0
  have x1 := HX2.out.cell 1
  simp at x0 x1
  have HB3 := hid ((Below.refl w2.heap.size w2).alloc (Nat.le_refl _) (.cells #[.int .i64 m.entry] 3))
  have HRs := hid (Rd.of_own (own_lit w2 [m.entry] #[.int .i64 m.entry] rfl (by simp) 1 rfl))
  go_wp2_with fail
  refine (walk_c m.code [m.entry] true ac _ cc _ _ (HI.out.on (HB2.out.trans (HB3.out.mono HB2.out.size))).c HRs.out HBd.out.cb hl2 (by omega) (fun q hq => by obtain rfl : q = m.entry := (by simpa using hq); omega) (by simp)).mono ?_
  rintro e w4 ⟨v4, ms, rfl, hown4, hms, hb4⟩
  rw [trues_reach hms] at hown4
  obtain ⟨l, hl⟩ : ∃ l, reachL m.code [m.entry] true = l := ⟨_, rfl⟩
  have hmem : ∀ x ∈ l, ∃ p : Nat, x = p ∧ p < m.code.length ∧ (readP m.code p).isSome = true := by
    rw [← hl]
    intro x hx
    obtain ⟨p, e1, e2, _, e3⟩ := reachL_mem hx
    exact ⟨p, e1, e2, e3⟩
  have hll : l.length ≤ 2000 := by rw [← hl]; exact Nat.le_trans (reachL_len _ _ _) hl2
  rw [hl] at hown4
  have HMem := hid hmem
  have HL := hid hl
  have hb24 := HB3.out.trans (hb4.mono HB3.out.size)
  have HB4 := hid (HB2.out.trans (hb24.mono HB2.out.size))
  have HO4 := hid (own_mono hown4 (show w.heap.size ≤ _ from Nat.le_trans HB2.out.size HB3.out.size))
  have HX4 := hid (HX2.out.on hb24)
  have HL4 := hid (own_on HL2.out hb24)
  obtain ⟨s2, c2, rfl⟩ := own_slice hown4
  have HRel := hid (show CsRel m.code l (some m.entry) gb w 0 (.slice s2 l.length c2) w4 from ⟨HO4.out, by simpa [callsL] using HBt2.out.on hb24, HB4.out⟩)
  clear hown4 hb4 hmem hl hms hb24 x0 x1
  go_wp2_with fail
  go_loopw [7] (fun c wr => ∃ k : Nat, c = .int .i64 k ∧ k ≤ l.length ∧ CsRel m.code l (some m.entry) gb w k (.slice s2 l.length c2) wr ∧ Row wr gx 30 #[.slice ac m.code.length cc, .int .i64 m.entry, .int .i64 m.room, .slice ad m.data.length cd, .slice an m.names.length cn] ∧ wr.ownsRow go 3 1 (.slice (some ⟨go, 0, none⟩) 1 1) 1 (ints [m.entry])) (fun c _ => l.length - (intOf c).toNat)
  case atStart => exact ⟨0, rfl, by omega, HRel.out, HX4.out, HL4.out⟩
  case round =>
    obtain ⟨k, rfl, hk, hrel, hrow, hlit⟩ := hrel
    have HR := hid hrel
    have HX := hid hrow
    have HLi := hid hlit
    have hz := hrel.bel.size
    have x0 := hrow.cell 0
    have x1 := hrow.cell 1
    simp at x0 x1
    have hgxl := hrow.lt
    clear hrel hrow hlit
    by_cases hlt : k < l.length
    case neg =>
      obtain rfl : k = l.length := by omega
      go_wp2_with fail
      refine (trues_c m.code.length gb _ _ _ HR.out.bat hl2).mono ?_
      rintro e w5 ⟨v5, rfl, hown5, hb5⟩
      have HB5 := hid (HR.out.bel.trans (hb5.mono hz))
      have he : truesL (fun q => decide ((q : Int) ∈ callsL m.code (l.take l.length)) && !decide (some (q : Int) = some m.entry)) m.code.length = othersL m := by
        unfold othersL calledL
        rw [List.take_length, HL.out, trues_filter]
      rw [he] at hown5
      obtain ⟨ol, hol⟩ : ∃ x, othersL m = x := ⟨_, rfl⟩
      have holl : ol.length ≤ m.code.length := by rw [← hol]; exact othersL_len m
      rw [hol] at hown5
      have HOl := hid (show funsL m = m.entry :: ol by unfold funsL; rw [hol])
      have HLi5 := hid (own_on HLi.out hb5)
      have hz5 := HB5.out.size
      have hgo5 : go ≤ w5.heap.size := by have := HG.out; have := (HLi5.out.lt go rfl).2; omega
      obtain ⟨s5, c5, rfl⟩ := own_slice hown5
      have HSrc := hid (SrcAt.of_rd (Rd.of_own hown5))
      clear hown5 hb5 he hol
      go_wp2_with (at_builtin; refine app_ints _ rfl _ _ rfl go [m.entry] ol _ rfl HLi5.out _ _ _ rfl rfl HSrc.out (by simp; omega) hgo5 ?_)
      intro v6 w6 hg6
      have hown6 := hg6.own
      obtain ⟨fs, hfs⟩ : ∃ fs, m.entry :: ol = fs := ⟨_, rfl⟩
      rw [hfs] at hown6
      have HFs := hid (HOl.out.trans hfs)
      have HO6 := hid (own_mono hown6 (show w.heap.size ≤ go by have := HG.out; omega))
      have HB6 := hid (HB5.out.trans (hg6.bel.mono (show w.heap.size ≤ go by have := HG.out; omega)))
      obtain ⟨s6, c6, rfl⟩ := own_slice hown6
      clear hg6 hown6 hfs
      go_wp2_with fail
      go_ret
      rw [HFs.out]
      exact ⟨_, rfl, HO6.out, HB6.out⟩
    obtain ⟨p, hp, hpl, hps⟩ := HMem.out l[k] (List.getElem_mem hlt)
    have HO := hid HR.out.own
    obtain ⟨g, cap, hsl, hg, hgl⟩ := own_addr HO.out (by omega)
    simp only [Value.slice.injEq, true_and] at hsl
    obtain ⟨rfl, rfl⟩ := hsl
    have hcell : wr.cell? ⟨g, k, none⟩ = some (.int .i64 p) := by
      have h := HO.out.cells (g := g) rfl k (.int .i64 p) (by rw [ints, List.getElem?_map, List.getElem?_eq_getElem hlt, Option.map_some, hp])
      rwa [addr_add] at h
    have hx := byte_at HBd.out.cb p hpl
    have heq := (readP_in hpl).trans (insIn_eq m.code p hx.1 hx.2)
    obtain ⟨⟨jop, ja, jb, jn⟩, hi⟩ := Option.isSome_iff_exists.1 hps
    have hso : sread m.code p = some ⟨jop, ja, jb, jn⟩ := heq.symm.trans hi
    have HCa := hid (show callAt m.code l[k] = if jop = 29 ∧ jn < m.code.length then some jn else none by rw [hp]; exact callAt_eq hi)
    have HLn := hid (fun h29 : jop = 29 => lead_bd (readP_facts hi).2.1 (.inr (.inr h29)))
    have HSo := hid hso
    have HApp := hid (fun b (hb : (Value.slice (some ⟨g, 0, none⟩) l.length c2).ownBlock = some b) => show b ≠ gb from fun h => by
      obtain ⟨cur, hcr, _⟩ := HR.out.bat
      exact no_own hcr HO.out (by decide) (h ▸ hb))
    have HGx := hid (show gx ≠ gb by have := HG.out; omega)
    have HGo := hid (show go ≠ gb by have := HG.out; omega)
    have hgbl := HR.out.bat.lt
    clear hp hps hx heq hi hso
    go_upto_region 7 with fail
    go_cut [8, 9] (fun s8 s9 wx => ∃ g5, s8 = .pointer (some ⟨g5, 0, none⟩) ∧ s9 = .bool true ∧ Row wx g5 70 #[.int .i64 jop, .int .i64 ja, .int .i64 jb, .int .i64 jn] ∧ wr.heap.size ≤ g5 ∧ Below wr.heap.size wr wx)
    case first =>
      go_region_with (first
        | (go_at_call 64; refine (sRead_c m.code _ p wr.drew ((HI.out.on HR.out.bel).c.on ((Below.refl _ _).drew)) HBd.out.cb hl2 hpl).mono ?_; rintro e w5 ⟨i5, rfl, hij, hb5⟩; rw [HSo.out]; obtain rfl := hij ⟨jop, ja, jb, jn⟩ HSo.out; unfold IIns.val; simp only [Option.isSome_some]; have HB5 := hid (((Below.refl wr.heap.size wr).drew).trans hb5); clear hb5)
        | (go_at_call 64; refine (sRead_c m.code _ p _ ((HI.out.on HR.out.bel).c.on (((Below.refl wr.heap.size wr).alloc (Nat.le_refl _) _).drew)) HBd.out.cb hl2 hpl).mono ?_; rintro e w5 ⟨i5, rfl, hij, hb5⟩; rw [HSo.out]; obtain rfl := hij ⟨jop, ja, jb, jn⟩ HSo.out; unfold IIns.val; simp only [Option.isSome_some]; have HZ5 := hid ((Row.new wr 70 #[.int .i64 0, .int .i64 0, .int .i64 0, .int .i64 0]).drew.on hb5); have HB5 := hid ((((Below.refl wr.heap.size wr).alloc (Nat.le_refl _) (.cells #[.int .i64 0, .int .i64 0, .int .i64 0, .int .i64 0] 70)).drew).trans (hb5.mono (by simp [World.drew]))); have z0 := HZ5.out.cell 0; have z1 := HZ5.out.cell 1; have z2 := HZ5.out.cell 2; have z3 := HZ5.out.cell 3; have zf := HZ5.out.free; simp at z0 z1 z2 z3; clear hb5))
      all_goals
        go_wp2_with fail
        go_meet
        refine ⟨_, rfl, rfl, ?_, ?_, ?_⟩
        · first
            | with_reducible exact Row.new _ _ _
            | with_reducible exact four_row HZ5.out _ _ _ _
        · first
            | with_reducible exact HB5.out.size
            | with_reducible exact Nat.le_refl _
        · first
            | with_reducible exact HB5.out.alloc HB5.out.size _
            | with_reducible exact four_bel HB5.out (Nat.le_refl _) _ _ _ _
    case rest =>
      obtain ⟨g5, rfl, rfl, hr5, hg5, hb5⟩ := hcut
      generalize wc = w5 at hr5 hb5 ⊢
      have HB5 := hid hb5
      have HX5 := hid hr5
      have hbt5 := HR.out.bat.on hb5
      have HBt5 := hid hbt5
      have HO5 := hid (own_on HO.out hb5)
      have HBl5 := hid (HR.out.bel.trans (hb5.mono hz))
      have HXi := hid (HX.out.on hb5)
      have HLt5 := hid (own_on HLi.out hb5)
      have hfree : ∀ j, w5.frozen? ⟨gb, j, none⟩ = false := fun j => by obtain ⟨cur, hcr, _⟩ := hbt5; exact hcr.free j
      have HFr := hid hfree
      have HNe := hid (show g5 ≠ gb by omega)
      have x5 := hr5.cell 0
      have x8 := hr5.cell 3
      clear hr5 hb5 hbt5 hfree hcell x0 x1
      have x0 := HXi.out.cell 0
      have x1 := HXi.out.cell 1
      simp at x0 x1 x5 x8
      have skip := fun hc => HR.out.skip (w1 := w5) hlt hc HB5.out
      have HSk := hid skip
      clear skip
      by_cases h29 : jop = 29
      · subst h29
        have hn0 := HLn.out rfl
        simp only at hn0
        by_cases hn : jn < m.code.length
        · have HC2 := hid (show callAt m.code l[k] = some jn by rw [HCa.out, if_pos ⟨rfl, hn⟩])
          obtain ⟨nn, rfl⟩ := Int.eq_ofNat_of_zero_le hn0.1
          by_cases hne : (nn : Int) = m.entry
          · have hnb : ((nn : Int) != m.entry) = false := by rw [hne]; simp
            have HNe2 := hid hne
            clear hne
            go_wp2_with fail
            go_roundw
            case rel => exact ⟨k + 1, by go_num, by omega, HSk.out (.inr ⟨_, HC2.out, by rw [HNe2.out]⟩), HXi.out, HLt5.out⟩
            case measure => simp [intOf]; omega
          · have hnb : ((nn : Int) != m.entry) = true := by simp [hne]
            have HNe2 := hid hne
            have hbc := HBt5.out.cell (j := nn) (by omega)
            have hfz := HFr.out nn
            clear hne
            go_wp2_with fail
            go_roundw
            case rel => exact ⟨k + 1, by go_num, by omega, HR.out.mark hlt HC2.out (by intro h; exact HNe2.out (Option.some.inj h)) (own_far HO5.out (p := ⟨gb, nn, none⟩) HApp.out _) (HBl5.out.setCell (p := ⟨gb, nn, none⟩) (by have := HG.out; simp only; omega) _) (HBt5.out.set (by omega)), HXi.out.far HGx.out _, own_far HLt5.out (p := ⟨gb, nn, none⟩) (fun b hb => by have hb2 : go = b := (by simpa [Value.ownBlock] using hb); rw [← hb2]; exact HGo.out) _⟩
            case measure => simp [intOf]; omega
        · have HC2 := hid (show callAt m.code l[k] = none by rw [HCa.out, if_neg (fun h => hn h.2)])
          go_wp2_with fail
          go_roundw
          case rel => exact ⟨k + 1, by go_num, by omega, HSk.out (.inl HC2.out), HXi.out, HLt5.out⟩
          case measure => simp [intOf]; omega
      · have HC2 := hid (show callAt m.code l[k] = none by rw [HCa.out, if_neg (fun h => h29 h.1)])
        have hne : (jop == 29) = false := by rw [beq_eq_false_iff_ne]; exact h29
        clear h29
        go_wp2_with fail
        go_roundw
        case rel => exact ⟨k + 1, by go_num, by omega, HSk.out (.inl HC2.out), HXi.out, HLt5.out⟩
        case measure => simp [intOf]; omega
end Go.Proofs.YtihhpgklpichgaaGreat.Wk
namespace Go.Proofs.YtihhpgklpichgaaGreat.Wk
open Go.RowKit Pl Ft Mm In C2 Im Sw

noncomputable def funsP (m : Img) : List Int := if imageOk m = true then funsL m else []
theorem funsL_len (m : Img) : (funsL m).length ≤ m.code.length + 1 := by
  unfold funsL
  rw [List.length_cons]
  have := othersL_len m
  omega
theorem funsP_len (m : Img) : (funsP m).length ≤ 1000000 := by
  unfold funsP
  split
  · rename_i h
    have := funsL_len m
    have := (imageOk_bd h).c1
    omega
  · simp
set_option maxRecDepth 100000 in
set_option maxHeartbeats 2000000 in
theorem funsOf_c (m : Img) (vc vd vn : Value) (w : World) (h : ICells w vc vd vn m) (hs : Sm m) (hcc : ∀ a n c, vc = .slice a n c → n ≤ c) :
    Calls Tryz.prog 23 #[imgVal vc vd vn m] w (WaysPost2 (funsP m) w) := by
  obtain ⟨ac, cc, rfl⟩ := rd_slice h.c
  obtain ⟨ad, cd, rfl⟩ := rd_slice h.d
  obtain ⟨an, cn, rfl⟩ := nrd_slice h.n
  have HI := hid h
  have HS := hid hs
  have HCap := hid hcc
  clear h hs hcc
  obtain ⟨o, ho⟩ : ∃ o, funsP m = o := ⟨_, rfl⟩
  have HQ := hid ho
  rw [ho]
  clear ho
  have hV : imgVal (.slice ac m.code.length cc) (.slice ad m.data.length cd) (.slice an m.names.length cn) m = .agg #[.slice ac m.code.length cc, .int .i64 m.entry, .int .i64 m.room, .slice ad m.data.length cd, .slice an m.names.length cn] := rfl
  have HV := hid hV
  rw [hV]
  clear hV
  have HB1 := hid ((Below.refl w.heap.size w).alloc (Nat.le_refl _) (.cells #[.slice ac m.code.length cc, .int .i64 m.entry, .int .i64 m.room, .slice ad m.data.length cd, .slice an m.names.length cn] 30))
  have HX1 := hid (Row.new w 30 #[.slice ac m.code.length cc, .int .i64 m.entry, .int .i64 m.room, .slice ad m.data.length cd, .slice an m.names.length cn])
  have hw01 : w.heap.size < (w.alloc (.cells #[.slice ac m.code.length cc, .int .i64 m.entry, .int .i64 m.room, .slice ad m.data.length cd, .slice an m.names.length cn] 30)).heap.size := by simp
  go_enter Tryz.func23, Tryz.ntmps23
  go_wp2_with fail
  generalize w.alloc (.cells #[.slice ac m.code.length cc, .int .i64 m.entry, .int .i64 m.room, .slice ad m.data.length cd, .slice an m.names.length cn] 30) = w1 at HB1 HX1 hw01 ⊢
  rw [← HV.out]
  cases h1 : imageOk m
  · obtain rfl : o = [] := by rw [← HQ.out, funsP, h1]; rfl
    refine (funsIn_no m _ _ _ w1 (HI.out.on HB1.out) HS.out h1).mono ?_
    rintro e w2 ⟨rfl, hb2⟩
    have HB2 := hid (HB1.out.trans (hb2.mono HB1.out.size))
    clear hb2 h1
    go_wp2_with fail
    go_ret
    exact ⟨_, rfl, World.ownsRow_nil _ _ _ _, HB2.out.alloc HB2.out.size _⟩
  · have HO := hid (show o = funsL m by rw [← HQ.out, funsP, h1]; rfl)
    refine (funsIn_yes m _ _ _ w1 (HI.out.on HB1.out) HS.out HCap.out h1).mono ?_
    rintro e w2 ⟨gw, gm, ms, vl, rfl, hrow, hmap, hmem, hnd, hown, hb2, _, _⟩
    have HB2 := hid (HB1.out.trans (hb2.mono HB1.out.size))
    rw [← HO.out] at hown
    have HOw := hid (own_mono hown HB1.out.size)
    obtain ⟨s3, c3, rfl⟩ := own_slice hown
    clear hb2 h1 hrow hmap hmem hnd hown
    have HOa := hid (HOw.out.alloc (.cells #[.pointer (some ⟨gw, 0, none⟩), .slice s3 o.length c3] 59))
    go_wp2_with fail
    go_ret
    exact ⟨_, rfl, HOa.out, HB2.out.alloc HB2.out.size _⟩
set_option maxRecDepth 100000 in
set_option maxHeartbeats 2000000 in
theorem sFunsOf_c (m : Img) (vc vd vn : Value) (w : World) (h : ICells w vc vd vn m) (hs : Sm m) :
    Calls Tryz.prog 22 #[imgVal vc vd vn m] w (WaysPost2 (funsP m) w) := by
  obtain ⟨ac, cc, rfl⟩ := rd_slice h.c
  obtain ⟨ad, cd, rfl⟩ := rd_slice h.d
  obtain ⟨an, cn, rfl⟩ := nrd_slice h.n
  have HI := hid h
  have HS := hid hs
  clear h hs
  obtain ⟨o, ho⟩ : ∃ o, funsP m = o := ⟨_, rfl⟩
  have HQ := hid ho
  rw [ho]
  clear ho
  have hV : imgVal (.slice ac m.code.length cc) (.slice ad m.data.length cd) (.slice an m.names.length cn) m = .agg #[.slice ac m.code.length cc, .int .i64 m.entry, .int .i64 m.room, .slice ad m.data.length cd, .slice an m.names.length cn] := rfl
  have HV := hid hV
  rw [hV]
  clear hV
  have HB1 := hid ((Below.refl w.heap.size w).alloc (Nat.le_refl _) (.cells #[.slice ac m.code.length cc, .int .i64 m.entry, .int .i64 m.room, .slice ad m.data.length cd, .slice an m.names.length cn] 30))
  have HX1 := hid (Row.new w 30 #[.slice ac m.code.length cc, .int .i64 m.entry, .int .i64 m.room, .slice ad m.data.length cd, .slice an m.names.length cn])
  have hw01 : w.heap.size < (w.alloc (.cells #[.slice ac m.code.length cc, .int .i64 m.entry, .int .i64 m.room, .slice ad m.data.length cd, .slice an m.names.length cn] 30)).heap.size := by simp
  go_enter Tryz.func22, Tryz.ntmps22
  go_wp2_with fail
  generalize w.alloc (.cells #[.slice ac m.code.length cc, .int .i64 m.entry, .int .i64 m.room, .slice ad m.data.length cd, .slice an m.names.length cn] 30) = w1 at HB1 HX1 hw01 ⊢
  rw [← HV.out]
  refine (validImage_c m _ _ _ w1 (HI.out.on HB1.out) HS.out).mono ?_
  rintro e w2 ⟨rfl, hb2⟩
  have HB2 := hid (HB1.out.trans (hb2.mono HB1.out.size))
  have HX2 := hid (HX1.out.on hb2)
  have hz2 := hb2.size
  clear hb2
  cases h1 : imageOk m
  · obtain rfl : o = [] := by rw [← HQ.out, funsP, h1]; rfl
    clear h1
    go_wp2_with fail
    go_ret
    exact ⟨_, rfl, World.ownsRow_nil _ _ _ _, HB2.out⟩
  · have HO := hid (show o = funsL m by rw [← HQ.out, funsP, h1]; rfl)
    have H1 := hid h1
    have x0 := HX2.out.cell 0
    have x1 := HX2.out.cell 1
    have x2 := HX2.out.cell 2
    have x3 := HX2.out.cell 3
    have x4 := HX2.out.cell 4
    simp at x0 x1 x2 x3 x4
    have hw02 : w.heap.size < w2.heap.size := by omega
    clear h1
    go_wp2_with fail
    rw [← HV.out]
    refine (sFuns_c m _ _ _ w2 (HI.out.on HB2.out) H1.out).mono ?_
    rintro e w3 ⟨v3, rfl, hown, hb3⟩
    rw [← HO.out] at hown
    have HOw := hid (own_mono hown HB2.out.size)
    have HB3 := hid (HB2.out.trans (hb3.mono HB2.out.size))
    obtain ⟨s3, c3, rfl⟩ := own_slice hown
    clear hb3 hown
    go_wp2_with fail
    go_ret
    exact ⟨_, rfl, HOw.out, HB3.out⟩
end Go.Proofs.YtihhpgklpichgaaGreat.Wk
