/- Simpler terms: the parts of a term of one's own, by their cells; what a contrary is more simply, by the program. -/
import Derived.Test.YtffibmlgdacafaaDoorWd
set_option linter.unusedSimpArgs false
set_option linter.unusedVariables false
namespace Go.Proofs.YtffibmlgdacafaaDoor.Um
open Go.RowKit Pl Ft Mm In C2 Im

/-- A part of a row of one's own: where it lies, and what its own parts are. -/
theorem KOwn.part {w : World} {n lo hi : Nat} {v : Value} {ks : List Tm} (h : KOwn w n lo hi v ks) {j : Nat} (hj : j < ks.length) :
    ∃ (r cap n' f g : Nat) (u : Value), n = n' + 1 ∧ v = .slice (some ⟨r, 0, none⟩) ks.length cap ∧ r < w.heap.size ∧ lo ≤ r ∧
      w.cell? ⟨r, j * 4, none⟩ = some (.int .i64 (ks.getD j tz).kind) ∧ w.cell? ⟨r, j * 4 + 1, none⟩ = some (.int .i64 (ks.getD j tz).num) ∧ w.cell? ⟨r, j * 4 + 2, none⟩ = some (.string (ks.getD j tz).text) ∧ w.cell? ⟨r, j * 4 + 3, none⟩ = some u ∧
      lo ≤ f ∧ g ≤ hi ∧ KOwn w n' f g u (ks.getD j tz).kids := by
  cases n with
  | zero => obtain ⟨rfl, _⟩ := h; simp at hj
  | succ n' =>
    obtain ⟨us, f, g, hl, _, hrow, _, hk⟩ := h
    obtain ⟨r, cap, rfl, hr1, hr2⟩ := own_addr hrow (by omega)
    obtain ⟨c0, c1, c2, c3⟩ := tCells_get ks us j hj hl
    have hc : ∀ i u, (tCells ks us)[i]? = some u → w.cell? ⟨r, i, none⟩ = some u := by
      intro i u hu
      have := hrow.cells (g := r) rfl i u hu
      rwa [add_none, Nat.zero_add] at this
    obtain ⟨k1, k2, _, k4⟩ := hk j hj
    exact ⟨r, cap, n', f j, g j, us.getD j vz, rfl, rfl, hr2, hr1, hc _ _ c0, hc _ _ c1, hc _ _ c2, hc _ _ c3, k1, k2, k4⟩
set_option maxHeartbeats 4000000 in
theorem simplerNot_c (m lo f0 g0 G h : Nat) (a : Tm) (va : Value) (w : World) (hs : shape h a = true) (ha : KOwn w m f0 g0 va a.kids) (hlo : lo ≤ f0) (hhi : g0 ≤ G) (hG : G ≤ w.heap.size) (hT : Tabs w) :
    Calls Tryd.prog 124 #[tmVal a va] w (FoldPost m lo G (onceNot a) w) := by
  obtain ⟨sa, ca, rfl⟩ := ha.slice
  have HLw := hid (show lo ≤ w.heap.size by have := ha.le; omega)
  have HA := hid ha
  have HLo := hid hlo
  have HHi := hid hhi
  have HG := hid hG
  have HT := hid hT
  have HSh := hid hs
  clear ha hlo hhi hT hG
  obtain ⟨x0, x1, x2, la, hp⟩ := Pt.of a
  have HP := hid hp
  have HOn := hid (show onceNot a = (if x0 = 0 then some (nT (if x1 = 0 then 1 else 0)) else if x0 = 3 ∧ truthT (a.kids.getD 0 tz) = true then some (a.kids.getD 0 tz) else none) by rw [onceNot, hp.k, hp.n])
  rw [HP.out.val]
  rw [hp.l] at HA ⊢
  clear hp
  have HB00 := hid ((Below.refl w.heap.size w).alloc (Nat.le_refl _) (.cells #[.int .i64 x0, .int .i64 x1, .string x2, .slice sa la ca] 28))
  have HB0 := hid (HB00.out.alloc HB00.out.size (.cells #[.int .i64 0, .int .i64 0, .string ⟨#[]⟩, .slice none 0 0] 28))
  have HX0 := hid ((Row.new w 28 #[.int .i64 x0, .int .i64 x1, .string x2, .slice sa la ca]).alloc (.cells #[.int .i64 0, .int .i64 0, .string ⟨#[]⟩, .slice none 0 0] 28))
  have HZ0 := hid (Row.new (w.alloc (.cells #[.int .i64 x0, .int .i64 x1, .string x2, .slice sa la ca] 28)) 28 #[.int .i64 0, .int .i64 0, .string ⟨#[]⟩, .slice none 0 0])
  simp only [World.size_alloc] at HZ0
  have HNu := hid (fun (wx : World) => (show Calls Tryd.prog 149 #[.agg #[.int .i64 x0, .int .i64 x1, .string x2, .slice sa la ca]] wx fun e w' => e = .returned (.bool (x0 == 0)) ∧ Below wx.heap.size wx w' by
    have := isNumber_c a (.slice sa la ca) wx
    rw [HP.out.val, HP.out.k] at this
    exact this))
  go_enter Tryd.func124, Tryd.ntmps124
  go_wp2_with fail
  refine (HNu.out _).mono ?_
  rintro e w1 ⟨rfl, hb1⟩
  have HB1 := hid (HB0.out.trans (hb1.mono HB0.out.size))
  have HX1 := hid (HX0.out.on hb1)
  have HZ1 := hid (HZ0.out.on hb1)
  clear hb1
  by_cases h0 : x0 = 0
  · have hb : (x0 == 0) = true := by simpa using h0
    rw [hb]
    have HO := hid (show onceNot a = some (nT (if x1 = 0 then 1 else 0)) by rw [HOn.out, if_pos h0])
    clear hb h0
    obtain ⟨bz, hbz⟩ : ∃ b, (x1 == 0) = b := ⟨_, rfl⟩
    have HZv := hid (show (if x1 = 0 then (1 : Int) else 0) = if bz = true then 1 else 0 by rw [← hbz]; simp)
    have HBz := hid hbz
    clear hbz
    have d1 := HX1.out.cell 1
    simp at d1
    go_wp2_with fail
    rw [HBz.out]
    refine (truth_c bz _).mono ?_
    rintro e w2 ⟨rfl, rfl⟩
    rw [← HZv.out]
    obtain ⟨z, hz⟩ : ∃ z : Int, (if x1 = 0 then (1 : Int) else 0) = z := ⟨_, rfl⟩
    rw [hz] at HO ⊢
    clear hz d1
    go_wp2_with fail
    refine (numberTerm_c z _).mono ?_
    rintro e w3 ⟨rfl, hb3⟩
    rw [nT_val]
    have HB3 := hid (HB1.out.trans (hb3.mono HB1.out.size))
    have HZ3 := hid (HZ1.out.on hb3)
    clear hb3
    have r0 := HZ3.out.cell 0
    have r1 := HZ3.out.cell 1
    have r2 := HZ3.out.cell 2
    have r3 := HZ3.out.cell 3
    simp at r0 r1 r2 r3
    have hfr := HZ3.out.free
    go_wp2_with fail
    clear r0 r1 r2 r3 hfr
    refine bodyPost_ret (v := .tuple #[.agg #[.int .i64 0, .int .i64 z, .string ⟨#[]⟩, .slice none 0 0], .bool true]) ?_ rfl ?_
    · exact results_cell_tmp Tryd.results124 _ _ (w.heap.size + 1) _ _ rfl (four_row HZ3.out (.int .i64 0) (.int .i64 z) (.string ⟨#[]⟩) (.slice none 0 0)) Tryd.underlying28 size_term
    · exact fold_num HO.out (four_bel HB3.out (show w.heap.size ≤ w.heap.size + 1 by omega) _ _ _ _) (by rw [four_size]; have := HB3.out.size; have := HLw.out; omega)
  have hb : (x0 == 0) = false := by simpa using h0
  rw [hb]
  clear hb
  have HNone := hid (show ∀ (wf : World), onceNot a = none → Below w.heap.size w wf → FoldPost m lo G (onceNot a) w (.returned (.tuple #[.agg #[.int .i64 0, .int .i64 0, .string ⟨#[]⟩, .slice none 0 0], .bool false])) wf from
    fun wf ho hbl => by rw [ho]; exact fold_end (t := tz) (a := none) (c := 0) rfl (fun r hr => by cases hr) hbl rfl)
  have d0 := HX1.out.cell 0
  have d3 := HX1.out.cell 3
  simp at d0 d3
  have r0 := HZ1.out.cell 0
  have r1 := HZ1.out.cell 1
  have r2 := HZ1.out.cell 2
  have r3 := HZ1.out.cell 3
  simp at r0 r1 r2 r3
  have hfr := HZ1.out.free
  by_cases h3 : x0 = 3
  · subst h3
    obtain ⟨hh, hhs⟩ : ∃ g, h = g + 1 := by
      cases h with
      | zero => have := HSh.out; simp [shape] at this
      | succ g => exact ⟨g, rfl⟩
    subst hhs
    obtain ⟨hf, hks⟩ := shape_at HSh.out
    have hl1 := (not_form hf HP.out.k).1
    have hfk : (a.kids.getD 0 tz).form = true := by
      have hs0 := hks 0 (by omega)
      cases hh with
      | zero => simp [shape] at hs0
      | succ g => exact (shape_at hs0).1
    obtain ⟨r, cap, n', f, g, u, rfl, hv, hr, hr0, c0, c1, c2, c3, k1, k2, k4⟩ := HA.out.part (j := 0) (by omega)
    obtain ⟨hsa, hca⟩ : sa = some ⟨r, 0, none⟩ ∧ la = 1 := by
      rw [hl1] at hv
      cases hv
      exact ⟨rfl, rfl⟩
    subst hsa hca
    obtain ⟨k0, hk0⟩ : ∃ k, a.kids.getD 0 tz = k := ⟨_, rfl⟩
    rw [hk0] at HOn hfk c0 c1 c2 k4
    obtain ⟨su, cu, rfl⟩ := k4.slice
    obtain ⟨y0, y1, y2, ly, hq⟩ := Pt.of k0
    have HQ := hid hq
    rw [hq.k] at c0
    rw [hq.n] at c1
    rw [hq.s] at c2
    rw [hq.l] at c3
    have HK4 := hid k4
    rw [hq.l] at HK4
    have HO := hid (show onceNot a = if truthT k0 = true then some k0 else none by
      rw [HOn.out, if_neg h0]
      by_cases ht : truthT k0 = true
      · rw [if_pos ⟨rfl, ht⟩, if_pos ht]
      · rw [if_neg (fun h => ht h.2), if_neg ht])
    simp only [Nat.zero_mul, Nat.zero_add] at c0 c1 c2 c3
    have HCe := hid (fun (wx : World) (hb : Below w.heap.size w wx) => (show wx.cell? ⟨r, 0, none⟩ = some (.int .i64 y0) ∧ wx.cell? ⟨r, 1, none⟩ = some (.int .i64 y1) ∧ wx.cell? ⟨r, 2, none⟩ = some (.string y2) ∧ wx.cell? ⟨r, 3, none⟩ = some (.slice su ly cu) from
      ⟨(hb.cell (p := ⟨r, 0, none⟩) hr).trans c0, (hb.cell (p := ⟨r, 1, none⟩) hr).trans c1, (hb.cell (p := ⟨r, 2, none⟩) hr).trans c2, (hb.cell (p := ⟨r, 3, none⟩) hr).trans c3⟩))
    have HTr := hid (fun (wx : World) (hb : Below w.heap.size w wx) => (show Calls Tryd.prog 155 #[.agg #[.int .i64 y0, .int .i64 y1, .string y2, .slice su ly cu]] wx fun e w' => e = .returned (.bool (truthT k0)) ∧ Below wx.heap.size wx w' by
      have := isTruth_c k0 (.slice su ly cu) wx hfk (HT.out.on hb)
      rw [HQ.out.val] at this
      exact this))
    have HKl := hid (And.intro k1 k2)
    have HRl := hid hr
    clear hk0 hq k4 c0 c1 c2 c3 hv hf hks hl1 hfk k1 k2 hr0
    obtain ⟨q0, q1, q2, q3⟩ := HCe.out _ HB1.out
    go_wp2_with fail
    refine (HTr.out _ HB1.out).mono ?_
    rintro e w2 ⟨rfl, hb2⟩
    have HB2 := hid (HB1.out.trans (hb2.mono HB1.out.size))
    have HX2 := hid (HX1.out.on hb2)
    have HZ2 := hid (HZ1.out.on hb2)
    clear hb2 d0 d3 r0 r1 r2 r3 hfr q0 q1 q2 q3
    have r0 := HZ2.out.cell 0
    have r1 := HZ2.out.cell 1
    have r2 := HZ2.out.cell 2
    have r3 := HZ2.out.cell 3
    have d3 := HX2.out.cell 3
    simp at r0 r1 r2 r3 d3
    have hfr := HZ2.out.free
    obtain ⟨q0, q1, q2, q3⟩ := HCe.out _ HB2.out
    cases htk : truthT k0
    · have HO2 := hid (show onceNot a = none by rw [HO.out, htk]; rfl)
      clear htk
      go_wp2_with fail
      clear d3 r0 r1 r2 r3 hfr q0 q1 q2 q3
      refine bodyPost_ret (v := .tuple #[.agg #[.int .i64 0, .int .i64 0, .string ⟨#[]⟩, .slice none 0 0], .bool false]) ?_ rfl ?_
      · exact results_cell_tmp Tryd.results124 _ _ (w.heap.size + 1) _ _ rfl (four_row HZ2.out (.int .i64 0) (.int .i64 0) (.string ⟨#[]⟩) (.slice none 0 0)) Tryd.underlying28 size_term
      · exact HNone.out _ HO2.out (four_bel HB2.out (show w.heap.size ≤ w.heap.size + 1 by omega) _ _ _ _)
    · have HO2 := hid (show onceNot a = some k0 by rw [HO.out, htk]; rfl)
      clear htk
      go_wp2_with fail
      clear d3 r0 r1 r2 r3 hfr q0 q1 q2 q3
      refine bodyPost_ret (v := .tuple #[.agg #[.int .i64 y0, .int .i64 y1, .string y2, .slice su ly cu], .bool true]) ?_ rfl ?_
      · exact results_cell_tmp Tryd.results124 _ _ (w.heap.size + 1) _ _ rfl (four_row HZ2.out (.int .i64 y0) (.int .i64 y1) (.string y2) (.slice su ly cu)) Tryd.underlying28 size_term
      · have hbf := four_bel HB2.out (show w.heap.size ≤ w.heap.size + 1 by omega) (.int .i64 y0) (.int .i64 y1) (.string y2) (.slice su ly cu)
        rw [HO2.out]
        refine fold_end (t := k0) (a := su) (c := cu) rfl (fun r hr => ?_) hbf (by rw [HQ.out.l, HQ.out.val])
        obtain rfl : k0 = r := Option.some.inj hr
        refine ⟨rfl, ?_⟩
        rw [HQ.out.l]
        have hkl := HKl.out
        have hlo := HLo.out
        have hhi := HHi.out
        have hsz := hbf.size
        have hkl2 := HG.out
        exact fun x hx hk => ((keep_old HK4.out (show _ ≤ G by omega) HG.out hbf x hk).mono (by omega)).widen (by omega) (by omega)
  · have HO := hid (show onceNot a = none by rw [HOn.out, if_neg h0, if_neg (fun h => h3 h.1)])
    go_wp2_with fail
    clear d0 d3 r0 r1 r2 r3 hfr
    refine bodyPost_ret (v := .tuple #[.agg #[.int .i64 0, .int .i64 0, .string ⟨#[]⟩, .slice none 0 0], .bool false]) ?_ rfl ?_
    · exact results_cell_tmp Tryd.results124 _ _ (w.heap.size + 1) _ _ rfl (four_row HZ1.out (.int .i64 0) (.int .i64 0) (.string ⟨#[]⟩) (.slice none 0 0)) Tryd.underlying28 size_term
    · exact HNone.out _ HO.out (four_bel HB1.out (show w.heap.size ≤ w.heap.size + 1 by omega) _ _ _ _)
end Go.Proofs.YtffibmlgdacafaaDoor.Um
