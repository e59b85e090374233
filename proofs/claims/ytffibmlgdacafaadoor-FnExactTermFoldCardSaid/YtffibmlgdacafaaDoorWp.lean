/- Simpler terms: TermFold of the model. -/
import Derived.Test.YtffibmlgdacafaaDoorWo
import Derived.Test.YtffibmlgdacafaaDoorWj
set_option linter.unusedSimpArgs false
set_option linter.unusedVariables false
namespace Go.Proofs.YtffibmlgdacafaaDoor.Um
open Go.RowKit Pl Ft Mm In C2 Im

def TsPost (t : Tm) (w : World) (e : Ending) (w' : World) : Prop := ∃ v', e = .returned (.tuple #[tmVal (foldR t) v', .bool (termOk t)]) ∧ KP (fun b => w.heap.size ≤ b) w' 14 v' (foldR t).kids ∧ Below w.heap.size w w'
set_option maxRecDepth 100000 in
set_option maxHeartbeats 4000000 in
theorem sTermFold_c (n : Nat) (t : Tm) (kv : Value) (w : World) (hr : KRd w n kv t.kids) (hw : t.wide ≤ 1048576) :
    Calls Tryd.prog 9 #[tmVal t kv] w (TsPost t w) := by
  have HR := hid hr
  have HWd := hid hw
  obtain ⟨a, cap, rfl⟩ := hr.slice
  clear hr hw
  obtain ⟨x0, x1, x2, lk, hp⟩ := Pt.of t
  rw [hp.val]
  have HP := hid hp
  rw [hp.l] at HR ⊢
  clear hp
  have hB1 := (Below.refl w.heap.size w).alloc (Nat.le_refl _) (.cells #[.int .i64 x0, .int .i64 x1, .string x2, .slice a lk cap] 28)
  have HB0 := hid (hB1.alloc hB1.size (.cells #[.int .i64 0, .int .i64 0, .string ⟨#[]⟩, .slice none 0 0] 28))
  have HX0 := hid ((Row.new w 28 #[.int .i64 x0, .int .i64 x1, .string x2, .slice a lk cap]).alloc (.cells #[.int .i64 0, .int .i64 0, .string ⟨#[]⟩, .slice none 0 0] 28))
  have HZ0 := hid (Row.new (w.alloc (.cells #[.int .i64 x0, .int .i64 x1, .string x2, .slice a lk cap] 28)) 28 #[.int .i64 0, .int .i64 0, .string ⟨#[]⟩, .slice none 0 0])
  simp only [World.size_alloc] at HZ0
  clear hB1
  cases hok : termOk t
  · have HOk := hid hok
    have HF := hid (show foldR t = tz by rw [foldR, hok]; rfl)
    clear hok
    go_enter Tryd.func9, Tryd.ntmps9
    go_wp2_with fail
    refine (validTerm_v HP.out (HR.out.on HB0.out) HWd.out HOk.out).mono ?_
    rintro e w1 ⟨rfl, hb1⟩
    have HB1 := hid (HB0.out.trans (hb1.mono HB0.out.size))
    have HZ1 := hid (HZ0.out.on hb1)
    clear hb1
    have r0 := HZ1.out.cell 0
    have r1 := HZ1.out.cell 1
    have r2 := HZ1.out.cell 2
    have r3 := HZ1.out.cell 3
    simp at r0 r1 r2 r3
    have hfr := HZ1.out.free
    go_wp2_with fail
    clear r0 r1 r2 r3 hfr
    refine bodyPost_ret (v := .tuple #[.agg #[.int .i64 0, .int .i64 0, .string ⟨#[]⟩, .slice none 0 0], .bool false]) ?_ rfl ?_
    · exact results_cell_tmp Tryd.results9 _ _ (w.heap.size + 1) _ _ rfl (four_row HZ1.out (.int .i64 0) (.int .i64 0) (.string ⟨#[]⟩) (.slice none 0 0)) Tryd.underlying28 size_term
    · refine ⟨.slice none 0 0, by rw [HF.out, HOk.out]; rfl, ?_, four_bel HB1.out (show w.heap.size ≤ w.heap.size + 1 by omega) _ _ _ _⟩
      rw [HF.out]
      exact kp_nil 14
  · have HOk := hid hok
    have HF := hid (show foldR t = t.fold by rw [foldR, hok]; rfl)
    have HSh := hid (termOk_bd hok).1
    have HFo := hid (fun (wx : World) (hb : Below w.heap.size w wx) => (show Calls Tryd.prog 36 #[.agg #[.int .i64 x0, .int .i64 x1, .string x2, .slice a lk cap]] wx (FdPost 14 t.fold wx) from HP.out.val (.slice a lk cap) ▸ sFolded_c 14 n t (.slice a lk cap) wx (HR.out.on hb) HSh.out (by omega)))
    clear hok
    go_enter Tryd.func9, Tryd.ntmps9
    go_wp2_with fail
    refine (validTerm_v HP.out (HR.out.on HB0.out) HWd.out HOk.out).mono ?_
    rintro e w1 ⟨rfl, hb1⟩
    have HB1 := hid (HB0.out.trans (hb1.mono HB0.out.size))
    have HX1 := hid (HX0.out.on hb1)
    have HZ1 := hid (HZ0.out.on hb1)
    clear hb1
    have d0 := HX1.out.cell 0
    have d1 := HX1.out.cell 1
    have d2 := HX1.out.cell 2
    have d3 := HX1.out.cell 3
    simp at d0 d1 d2 d3
    go_wp2_with fail
    refine (HFo.out _ HB1.out).mono ?_
    rintro e w2 ⟨v2, rfl, hown, hb2⟩
    have HB2 := hid (HB1.out.trans (hb2.mono HB1.out.size))
    have HZ2 := hid (HZ1.out.on hb2)
    have hz1 := HZ1.out.lt
    have hzb := HB1.out.size
    obtain ⟨tf, htf⟩ : ∃ t', t.fold = t' := ⟨_, rfl⟩
    rw [htf] at hown HF ⊢
    obtain ⟨s2, c2, rfl⟩ := hown.slice
    obtain ⟨q0, q1, q2, lq, hq⟩ := Pt.of tf
    rw [hq.val]
    have HQ := hid hq
    have HO := hid hown
    rw [hq.l] at HO ⊢
    clear hown hb2 d0 d1 d2 d3 hq htf HFo
    have r0 := HZ2.out.cell 0
    have r1 := HZ2.out.cell 1
    have r2 := HZ2.out.cell 2
    have r3 := HZ2.out.cell 3
    simp at r0 r1 r2 r3
    have hfr := HZ2.out.free
    go_wp2_with fail
    clear r0 r1 r2 r3 hfr
    refine bodyPost_ret (v := .tuple #[.agg #[.int .i64 q0, .int .i64 q1, .string q2, .slice s2 lq c2], .bool true]) ?_ rfl ?_
    · exact results_cell_tmp Tryd.results9 _ _ (w.heap.size + 1) _ _ rfl (four_row HZ2.out (.int .i64 q0) (.int .i64 q1) (.string q2) (.slice s2 lq c2)) Tryd.underlying28 size_term
    · refine ⟨.slice s2 lq c2, by rw [HF.out, HOk.out, HQ.out.val], ?_, four_bel HB2.out (show w.heap.size ≤ w.heap.size + 1 by omega) _ _ _ _⟩
      rw [HF.out]
      exact (HO.out.keep (by rw [four_size]; exact Nat.le_refl _) (fun b hb _ => four_far _ _ _ (by omega) _ _ _ _ _ _ _ _)).weak (fun b _ hb => by omega)
end Go.Proofs.YtffibmlgdacafaaDoor.Um
