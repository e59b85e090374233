/- Simpler terms: folded, TermFold of the program. -/
import Derived.Test.YtffibmlgdacafaaDoorWh
import Derived.Deep.LoopGhost
set_option linter.unusedSimpArgs false
set_option linter.unusedVariables false
namespace Go.Proofs.YtffibmlgdacafaaDoor.Um
open Go.RowKit Pl Ft Mm In C2 Im

theorem folded_enter (xs : Array Value) (w : World) : (callFunc 39 xs).run Tryd.prog w = .ok (.enter 39 xs) w := by kernel_rfl
theorem KOwn.four {w : World} {n lo hi : Nat} {v : Value} {ks : List Tm} (h : KOwn w n lo hi v ks) {g : Nat} (hg : g < lo) (y0 y1 y2 y3 : Value) : KOwn ((((w.setCell ⟨g, 0, none⟩ y0).setCell ⟨g, 1, none⟩ y1).setCell ⟨g, 2, none⟩ y2).setCell ⟨g, 3, none⟩ y3) n lo hi v ks :=
  h.keep (fun b h1 _ _ => four_far _ _ _ (by omega) _ _ _ _ _ _ _ _)
theorem fold_one {t : Tm} {r : Tm} {ms : List Tm} (hm : t.kids.map Tm.fold = ms) (hr : r = .mk t.kind t.num t.text ms) : finT r = t.fold := by
  subst hm hr
  exact (fold_eq t).symm
theorem fold_first {h : Nat} {t : Tm} (hs : shape (h + 1) t = true) : shape (h + 1) (.mk t.kind t.num t.text (t.kids.map Tm.fold)) = true ∧ (Tm.mk t.kind t.num t.text (t.kids.map Tm.fold)).size ≤ t.size := by
  obtain ⟨hf, hks⟩ := shape_at hs
  have hk := fun j hj => fold_keep h (t.kids.getD j tz) (hks j hj)
  refine ⟨shape_yes ?_ (fun j hj => ?_), ?_⟩
  · unfold Tm.form
    simp only [Tm.kind, Tm.num, Tm.text, Tm.kids, List.length_map]
    exact hf
  · have hj2 : j < t.kids.length := by simpa [Tm.kids] using hj
    show shape h ((t.kids.map Tm.fold).getD j tz) = true
    rw [getD_map _ _ _ hj2]
    exact (hk j hj2).1
  · rw [size_eq, size_eq t]
    have := sizes_map Tm.fold t.kids (fun j hj => (hk j hj).2)
    show 1 + sizes (t.kids.map Tm.fold) ≤ _
    omega
set_option maxRecDepth 100000 in
set_option maxHeartbeats 8000000 in
theorem folded_c (h : Nat) : ∀ (n : Nat) (t : Tm) (kv : Value) (w : World), KRd w n kv t.kids → shape h t = true → h ≤ 14 → Tabs w →
    Calls Tryd.prog 39 #[tmVal t kv] w (CpPost1 h t.fold w) := by
  induction h with
  | zero => intro n t kv w _ hs; simp [shape] at hs
  | succ h ih =>
    intro n t kv w hr hs h14 hT
    obtain ⟨hf, hks⟩ := shape_at hs
    have hsz : t.size < 2 ^ (h + 1) := shape_size _ _ hs
    have hpw : 2 ^ (h + 1) ≤ 2 ^ 14 := Nat.pow_le_pow_right (by omega) h14
    have HI := hid ih
    have HR := hid hr
    have HSh := hid hks
    have HT := hid hT
    have hk2 := form_kids hf
    obtain ⟨hfs, hfz⟩ := fold_first hs
    obtain ⟨a, cap, rfl⟩ := hr.slice
    clear ih hr hs hks hf hT
    obtain ⟨x0, x1, x2, lk, hp⟩ := Pt.of t
    obtain ⟨ms, hms⟩ : ∃ l, t.kids.map Tm.fold = l := ⟨_, rfl⟩
    have HFin := hid (fold_one (r := .mk x0 x1 x2 ms) hms (by rw [hp.k, hp.n, hp.s]))
    have HFs := hid (show shape (h + 1) (.mk x0 x1 x2 ms) = true by rw [← hms, ← hp.k, ← hp.n, ← hp.s]; exact hfs)
    have HFz := hid (show (Tm.mk x0 x1 x2 ms).size ≤ 20000 by rw [← hms, ← hp.k, ← hp.n, ← hp.s]; omega)
    rw [hp.val]
    rw [hp.l] at hk2 HR ⊢
    have hlk := hp.l
    clear hp hfs hfz hsz hpw
    obtain ⟨ks, hks⟩ : ∃ l, t.kids = l := ⟨_, rfl⟩
    rw [hks] at HR hlk HSh hms
    clear hks
    subst hlk
    have hb1 := (Below.refl w.heap.size w).alloc (Nat.le_refl _) (.cells #[.int .i64 x0, .int .i64 x1, .string x2, .slice a ks.length cap] 28)
    have HB0 := hid (hb1.alloc hb1.size (.cells #[.int .i64 0, .int .i64 0, .string ⟨#[]⟩, .slice none 0 0] 28))
    have HX0 := hid ((Row.new w 28 #[.int .i64 x0, .int .i64 x1, .string x2, .slice a ks.length cap]).alloc (.cells #[.int .i64 0, .int .i64 0, .string ⟨#[]⟩, .slice none 0 0] 28))
    have HZ0 := hid (Row.new (w.alloc (.cells #[.int .i64 x0, .int .i64 x1, .string x2, .slice a ks.length cap] 28)) 28 #[.int .i64 0, .int .i64 0, .string ⟨#[]⟩, .slice none 0 0])
    simp only [World.size_alloc] at HZ0
    clear hb1
    have HMs := hid hms
    clear hms
    go_enter Tryd.func39, Tryd.ntmps39
    go_wp2_with fail
    refine (mappedT_c n h Tm.fold ks _ _ 39 #[] (HR.out.on HB0.out) (by omega) folded_enter (fun n' j u wx hj _ hu hbx => HI.out n' _ u wx hu (HSh.out j hj) (by omega) (HT.out.on (HB0.out.trans (hbx.mono HB0.out.size))))).mono ?_
    rintro e w1 ⟨v1, rfl, hown, hbx⟩
    rw [HMs.out] at hown
    obtain ⟨s1, c1, rfl⟩ := hown.slice
    have HOwn := hid hown
    simp only [World.size_alloc] at HOwn
    have HB1 := hid (HB0.out.trans (hbx.mono HB0.out.size))
    have HX1 := hid (HX0.out.on hbx)
    have HZ1 := hid (HZ0.out.on hbx)
    have hz1 := hbx.size
    simp only [World.size_alloc] at hz1
    obtain ⟨lm, hlm⟩ : ∃ k, ms.length = k := ⟨_, rfl⟩
    have HLm := hid hlm
    rw [hlm] at HOwn ⊢
    clear hown hbx hlm
    have d0 := HX1.out.cell 0
    have d1 := HX1.out.cell 1
    have d2 := HX1.out.cell 2
    have d3 := HX1.out.cell 3
    simp at d0 d1 d2 d3
    have hfx := HX1.out.free
    have hlx := HX1.out.lt
    go_wp2_with fail
    clear d0 d1 d2 d3 hfx
    have HX2 := hid (HX1.out.set 3 (.slice s1 lm c1))
    simp at HX2
    have HZ2 := hid (HZ1.out.far (p := ⟨w.heap.size, 3, none⟩) (by simp) (.slice s1 lm c1))
    have HB2 := hid (HB1.out.setCell (p := ⟨w.heap.size, 3, none⟩) (Nat.le_refl _) (.slice s1 lm c1))
    have HOwn2 := hid (HOwn.out.keep (w' := w1.setCell ⟨w.heap.size, 3, none⟩ (.slice s1 lm c1)) (fun b h1 _ _ => Below.heap_setCell _ _ _ _ (by show b ≠ w.heap.size; omega)))
    generalize hw2 : w1.setCell ⟨w.heap.size, 3, none⟩ (.slice s1 lm c1) = w2 at HX2 HZ2 HB2 HOwn2 ⊢
    have hsz2 : w2.heap.size = w1.heap.size := by rw [← hw2]; simp [World.size_setCell]
    rw [← hsz2] at HOwn2
    clear hw2 HOwn HX1 HZ1 HX0 HZ0
    go_loopg [4] (meas (.mk x0 x1 x2 ms)) (fun m v4 wr => ∃ (t' : Tm) (z0 z1 : Int) (z2 : ByteArray) (lz : Nat) (a' : Option Addr) (c' : Nat), Pt t' z0 z1 z2 lz ∧ meas t' ≤ m ∧ shape (h + 1) t' = true ∧ t'.size ≤ 20000 ∧ finT t' = t.fold ∧ Row wr w.heap.size 28 #[.int .i64 z0, .int .i64 z1, .string z2, .slice a' lz c'] ∧ Row wr (w.heap.size + 1) 28 #[.int .i64 0, .int .i64 0, .string ⟨#[]⟩, .slice none 0 0] ∧ KOwn wr (h + 1) (w.heap.size + 1 + 1) wr.heap.size (.slice a' lz c') t'.kids ∧ Below w.heap.size w wr)
    case atStart => exact ⟨.mk x0 x1 x2 ms, x0, x1, x2, lm, s1, c1, ⟨rfl, rfl, rfl, HLm.out⟩, Nat.le_refl _, HFs.out, HFz.out, HFin.out, HX2.out, HZ2.out, HOwn2.out, HB2.out⟩
    case round =>
      obtain ⟨t', z0, z1, z2, lz, a', c', hp, hm, hs, hz, hfin, hrx, hrz, hown, hbel⟩ := hrel
      have HP := hid hp
      have HM := hid hm
      have HS := hid hs
      have HSz := hid hz
      have HF := hid hfin
      have HX := hid hrx
      have HZ := hid hrz
      have HO := hid hown
      have HBe := hid hbel
      have hzb := hbel.size
      have hlx := hrx.lt
      have hlz := hrz.lt
      have HSi := hid (show Calls Tryd.prog 79 #[.agg #[.int .i64 z0, .int .i64 z1, .string z2, .slice a' lz c']] wr (FoldPost (h + 1) (w.heap.size + 1 + 1) wr.heap.size (onceT t') wr) from by
        have := simpler_c h (w.heap.size + 1 + 1) (w.heap.size + 1 + 1) wr.heap.size wr.heap.size h t' (.slice a' lz c') wr hs (by omega) hz hown (Nat.le_refl _) (Nat.le_refl _) (Nat.le_refl _) (HT.out.on hbel)
        rwa [hp.val] at this)
      have d0 := hrx.cell 0
      have d1 := hrx.cell 1
      have d2 := hrx.cell 2
      have d3 := hrx.cell 3
      simp at d0 d1 d2 d3
      clear hp hm hs hz hfin hrx hrz hown hbel
      go_wp2_with fail
      refine HSi.out.mono ?_
      rintro e w3 ⟨t3, s3, c3, rfl, hown3, hb3⟩
      clear d0 d1 d2 d3
      have HX3 := hid (HX.out.on hb3)
      have HZ3 := hid (HZ.out.on hb3)
      have HB3 := hid (HBe.out.trans (hb3.mono hzb))
      have HO3 := hid (HO.out.on hb3)
      have hz3 := hb3.size
      obtain ⟨q0, q1, q2, lq, hq⟩ := Pt.of t3
      rw [hq.val]
      rw [hq.l] at hown3 ⊢
      have HQ := hid hq
      have HW3 := hid hown3
      clear hq hown3 hb3
      have hlx3 := HX3.out.lt
      have hlz3 := HZ3.out.lt
      have HAl := hid ((Below.refl w3.heap.size w3).alloc (Nat.le_refl _) (.cells #[.int .i64 q0, .int .i64 q1, .string q2, .slice s3 lq c3] 28))
      have HXa := hid (HX3.out.alloc (.cells #[.int .i64 q0, .int .i64 q1, .string q2, .slice s3 lq c3] 28))
      have HZa := hid (HZ3.out.alloc (.cells #[.int .i64 q0, .int .i64 q1, .string q2, .slice s3 lq c3] 28))
      have HBa := hid (HB3.out.alloc HB3.out.size (.cells #[.int .i64 q0, .int .i64 q1, .string q2, .slice s3 lq c3] 28))
      have d0 := HX3.out.cell 0
      have d1 := HX3.out.cell 1
      have d2 := HX3.out.cell 2
      have d3 := HX3.out.cell 3
      simp at d0 d1 d2 d3
      have e0 := HZ3.out.cell 0
      have e1 := HZ3.out.cell 1
      have e2 := HZ3.out.cell 2
      have e3 := HZ3.out.cell 3
      simp at e0 e1 e2 e3
      have hfx := HX3.out.free
      have hfz := HZ3.out.free
      cases ho : onceT t' with
      | none =>
        have HFn := hid (show t' = t.fold from (fin_none ho).symm.trans HF.out)
        simp only [Option.isSome_none]
        clear ho HSi
        go_wp2_with fail
        clear d0 d1 d2 d3 e0 e1 e2 e3 hfx hfz
        refine bodyPost_ret (v := .agg #[.int .i64 z0, .int .i64 z1, .string z2, .slice a' lz c'])
          (results_cell_row Tryd.results39 _ _ (w.heap.size + 1) 28 #[.int .i64 z0, .int .i64 z1, .string z2, .slice a' lz c'] (0, 0) _ rfl ((four_row HZ3.out (.int .i64 z0) (.int .i64 z1) (.string z2) (.slice a' lz c')).alloc (.cells #[.int .i64 q0, .int .i64 q1, .string q2, .slice s3 lq c3] 28)) Tryd.underlying28 rfl size_term) rfl ?_
        refine ⟨.slice a' lz c', by rw [← HFn.out, HP.out.val], ?_, (four_bel HB3.out (show w.heap.size ≤ w.heap.size + 1 by omega) _ _ _ _).alloc (by rw [four_size]; exact HB3.out.size) _⟩
        rw [← HFn.out]
        exact ((HO3.out.four (by omega) _ _ _ _).on ((Below.refl _ _).alloc (Nat.le_refl _) _)).widen (by omega) (by simp only [World.size_alloc, four_size]; omega)
      | some r =>
        obtain ⟨hrt, hkw⟩ := HW3.out r ho
        have hO4 := hkw w3 (Nat.le_refl _) (fun _ _ _ => rfl)
        have HO4 := hid hO4
        have HFr := hid ((fin_some HS.out ho).symm.trans HF.out)
        have HLs := hid (once_less HS.out ho)
        have HRt := hid hrt
        simp only [Option.isSome_some]
        clear ho HSi hrt hkw hO4
        go_wp2_with fail
        clear d0 d1 d2 d3 e0 e1 e2 e3 hfx hfz
        go_roundg (meas r)
        case measure => exact Nat.lt_of_lt_of_le HLs.out.meas HM.out
        case rel =>
          have g1 := HQ.out
          have g2 : meas t3 ≤ meas r := by rw [HRt.out]; exact Nat.le_refl _
          have g3 : shape (h + 1) t3 = true := by rw [HRt.out]; exact HLs.out.shape
          have g4 : t3.size ≤ 20000 := by rw [HRt.out]; exact Nat.le_trans HLs.out.size HSz.out
          have g5 : finT t3 = t.fold := by rw [HRt.out]; exact HFr.out
          have g6 := (four_row HX3.out (.int .i64 q0) (.int .i64 q1) (.string q2) (.slice s3 lq c3)).alloc (.cells #[.int .i64 q0, .int .i64 q1, .string q2, .slice s3 lq c3] 28)
          have g7 := ((four_far w3 w.heap.size (w.heap.size + 1) (by omega) (.int .i64 q0) (.int .i64 q1) (.string q2) (.slice s3 lq c3) 0 1 2 3).trans HZ3.out)
          have g8 := (Row.alloc g7 (.cells #[.int .i64 q0, .int .i64 q1, .string q2, .slice s3 lq c3] 28))
          have g9 := ((HO4.out.four (show w.heap.size < w.heap.size + 1 + 1 by omega) (.int .i64 q0) (.int .i64 q1) (.string q2) (.slice s3 lq c3)).on ((Below.refl _ _).alloc (Nat.le_refl _) (.cells #[.int .i64 q0, .int .i64 q1, .string q2, .slice s3 lq c3] 28)))
          have g10 := (four_bel HB3.out (Nat.le_refl _) (.int .i64 q0) (.int .i64 q1) (.string q2) (.slice s3 lq c3)).alloc (by rw [four_size]; exact HB3.out.size) (.cells #[.int .i64 q0, .int .i64 q1, .string q2, .slice s3 lq c3] 28)
          exact ⟨t3, q0, q1, q2, lq, s3, c3, g1, g2, g3, g4, g5, g6, g8, (by rw [HRt.out]; exact g9.widen (Nat.le_refl _) (by simp only [World.size_alloc, four_size]; omega)), g10⟩
end Go.Proofs.YtffibmlgdacafaaDoor.Um
