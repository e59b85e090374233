/- A term put in the place of a variable, by the program. -/
import Derived.Test.YtffibmlgdacafaaDoorVk
set_option linter.unusedSimpArgs false
set_option linter.unusedVariables false
namespace Go.Proofs.YtffibmlgdacafaaDoor.Um
open Go.RowKit Go.MapKept Pl Ft Mm In C2 Im

def idV (v : Value) : Value := v
theorem run_get_one {w : World} {b : Nat} {s : ByteArray} {vx : Value} (h : Ms.EAt w b idV [(s, vx)]) (p : ByteArray) (hp : p.size ≤ maxLen) :
    (Instr.lookup 94 (.map (some b)) (.string p) true).run Tryd.prog w = .ok (if s = p then .tuple #[vx, .bool true] else .tuple #[.agg #[.int .i64 0, .int .i64 0, .string ⟨#[]⟩, .slice none 0 0], .bool false]) w := by
  have hj := Ms.findNow_e idV p [(s, vx)] 0 0
  have hk := Ms.check_str p hp w
  have hz : (zeroValue 28).run Tryd.prog w = .ok (.agg #[.int .i64 0, .int .i64 0, .string ⟨#[]⟩, .slice none 0 0]) w := by kernel_rfl
  by_cases hs : s = p
  · simp [Ms.idxE, hs] at hj
    simp [Instr.lookup, run_underlying Tryd.underlying94, run_underlying Tryd.underlying9, Go.MapKept.run_getObj_map h, hk, Instr.findKey, Result.andThen, hj, hs, idV]
  · simp [Ms.idxE, hs] at hj
    simp [Instr.lookup, run_underlying Tryd.underlying94, run_underlying Tryd.underlying9, Go.MapKept.run_getObj_map h, hk, Instr.findKey, Result.andThen, hj, hz, hs]
theorem put1_enter (xs : Array Value) (w : World) : (callFunc 113 xs).run Tryd.prog w = .ok (.enter 113 xs) w := by kernel_rfl
theorem put1_c (s : ByteArray) (x : Tm) (vx : Value) (mb nx hx h : Nat)
    (ih : ∀ (n : Nat) (t : Tm) (kv : Value) (w : World), KRd w n kv t.kids → t.wide ≤ 1048576 → shape h t = true → Ms.EAt w mb idV [(s, tmVal x vx)] → KRd w nx vx x.kids → Calls Tryd.prog 69 #[tmVal t kv, .map (some mb)] w (CpPost1 (h + hx) (putT s x h t) w))
    (n : Nat) (t : Tm) (kv : Value) (w : World) (g : Nat) (hr : KRd w n kv t.kids) (hw : t.wide ≤ 1048576) (hs : shape h t = true) (hg : Row w g 94 #[.map (some mb)]) (hm : Ms.EAt w mb idV [(s, tmVal x vx)]) (hx0 : KRd w nx vx x.kids) :
    Calls Tryd.prog 113 #[tmVal t kv, .pointer (some ⟨g, 0, none⟩)] w (CpPost1 (h + hx) (putT s x h t) w) := by
  obtain ⟨a, cap, rfl⟩ := hr.slice
  have HI := hid ih
  have HR := hid hr
  have HM := hid hm
  have HX := hid hx0
  have hg0 := hg.cell 0
  have hgl := hg.lt
  simp at hg0
  clear ih hr hm hx0
  unfold CpPost1
  obtain ⟨x0, x1, x2, lk, hp⟩ := Pt.of t
  rw [hp.val]
  have HP := hid hp
  rw [hp.l] at HR ⊢
  clear hp
  have HB00 := hid ((Below.refl w.heap.size w).alloc (Nat.le_refl _) (.cells #[.int .i64 x0, .int .i64 x1, .string x2, .slice a lk cap] 28))
  have HB0 := hid (HB00.out.alloc HB00.out.size (.cells #[.int .i64 0, .int .i64 0, .string ⟨#[]⟩, .slice none 0 0] 28))
  have HY0 := hid (Row.new (w.alloc (.cells #[.int .i64 x0, .int .i64 x1, .string x2, .slice a lk cap] 28)) 28 #[.int .i64 0, .int .i64 0, .string ⟨#[]⟩, .slice none 0 0])
  simp only [World.size_alloc] at HY0
  go_enter Tryd.func113, Tryd.ntmps113
  go_wp2_with fail
  rw [← HP.out.val]
  refine (HI.out n t _ _ (HR.out.on HB0.out) hw hs (HM.out.on HB0.out) (HX.out.on HB0.out)).mono ?_
  rintro e w1 ⟨v1, rfl, hown1, hb1⟩
  rw [HP.out.val]
  obtain ⟨r, hre⟩ : ∃ r, putT s x h t = r := ⟨_, rfl⟩
  rw [hre] at hown1 ⊢
  have HRe := hid hre
  clear hre
  obtain ⟨s1, c1, rfl⟩ := hown1.slice
  obtain ⟨z0, z1, z2, lz, hq⟩ := Pt.of r
  rw [hq.val]
  have HQ := hid hq
  have HOwn1 := hid hown1
  simp only [World.size_alloc] at HOwn1
  rw [hq.l] at HOwn1 ⊢
  have HB1 := hid (HB0.out.trans (hb1.mono HB0.out.size))
  have HY1 := hid (HY0.out.on hb1)
  have hz1 := hb1.size
  simp only [World.size_alloc] at hz1
  clear hown1 hb1 hq hg0
  have r0 := HY1.out.cell 0
  have r1 := HY1.out.cell 1
  have r2 := HY1.out.cell 2
  have r3 := HY1.out.cell 3
  simp at r0 r1 r2 r3
  have hfr := HY1.out.free
  go_wp2_with fail
  clear r0 r1 r2 r3 hfr
  have HR6 := hid (four_row HY1.out (.int .i64 z0) (.int .i64 z1) (.string z2) (.slice s1 lz c1))
  refine bodyPost_ret (v := .agg #[.int .i64 z0, .int .i64 z1, .string z2, .slice s1 lz c1])
    (results_cell_row Tryd.results113 _ _ (w.heap.size + 1) 28 #[.int .i64 z0, .int .i64 z1, .string z2, .slice s1 lz c1] (0, 0) _ rfl HR6.out Tryd.underlying28 rfl size_term) rfl ?_
  refine ⟨.slice s1 lz c1, by rw [HRe.out, HQ.out.val], ?_, four_bel HB1.out (by omega) _ _ _ _⟩
  rw [four_size, HRe.out]
  refine (HOwn1.out.keep (fun b h1 h2 h3 => ?_)).widen (by omega) (Nat.le_refl _)
  rw [four_far _ _ _ (by omega)]
set_option maxRecDepth 100000 in
set_option maxHeartbeats 8000000 in
theorem put_c (s : ByteArray) (x : Tm) (vx : Value) (mb nx hx : Nat) (hsx : shape hx x = true) (h : Nat) : ∀ (n : Nat) (t : Tm) (kv : Value) (w : World), KRd w n kv t.kids → t.wide ≤ 1048576 → shape h t = true → Ms.EAt w mb idV [(s, tmVal x vx)] → KRd w nx vx x.kids →
    Calls Tryd.prog 69 #[tmVal t kv, .map (some mb)] w (CpPost1 (h + hx) (putT s x h t) w) := by
  have HSx := hid hsx
  clear hsx
  induction h with
  | zero => intro n t kv w _ _ hs; simp [shape] at hs
  | succ h ih =>
    intro n t kv w hr hw hs hmp hrx0
    obtain ⟨hf, hks⟩ := shape_at hs
    have HI := hid ih
    have HR := hid hr
    have HWd := hid hw
    have HSh := hid hks
    have HMp := hid hmp
    have HRx0 := hid hrx0
    have HWi := hid (wide_eq t)
    have hk2 := form_kids hf
    obtain ⟨a, cap, rfl⟩ := hr.slice
    clear ih hr hw hs hks hf hrx0
    obtain ⟨x0, x1, x2, lk, hp⟩ := Pt.of t
    have hx2 : x2.size ≤ 1048576 := by rw [← hp.s]; have := HWi.out; have := HWd.out; omega
    unfold CpPost1
    rw [hp.val]
    have HPv := hid (fun (v : Value) (hno : ¬ (x0 = 1 ∧ x2 = s)) => (show tmVal (putT s x (h + 1) t) v = .agg #[.int .i64 x0, .int .i64 x1, .string x2, v] by
      rw [putT, hp.k, hp.s, if_neg hno, hp.n]; rfl))
    have HPk := hid (fun (hno : ¬ (x0 = 1 ∧ x2 = s)) => (show (putT s x (h + 1) t).kids = t.kids.map (putT s x h) by
      rw [putT, hp.k, hp.s, if_neg hno]; rfl))
    have HPx := hid (fun (hyes : x0 = 1 ∧ x2 = s) => (show putT s x (h + 1) t = x by rw [putT, hp.k, hp.s, if_pos hyes]))
    rw [hp.l] at hk2 HR ⊢
    have hlk := hp.l
    clear hp
    obtain ⟨ks, hks⟩ : ∃ l, t.kids = l := ⟨_, rfl⟩
    rw [hks] at HR hlk HSh HWi HPk
    clear hks
    subst hlk
    have HWk := hid (fun j (hj : j < ks.length) => (show (ks.getD j tz).wide ≤ 1048576 by have := wides_at ks j hj; have := HWi.out; have := HWd.out; omega))
    have HB00 := hid ((Below.refl w.heap.size w).alloc (Nat.le_refl _) (.cells #[.int .i64 x0, .int .i64 x1, .string x2, .slice a ks.length cap] 28))
    have HB01 := hid (HB00.out.alloc HB00.out.size (.cells #[.map (some mb)] 94))
    have HB0 := hid (HB01.out.alloc HB01.out.size (.cells #[.int .i64 0, .int .i64 0, .string ⟨#[]⟩, .slice none 0 0] 28))
    have HX0 := hid (((Row.new w 28 #[.int .i64 x0, .int .i64 x1, .string x2, .slice a ks.length cap]).alloc (.cells #[.map (some mb)] 94)).alloc (.cells #[.int .i64 0, .int .i64 0, .string ⟨#[]⟩, .slice none 0 0] 28))
    have HM0 := hid ((Row.new (w.alloc (.cells #[.int .i64 x0, .int .i64 x1, .string x2, .slice a ks.length cap] 28)) 94 #[.map (some mb)]).alloc (.cells #[.int .i64 0, .int .i64 0, .string ⟨#[]⟩, .slice none 0 0] 28))
    have HY0 := hid (Row.new ((w.alloc (.cells #[.int .i64 x0, .int .i64 x1, .string x2, .slice a ks.length cap] 28)).alloc (.cells #[.map (some mb)] 94)) 28 #[.int .i64 0, .int .i64 0, .string ⟨#[]⟩, .slice none 0 0])
    simp only [World.size_alloc] at HY0 HM0
    have hgn := run_get_one (hmp.on HB0.out) x2 (by unfold maxLen; omega)
    clear hmp
    by_cases h1 : x0 = 1
    · by_cases h2 : s = x2
      · rw [if_pos h2] at hgn
        have HE := hid (HPx.out ⟨h1, h2.symm⟩)
        clear HPv HPk HPx
        subst h1
        rw [HE.out]
        obtain ⟨ax, cx, rfl⟩ := HRx0.out.slice
        obtain ⟨y0, y1, y2, ly, hq⟩ := Pt.of x
        rw [hq.val, hq.l] at hgn
        rw [hq.l] at HRx0
        have HQ := hid hq
        have HB1 := hid (HB0.out.alloc HB0.out.size (.cells #[.int .i64 y0, .int .i64 y1, .string y2, .slice ax ly cx] 28))
        have HY1 := hid (HY0.out.alloc (.cells #[.int .i64 y0, .int .i64 y1, .string y2, .slice ax ly cx] 28))
        clear hq
        go_enter Tryd.func69, Tryd.ntmps69
        go_wp2_with fail
        rw [← HQ.out.val]
        refine (copied_c hx nx x _ _ (HRx0.out.on HB1.out) HSx.out).mono ?_
        rintro e w1 ⟨v1, rfl, hown1, hb1⟩
        rw [HQ.out.val]
        obtain ⟨s1, c1, rfl⟩ := hown1.slice
        have HOwn1 := hid hown1
        simp only [World.size_alloc] at HOwn1
        rw [HQ.out.l] at HOwn1 ⊢
        have HB2 := hid (HB1.out.trans (hb1.mono HB1.out.size))
        have HY2 := hid (HY1.out.on hb1)
        have hz1 := hb1.size
        simp only [World.size_alloc] at hz1
        clear hown1 hb1 hgn
        have r0 := HY2.out.cell 0
        have r1 := HY2.out.cell 1
        have r2 := HY2.out.cell 2
        have r3 := HY2.out.cell 3
        simp at r0 r1 r2 r3
        have hfr := HY2.out.free
        go_wp2_with fail
        clear r0 r1 r2 r3 hfr
        have HR6 := hid (four_row HY2.out (.int .i64 y0) (.int .i64 y1) (.string y2) (.slice s1 ly c1))
        refine bodyPost_ret (v := .agg #[.int .i64 y0, .int .i64 y1, .string y2, .slice s1 ly c1])
          (results_cell_row Tryd.results69 _ _ (w.heap.size + 1 + 1) 28 #[.int .i64 y0, .int .i64 y1, .string y2, .slice s1 ly c1] (0, 0) _ rfl HR6.out Tryd.underlying28 rfl size_term) rfl ?_
        refine ⟨.slice s1 ly c1, by rw [HQ.out.val], ?_, four_bel HB2.out (by omega) _ _ _ _⟩
        rw [four_size]
        refine (KOwn.mono (n := hx) (HOwn1.out.keep (fun b h1 h2 h3 => ?_)) (by omega)).widen (by omega) (Nat.le_refl _)
        rw [four_far _ _ _ (by omega)]
      · rw [if_neg h2] at hgn
        have HNo := hid (show ¬ (x0 = 1 ∧ x2 = s) from fun h => h2 h.2.symm)
        have HBv := hid (HB0.out.alloc HB0.out.size (.cells #[.int .i64 0, .int .i64 0, .string ⟨#[]⟩, .slice none 0 0] 28))
        have HXv := hid (HX0.out.alloc (.cells #[.int .i64 0, .int .i64 0, .string ⟨#[]⟩, .slice none 0 0] 28))
        have HMv := hid (HM0.out.alloc (.cells #[.int .i64 0, .int .i64 0, .string ⟨#[]⟩, .slice none 0 0] 28))
        have HYv := hid (HY0.out.alloc (.cells #[.int .i64 0, .int .i64 0, .string ⟨#[]⟩, .slice none 0 0] 28))
        clear HPx h2
        subst h1
        go_enter Tryd.func69, Tryd.ntmps69
        go_wp2_with fail
        clear hgn
        refine (mappedT_c n (h + hx) (putT s x h) ks _ _ 113 #[.pointer (some ⟨w.heap.size + 1, 0, none⟩)] (HR.out.on HBv.out) (by omega) put1_enter (fun n' j u wx hj _ hu hbx => put1_c s x vx mb nx hx h HI.out n' _ u wx (w.heap.size + 1) hu (HWk.out j hj) (HSh.out j hj) (HMv.out.on hbx) ((HMp.out.on HBv.out).on hbx) ((HRx0.out.on HBv.out).on hbx))).mono ?_
        rintro e w1 ⟨v1, rfl, hown1, hb1⟩
        have HLm := hid (show (ks.map (putT s x h)).length = ks.length by simp)
        obtain ⟨zs, hzs⟩ : ∃ l, ks.map (putT s x h) = l := ⟨_, rfl⟩
        rw [hzs] at hown1 HLm
        have HZs := hid hzs
        obtain ⟨s1, c1, rfl⟩ := hown1.slice
        have HOwn1 := hid hown1
        rw [HLm.out] at HOwn1 ⊢
        have HB1 := hid (HBv.out.trans (hb1.mono HBv.out.size))
        have HX1 := hid (HXv.out.on hb1)
        have HY1 := hid (HYv.out.on hb1)
        have hz1 := hb1.size
        have hzw := HBv.out.size
        have hlx := HXv.out.lt
        have hly := HYv.out.lt
        clear hown1 hb1 hzs
        have o0 := HX1.out.cell 0
        have o1 := HX1.out.cell 1
        have o2 := HX1.out.cell 2
        have o3 := HX1.out.cell 3
        have r0 := HY1.out.cell 0
        have r1 := HY1.out.cell 1
        have r2 := HY1.out.cell 2
        have r3 := HY1.out.cell 3
        simp at o0 o1 o2 o3 r0 r1 r2 r3
        have hfo := HX1.out.free
        have hfr := HY1.out.free
        go_wp2_with fail
        clear o0 o1 o2 o3 r0 r1 r2 r3 hfo hfr
        have hr5 := HY1.out.far (p := ⟨w.heap.size, 3, none⟩) (by first | (simp; done) | (simp; omega)) (.slice s1 ks.length c1)
        have HB6 := hid (HB1.out.setCell (p := ⟨w.heap.size, 3, none⟩) (by first | (simp; done) | (simp; omega)) (.slice s1 ks.length c1))
        have HR6 := hid (four_row hr5 (.int .i64 1) (.int .i64 x1) (.string x2) (.slice s1 ks.length c1))
        refine bodyPost_ret (v := .agg #[.int .i64 1, .int .i64 x1, .string x2, .slice s1 ks.length c1])
          (results_cell_row Tryd.results69 _ _ (w.heap.size + 1 + 1) 28 #[.int .i64 1, .int .i64 x1, .string x2, .slice s1 ks.length c1] (0, 0) _ rfl HR6.out Tryd.underlying28 rfl size_term) rfl ?_
        refine ⟨.slice s1 ks.length c1, by rw [HPv.out _ HNo.out], ?_, four_bel HB6.out (by omega) _ _ _ _⟩
        rw [four_size, World.size_setCell, HPk.out HNo.out, HZs.out]
        refine (KOwn.mono (n := h + hx + 1) (HOwn1.out.keep (fun b h1 h2 h3 => ?_)) (by omega)).widen (by omega) (Nat.le_refl _)
        rw [four_far _ _ _ (by omega), Below.heap_setCell _ _ _ _ (by simp; omega)]
    · have HNo := hid (show ¬ (x0 = 1 ∧ x2 = s) from fun h => h1 h.1)
      clear HPx hgn
      go_enter Tryd.func69, Tryd.ntmps69
      go_wp2_with fail
      refine (mappedT_c n (h + hx) (putT s x h) ks _ _ 113 #[.pointer (some ⟨w.heap.size + 1, 0, none⟩)] (HR.out.on HB0.out) (by omega) put1_enter (fun n' j u wx hj _ hu hbx => put1_c s x vx mb nx hx h HI.out n' _ u wx (w.heap.size + 1) hu (HWk.out j hj) (HSh.out j hj) (HM0.out.on hbx) ((HMp.out.on HB0.out).on hbx) ((HRx0.out.on HB0.out).on hbx))).mono ?_
      rintro e w1 ⟨v1, rfl, hown1, hb1⟩
      have HLm := hid (show (ks.map (putT s x h)).length = ks.length by simp)
      obtain ⟨zs, hzs⟩ : ∃ l, ks.map (putT s x h) = l := ⟨_, rfl⟩
      rw [hzs] at hown1 HLm
      have HZs := hid hzs
      obtain ⟨s1, c1, rfl⟩ := hown1.slice
      have HOwn1 := hid hown1
      rw [HLm.out] at HOwn1 ⊢
      have HB1 := hid (HB0.out.trans (hb1.mono HB0.out.size))
      have HX1 := hid (HX0.out.on hb1)
      have HY1 := hid (HY0.out.on hb1)
      have hz1 := hb1.size
      have hzw := HB0.out.size
      have hlx := HX0.out.lt
      have hly := HY0.out.lt
      clear hown1 hb1 hzs
      have o0 := HX1.out.cell 0
      have o1 := HX1.out.cell 1
      have o2 := HX1.out.cell 2
      have o3 := HX1.out.cell 3
      have r0 := HY1.out.cell 0
      have r1 := HY1.out.cell 1
      have r2 := HY1.out.cell 2
      have r3 := HY1.out.cell 3
      simp at o0 o1 o2 o3 r0 r1 r2 r3
      have hfo := HX1.out.free
      have hfr := HY1.out.free
      go_wp2_with fail
      clear o0 o1 o2 o3 r0 r1 r2 r3 hfo hfr
      have hr5 := HY1.out.far (p := ⟨w.heap.size, 3, none⟩) (by first | (simp; done) | (simp; omega)) (.slice s1 ks.length c1)
      have HB6 := hid (HB1.out.setCell (p := ⟨w.heap.size, 3, none⟩) (by first | (simp; done) | (simp; omega)) (.slice s1 ks.length c1))
      have HR6 := hid (four_row hr5 (.int .i64 x0) (.int .i64 x1) (.string x2) (.slice s1 ks.length c1))
      refine bodyPost_ret (v := .agg #[.int .i64 x0, .int .i64 x1, .string x2, .slice s1 ks.length c1])
        (results_cell_row Tryd.results69 _ _ (w.heap.size + 1 + 1) 28 #[.int .i64 x0, .int .i64 x1, .string x2, .slice s1 ks.length c1] (0, 0) _ rfl HR6.out Tryd.underlying28 rfl size_term) rfl ?_
      refine ⟨.slice s1 ks.length c1, by rw [HPv.out _ HNo.out], ?_, four_bel HB6.out (by omega) _ _ _ _⟩
      rw [four_size, World.size_setCell, HPk.out HNo.out, HZs.out]
      refine (KOwn.mono (n := h + hx + 1) (HOwn1.out.keep (fun b h1 h2 h3 => ?_)) (by omega)).widen (by omega) (Nat.le_refl _)
      rw [four_far _ _ _ (by omega), Below.heap_setCell _ _ _ _ (by simp; omega)]
end Go.Proofs.YtffibmlgdacafaaDoor.Um
