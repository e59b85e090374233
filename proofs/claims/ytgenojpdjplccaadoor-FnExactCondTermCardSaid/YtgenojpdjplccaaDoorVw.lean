/- The term of a condition, by the model: CondTerm. -/
import Derived.Test.YtgenojpdjplccaaDoorVu
import Derived.Deep.RegionWith
import Derived.Deep.RegionHeld3
import Derived.IntWalk
set_option linter.unusedSimpArgs false
set_option linter.unusedVariables false
namespace Go.Proofs.YtgenojpdjplccaaDoor.Um
open Go.RowKit Pl Ft Mm In C2 Im

theorem cond_no {c : Int} {a b : Tm} (h : condOk c a b = false) : condR c a b = tz := by
  unfold condOk at h
  unfold condR
  split at h
  · rw [if_neg (by rw [h]; decide)]
  · rfl
/-- What stays however the blocks are changed that were there before. -/
def Stb (w w' : World) (P : World → Prop) : Prop := ∀ x : World, w'.heap.size ≤ x.heap.size → (∀ k, w.heap.size ≤ k → k < w'.heap.size → x.heap[k]? = w'.heap[k]?) → P x
theorem Stb.here {w w' : World} {P : World → Prop} (h : Stb w w' P) : P w' := h w' (Nat.le_refl _) (fun _ _ _ => rfl)
theorem Stb.on {w w' x : World} {P : World → Prop} (h : Stb w w' P) (hb : Below w'.heap.size w' x) : P x := h x hb.size (fun k _ hk => hb.block k hk)
def CsPost (n : Nat) (c : Int) (a b : Tm) (w : World) (e : Ending) (w' : World) : Prop :=
  ∃ v, e = .returned (.tuple #[tmVal (condR c a b) v, .bool (condOk c a b)]) ∧ Stb w w' (fun x => KRd x (n + 2) v (condR c a b).kids) ∧ Below w.heap.size w w'
theorem csPost_no {n : Nat} {c : Int} {a b : Tm} {w w' : World} (h : condOk c a b = false) (hb : Below w.heap.size w w') : CsPost n c a b w (.returned (.tuple #[.agg #[.int .i64 0, .int .i64 0, .string ⟨#[]⟩, .slice none 0 0], .bool false])) w' :=
  ⟨.slice none 0 0, by rw [h, cond_no h]; rfl, by rw [cond_no h]; exact fun x _ _ => KRd.nil _ _ _ _, hb⟩
theorem lit_cell (w : World) (q : Nat) (s : ByteArray) (h : (#[Value.string ⟨#[61, 61]⟩, .string ⟨#[60]⟩, .string ⟨#[60, 60]⟩] : Array Value)[q]? = some (.string s)) : (w.alloc (.cells #[.string ⟨#[61, 61]⟩, .string ⟨#[60]⟩, .string ⟨#[60, 60]⟩] 9)).cell? ⟨w.heap.size, q, none⟩ = some (.string s) :=
  ((Row.new w 9 #[.string ⟨#[61, 61]⟩, .string ⟨#[60]⟩, .string ⟨#[60, 60]⟩]).cell q).trans h
theorem row_four {w : World} {g : Nat} {t : TypeId} {cs : Array Value} (h : Row w g t cs) {k : Nat} (hk : g ≠ k) (y0 y1 y2 y3 : Value) : Row ((((w.setCell ⟨k, 0, none⟩ y0).setCell ⟨k, 1, none⟩ y1).setCell ⟨k, 2, none⟩ y2).setCell ⟨k, 3, none⟩ y3) g t cs :=
  (((h.far (p := ⟨k, 0, none⟩) (by simpa using hk) y0).far (p := ⟨k, 1, none⟩) (by simpa using hk) y1).far (p := ⟨k, 2, none⟩) (by simpa using hk) y2).far (p := ⟨k, 3, none⟩) (by simpa using hk) y3
theorem copy_v {t : Tm} {x0 x1 : Int} {x2 : ByteArray} {lk : Nat} (hp : Pt t x0 x1 x2 lk) {n : Nat} {kv : Value} {w : World} (hr : KRd w n kv t.kids) (hw : t.wide ≤ 100000) :
    Calls Tryd.prog 64 #[.agg #[.int .i64 x0, .int .i64 x1, .string x2, kv]] w fun e w' => ∃ a c, e = .returned (.agg #[.int .i64 x0, .int .i64 x1, .string x2, .slice a lk c]) ∧ KOwn w' n w.heap.size w'.heap.size (.slice a lk c) t.kids ∧ Below w.heap.size w w' := by
  rw [← hp.val]
  refine (copyTerm_c n t kv w hr hw).mono ?_
  rintro e w' ⟨v, rfl, hown, hb⟩
  obtain ⟨a, c, rfl⟩ := hown.slice
  rw [hp.l] at hown ⊢
  exact ⟨a, c, by rw [hp.val], hown, hb⟩
theorem bin_v {a b : Tm} {x0 x1 y0 y1 : Int} {x2 y2 : ByteArray} {la lb : Nat} (hp : Pt a x0 x1 x2 la) (hq : Pt b y0 y1 y2 lb) (s : ByteArray) (va vb : Value) (w : World) :
    Calls Tryd.prog 63 #[.string s, .agg #[.int .i64 x0, .int .i64 x1, .string x2, va], .agg #[.int .i64 y0, .int .i64 y1, .string y2, vb]] w fun e w' => ∃ sv cv, e = .returned (.agg #[.int .i64 2, .int .i64 0, .string s, .slice sv 2 cv]) ∧ w'.ownsRow w.heap.size 25 4 (.slice sv 2 cv) 2 (tCells [a, b] [va, vb]) ∧ Below w.heap.size w w' := by
  rw [← hp.val, ← hq.val]
  exact bin_c s a b va vb w
/-- The operator of a condition, and whether it is the contrary. -/
def condS (q : Nat) : ByteArray := if q = 0 then eqS else if q = 1 then ltS else loS
theorem cond_at {q : Nat} (hq : q < 3) {a b : Tm} : condT (2 * (q : Int) + ((0 : Nat) : Int)) a b = some (binT a (condS q) b) ∧ condT (2 * (q : Int) + ((1 : Nat) : Int)) a b = some (notT (binT a (condS q) b)) := by
  have h3 : q = 0 ∨ q = 1 ∨ q = 2 := by omega
  rcases h3 with rfl | rfl | rfl <;> exact ⟨rfl, rfl⟩
theorem cond_size (q : Nat) : (condS q).size ≤ 2 := by
  unfold condS
  repeat' split
  all_goals decide
theorem not_v {a : Tm} {x0 x1 : Int} {x2 : ByteArray} {la : Nat} (hp : Pt a x0 x1 x2 la) (va : Value) (w : World) :
    Calls Tryd.prog 65 #[.agg #[.int .i64 x0, .int .i64 x1, .string x2, va]] w fun e w' => ∃ sv cv, e = .returned (.agg #[.int .i64 3, .int .i64 0, .string ⟨#[]⟩, .slice sv 1 cv]) ∧ w'.ownsRow w.heap.size 25 4 (.slice sv 1 cv) 1 (tCells [a] [va]) ∧ Below w.heap.size w w' := by
  rw [← hp.val]
  exact not_c a va w
set_option maxRecDepth 100000 in
set_option maxHeartbeats 16000000 in
theorem sCondTerm_c (n : Nat) (c : Int) (a b : Tm) (va vb : Value) (w : World) (ha : KRd w n va a.kids) (hb : KRd w n vb b.kids) (hw : a.wide + b.wide ≤ 1048576) :
    Calls Tryd.prog 25 #[.int .i64 c, tmVal a va, tmVal b vb] w (CsPost n c a b w) := by
  obtain ⟨sa, ca, rfl⟩ := ha.slice
  obtain ⟨sb, cb, rfl⟩ := hb.slice
  have HA := hid ha
  have HB := hid hb
  have HWa := hid (show a.wide ≤ 1048576 by omega)
  have HWb := hid (show b.wide ≤ 1048576 by omega)
  clear ha hb hw
  obtain ⟨x0, x1, x2, la, hp⟩ := Pt.of a
  obtain ⟨y0, y1, y2, lb, hq⟩ := Pt.of b
  have HP := hid hp
  have HQ := hid hq
  rw [hp.l] at HA ⊢
  rw [hq.l] at HB ⊢
  rw [hp.val, hq.val]
  clear hp hq
  have hb1 := (Below.refl w.heap.size w).alloc (Nat.le_refl _) (.cells #[.int .i64 x0, .int .i64 x1, .string x2, .slice sa la ca] 25)
  have hb2 := hb1.alloc hb1.size (.cells #[.int .i64 y0, .int .i64 y1, .string y2, .slice sb lb cb] 25)
  have HB0 := hid (hb2.alloc hb2.size (.cells #[.int .i64 0, .int .i64 0, .string ⟨#[]⟩, .slice none 0 0] 25))
  have HX0 := hid (((Row.new w 25 #[.int .i64 x0, .int .i64 x1, .string x2, .slice sa la ca]).alloc (.cells #[.int .i64 y0, .int .i64 y1, .string y2, .slice sb lb cb] 25)).alloc (.cells #[.int .i64 0, .int .i64 0, .string ⟨#[]⟩, .slice none 0 0] 25))
  have HY0 := hid ((Row.new (w.alloc (.cells #[.int .i64 x0, .int .i64 x1, .string x2, .slice sa la ca] 25)) 25 #[.int .i64 y0, .int .i64 y1, .string y2, .slice sb lb cb]).alloc (.cells #[.int .i64 0, .int .i64 0, .string ⟨#[]⟩, .slice none 0 0] 25))
  have HZ0 := hid (Row.new ((w.alloc (.cells #[.int .i64 x0, .int .i64 x1, .string x2, .slice sa la ca] 25)).alloc (.cells #[.int .i64 y0, .int .i64 y1, .string y2, .slice sb lb cb] 25)) 25 #[.int .i64 0, .int .i64 0, .string ⟨#[]⟩, .slice none 0 0])
  simp only [World.size_alloc] at HZ0 HY0
  clear hb1 hb2
  by_cases hc : 0 ≤ c ∧ c ≤ 5
  case neg =>
    have HNo := hid (show condOk c a b = false by
      cases h : condOk c a b
      · rfl
      · exact absurd ⟨(cond_ok h).1, (cond_ok h).2.1⟩ hc)
    have HDc := hid (show decide (0 ≤ c ∧ c ≤ 5) = false by simpa using hc)
    clear hc
    go_enter Tryd.func25, Tryd.ntmps25
    go_wp2_with fail
    refine (C1.inRange_c _ _ _ _).mono ?_
    rintro e w' ⟨rfl, rfl⟩
    rw [HDc.out]
    generalize (((w.alloc (.cells #[.int .i64 x0, .int .i64 x1, .string x2, .slice sa la ca] 25)).alloc (.cells #[.int .i64 y0, .int .i64 y1, .string y2, .slice sb lb cb] 25)).alloc (.cells #[.int .i64 0, .int .i64 0, .string ⟨#[]⟩, .slice none 0 0] 25)) = w1 at HB0 HX0 HY0 HZ0 ⊢
    have r0 := HZ0.out.cell 0
    have r1 := HZ0.out.cell 1
    have r2 := HZ0.out.cell 2
    have r3 := HZ0.out.cell 3
    simp at r0 r1 r2 r3
    have hfr := HZ0.out.free
    go_wp2_with fail
    clear r0 r1 r2 r3 hfr
    refine bodyPost_ret (v := .tuple #[.agg #[.int .i64 0, .int .i64 0, .string ⟨#[]⟩, .slice none 0 0], .bool false]) ?_ rfl ?_
    · exact results_cell_tmp Tryd.results25 _ _ (w.heap.size + 1 + 1) _ _ rfl (four_row HZ0.out (.int .i64 0) (.int .i64 0) (.string ⟨#[]⟩) (.slice none 0 0)) Tryd.underlying25 size_term
    · exact csPost_no HNo.out (four_bel HB0.out (show w.heap.size ≤ w.heap.size + 1 + 1 by omega) _ _ _ _)
  cases hoa : termOk a
  · have HOa := hid hoa
    have HNo := hid (show condOk c a b = false by
      cases h : condOk c a b
      · rfl
      · rw [(cond_ok h).2.2.1] at hoa; cases hoa)
    have HDc := hid (show decide (0 ≤ c ∧ c ≤ 5) = true by simpa using hc)
    clear hc hoa
    go_enter Tryd.func25, Tryd.ntmps25
    go_wp2_with fail
    refine (C1.inRange_c _ _ _ _).mono ?_
    rintro e w' ⟨rfl, rfl⟩
    rw [HDc.out]
    go_wp2_with fail
    refine (validTerm_v HP.out (HA.out.on HB0.out) HWa.out HOa.out).mono ?_
    rintro e w1 ⟨rfl, hb1⟩
    have HB1 := hid (HB0.out.trans (hb1.mono HB0.out.size))
    have HZ1 := hid (HZ0.out.on hb1)
    clear hb1
    have r0 := HZ1.out.cell 0
    have r1 := HZ1.out.cell 1
    have r2 := HZ1.out.cell 2
    have r3 := HZ1.out.cell 3
    simp at r0 r1 r2 r3
    have hfr := HZ1.out.free
    go_wp2_with fail
    clear r0 r1 r2 r3 hfr
    refine bodyPost_ret (v := .tuple #[.agg #[.int .i64 0, .int .i64 0, .string ⟨#[]⟩, .slice none 0 0], .bool false]) ?_ rfl ?_
    · exact results_cell_tmp Tryd.results25 _ _ (w.heap.size + 1 + 1) _ _ rfl (four_row HZ1.out (.int .i64 0) (.int .i64 0) (.string ⟨#[]⟩) (.slice none 0 0)) Tryd.underlying25 size_term
    · exact csPost_no HNo.out (four_bel HB1.out (show w.heap.size ≤ w.heap.size + 1 + 1 by omega) _ _ _ _)
  cases hob : termOk b
  · have HOa := hid hoa
    have HOb := hid hob
    have HNo := hid (show condOk c a b = false by
      cases h : condOk c a b
      · rfl
      · rw [(cond_ok h).2.2.2] at hob; cases hob)
    have HDc := hid (show decide (0 ≤ c ∧ c ≤ 5) = true by simpa using hc)
    clear hc hoa hob
    go_enter Tryd.func25, Tryd.ntmps25
    go_wp2_with fail
    refine (C1.inRange_c _ _ _ _).mono ?_
    rintro e w' ⟨rfl, rfl⟩
    rw [HDc.out]
    go_wp2_with fail
    refine (validTerm_v HP.out (HA.out.on HB0.out) HWa.out HOa.out).mono ?_
    rintro e w1 ⟨rfl, hb1⟩
    have HB1 := hid (HB0.out.trans (hb1.mono HB0.out.size))
    have HY1 := hid (HY0.out.on hb1)
    have HZ1 := hid (HZ0.out.on hb1)
    clear hb1
    have e0 := HY1.out.cell 0
    have e1 := HY1.out.cell 1
    have e2 := HY1.out.cell 2
    have e3 := HY1.out.cell 3
    simp at e0 e1 e2 e3
    go_wp2_with fail
    refine (validTerm_v HQ.out (HB.out.on HB1.out) HWb.out HOb.out).mono ?_
    rintro e w2 ⟨rfl, hb2⟩
    have HB2 := hid (HB1.out.trans (hb2.mono HB1.out.size))
    have HZ2 := hid (HZ1.out.on hb2)
    clear hb2 e0 e1 e2 e3
    have r0 := HZ2.out.cell 0
    have r1 := HZ2.out.cell 1
    have r2 := HZ2.out.cell 2
    have r3 := HZ2.out.cell 3
    simp at r0 r1 r2 r3
    have hfr := HZ2.out.free
    go_wp2_with fail
    clear r0 r1 r2 r3 hfr
    refine bodyPost_ret (v := .tuple #[.agg #[.int .i64 0, .int .i64 0, .string ⟨#[]⟩, .slice none 0 0], .bool false]) ?_ rfl ?_
    · exact results_cell_tmp Tryd.results25 _ _ (w.heap.size + 1 + 1) _ _ rfl (four_row HZ2.out (.int .i64 0) (.int .i64 0) (.string ⟨#[]⟩) (.slice none 0 0)) Tryd.underlying25 size_term
    · exact csPost_no HNo.out (four_bel HB2.out (show w.heap.size ≤ w.heap.size + 1 + 1 by omega) _ _ _ _)
  have HOa := hid hoa
  have HOb := hid hob
  obtain ⟨q, hq3, r, hr2, hcq⟩ : ∃ q : Nat, q < 3 ∧ ∃ r : Nat, r < 2 ∧ c = 2 * (q : Int) + (r : Int) := ⟨c.toNat / 2, by omega, c.toNat % 2, by omega, by omega⟩
  have hc6 : c = 0 ∨ c = 1 ∨ c = 2 ∨ c = 3 ∨ c = 4 ∨ c = 5 := by omega
  clear hoa hob hc
  have hdv : c.tdiv 2 = (q : Int) := by rw [Int.tdiv_eq_ediv_of_nonneg (by omega)]; omega
  have hrm : c.tmod 2 = (r : Int) := by rw [Int.tmod_eq_emod_of_nonneg (by omega)]; omega
  obtain ⟨s, hs⟩ : ∃ s, condS q = s := ⟨_, rfl⟩
  have HS := hid hs
  have hc0 : 0 ≤ c := by omega
  have hc5 : c ≤ 5 := by omega
  have HCq := hid hcq
  clear hc6 hs hcq
  go_enter Tryd.func25, Tryd.ntmps25
  go_wp2_with fail
  refine (C1.inRange_c _ _ _ _).mono ?_
  rintro e w' ⟨rfl, rfl⟩
  have hdc : decide (0 ≤ c ∧ c ≤ 5) = true := by simp; omega
  rw [hdc]
  clear hdc
  go_wp2_with fail
  refine (validTerm_v HP.out (HA.out.on HB0.out) HWa.out HOa.out).mono ?_
  rintro e w1 ⟨rfl, hb1⟩
  have HB1 := hid (HB0.out.trans (hb1.mono HB0.out.size))
  have HX1 := hid (HX0.out.on hb1)
  have HY1 := hid (HY0.out.on hb1)
  have HZ1 := hid (HZ0.out.on hb1)
  clear hb1
  have e0 := HY1.out.cell 0
  have e1 := HY1.out.cell 1
  have e2 := HY1.out.cell 2
  have e3 := HY1.out.cell 3
  simp at e0 e1 e2 e3
  go_wp2_with fail
  refine (validTerm_v HQ.out (HB.out.on HB1.out) HWb.out HOb.out).mono ?_
  rintro e w2 ⟨rfl, hb2⟩
  have HB2 := hid (HB1.out.trans (hb2.mono HB1.out.size))
  have HX2 := hid (HX1.out.on hb2)
  have HY2 := hid (HY1.out.on hb2)
  have HZ2 := hid (HZ1.out.on hb2)
  have hz2 := HB2.out.size
  have hx2 := HX2.out.lt
  have hy2 := HY2.out.lt
  clear hb2 e0 e1 e2 e3
  have d0 := HX2.out.cell 0
  have d1 := HX2.out.cell 1
  have d2 := HX2.out.cell 2
  have d3 := HX2.out.cell 3
  have e0 := HY2.out.cell 0
  have e1 := HY2.out.cell 1
  have e2 := HY2.out.cell 2
  have e3 := HY2.out.cell 3
  simp at d0 d1 d2 d3 e0 e1 e2 e3
  have HSx := hid (fun (wx : World) (hbx : Below w2.heap.size w2 wx) => (show wx.cell? ⟨w.heap.size, 0, none⟩ = some (.int .i64 x0) ∧ wx.cell? ⟨w.heap.size, 1, none⟩ = some (.int .i64 x1) ∧ wx.cell? ⟨w.heap.size, 2, none⟩ = some (.string x2) ∧ wx.cell? ⟨w.heap.size, 3, none⟩ = some (.slice sa la ca) ∧ wx.cell? ⟨w.heap.size + 1, 0, none⟩ = some (.int .i64 y0) ∧ wx.cell? ⟨w.heap.size + 1, 1, none⟩ = some (.int .i64 y1) ∧ wx.cell? ⟨w.heap.size + 1, 2, none⟩ = some (.string y2) ∧ wx.cell? ⟨w.heap.size + 1, 3, none⟩ = some (.slice sb lb cb) from
    ⟨(hbx.cell (p := ⟨w.heap.size, 0, none⟩) hx2).trans d0, (hbx.cell (p := ⟨w.heap.size, 1, none⟩) hx2).trans d1, (hbx.cell (p := ⟨w.heap.size, 2, none⟩) hx2).trans d2, (hbx.cell (p := ⟨w.heap.size, 3, none⟩) hx2).trans d3,
      (hbx.cell (p := ⟨w.heap.size + 1, 0, none⟩) hy2).trans e0, (hbx.cell (p := ⟨w.heap.size + 1, 1, none⟩) hy2).trans e1, (hbx.cell (p := ⟨w.heap.size + 1, 2, none⟩) hy2).trans e2, (hbx.cell (p := ⟨w.heap.size + 1, 3, none⟩) hy2).trans e3⟩))
  have HLit := hid (show (#[Value.string ⟨#[61, 61]⟩, .string ⟨#[60]⟩, .string ⟨#[60, 60]⟩] : Array Value)[q]? = some (.string s) by
    rw [← HS.out]
    have h3 : q = 0 ∨ q = 1 ∨ q = 2 := by omega
    rcases h3 with rfl | rfl | rfl <;> rfl)
  have HBe0 := hid (Below.refl w2.heap.size w2).drew
  have HCa := hid (fun (wx : World) (hbx : Below w2.heap.size w2 wx) => copy_v HP.out ((HA.out.on HB2.out).on hbx) (by have := ok_wide HOa.out; omega))
  have HCb := hid (fun (wx : World) (hbx : Below w2.heap.size w2 wx) => copy_v HQ.out ((HB.out.on HB2.out).on hbx) (by have := ok_wide HOb.out; omega))
  have hz22 := HZ2.out.lt
  have HSx := hid (fun (wx : World) (hbx : Below w2.heap.size w2 wx) => (show wx.cell? ⟨w.heap.size, 0, none⟩ = some (.int .i64 x0) ∧ wx.cell? ⟨w.heap.size, 1, none⟩ = some (.int .i64 x1) ∧ wx.cell? ⟨w.heap.size, 2, none⟩ = some (.string x2) ∧ wx.cell? ⟨w.heap.size, 3, none⟩ = some (.slice sa la ca) ∧ wx.cell? ⟨w.heap.size + 1, 0, none⟩ = some (.int .i64 y0) ∧ wx.cell? ⟨w.heap.size + 1, 1, none⟩ = some (.int .i64 y1) ∧ wx.cell? ⟨w.heap.size + 1, 2, none⟩ = some (.string y2) ∧ wx.cell? ⟨w.heap.size + 1, 3, none⟩ = some (.slice sb lb cb) from
    ⟨(hbx.cell (p := ⟨w.heap.size, 0, none⟩) hx2).trans d0, (hbx.cell (p := ⟨w.heap.size, 1, none⟩) hx2).trans d1, (hbx.cell (p := ⟨w.heap.size, 2, none⟩) hx2).trans d2, (hbx.cell (p := ⟨w.heap.size, 3, none⟩) hx2).trans d3,
      (hbx.cell (p := ⟨w.heap.size + 1, 0, none⟩) hy2).trans e0, (hbx.cell (p := ⟨w.heap.size + 1, 1, none⟩) hy2).trans e1, (hbx.cell (p := ⟨w.heap.size + 1, 2, none⟩) hy2).trans e2, (hbx.cell (p := ⟨w.heap.size + 1, 3, none⟩) hy2).trans e3⟩))
  have HLit := hid (show (#[Value.string ⟨#[61, 61]⟩, .string ⟨#[60]⟩, .string ⟨#[60, 60]⟩] : Array Value)[q]? = some (.string s) by
    rw [← HS.out]
    have h3 : q = 0 ∨ q = 1 ∨ q = 2 := by omega
    rcases h3 with rfl | rfl | rfl <;> rfl)
  have HBe0 := hid (Below.refl w2.heap.size w2).drew
  have HCa := hid (fun (wx : World) (hbx : Below w2.heap.size w2 wx) => copy_v HP.out ((HA.out.on HB2.out).on hbx) (by have := ok_wide HOa.out; omega))
  have HCb := hid (fun (wx : World) (hbx : Below w2.heap.size w2 wx) => copy_v HQ.out ((HB.out.on HB2.out).on hbx) (by have := ok_wide HOb.out; omega))
  have hz22 := HZ2.out.lt
  have HSx := hid (fun (wx : World) (hbx : Below w2.heap.size w2 wx) => (show wx.cell? ⟨w.heap.size, 0, none⟩ = some (.int .i64 x0) ∧ wx.cell? ⟨w.heap.size, 1, none⟩ = some (.int .i64 x1) ∧ wx.cell? ⟨w.heap.size, 2, none⟩ = some (.string x2) ∧ wx.cell? ⟨w.heap.size, 3, none⟩ = some (.slice sa la ca) ∧ wx.cell? ⟨w.heap.size + 1, 0, none⟩ = some (.int .i64 y0) ∧ wx.cell? ⟨w.heap.size + 1, 1, none⟩ = some (.int .i64 y1) ∧ wx.cell? ⟨w.heap.size + 1, 2, none⟩ = some (.string y2) ∧ wx.cell? ⟨w.heap.size + 1, 3, none⟩ = some (.slice sb lb cb) from
    ⟨(hbx.cell (p := ⟨w.heap.size, 0, none⟩) hx2).trans d0, (hbx.cell (p := ⟨w.heap.size, 1, none⟩) hx2).trans d1, (hbx.cell (p := ⟨w.heap.size, 2, none⟩) hx2).trans d2, (hbx.cell (p := ⟨w.heap.size, 3, none⟩) hx2).trans d3,
      (hbx.cell (p := ⟨w.heap.size + 1, 0, none⟩) hy2).trans e0, (hbx.cell (p := ⟨w.heap.size + 1, 1, none⟩) hy2).trans e1, (hbx.cell (p := ⟨w.heap.size + 1, 2, none⟩) hy2).trans e2, (hbx.cell (p := ⟨w.heap.size + 1, 3, none⟩) hy2).trans e3⟩))
  have HLit := hid (show (#[Value.string ⟨#[61, 61]⟩, .string ⟨#[60]⟩, .string ⟨#[60, 60]⟩] : Array Value)[q]? = some (.string s) by
    rw [← HS.out]
    have h3 : q = 0 ∨ q = 1 ∨ q = 2 := by omega
    rcases h3 with rfl | rfl | rfl <;> rfl)
  have HBe0 := hid (Below.refl w2.heap.size w2).drew
  have HCa := hid (fun (wx : World) (hbx : Below w2.heap.size w2 wx) => copy_v HP.out ((HA.out.on HB2.out).on hbx) (by have := ok_wide HOa.out; omega))
  have HCb := hid (fun (wx : World) (hbx : Below w2.heap.size w2 wx) => copy_v HQ.out ((HB.out.on HB2.out).on hbx) (by have := ok_wide HOb.out; omega))
  have hz22 := HZ2.out.lt
  have HSx := hid (fun (wx : World) (hbx : Below w2.heap.size w2 wx) => (show wx.cell? ⟨w.heap.size, 0, none⟩ = some (.int .i64 x0) ∧ wx.cell? ⟨w.heap.size, 1, none⟩ = some (.int .i64 x1) ∧ wx.cell? ⟨w.heap.size, 2, none⟩ = some (.string x2) ∧ wx.cell? ⟨w.heap.size, 3, none⟩ = some (.slice sa la ca) ∧ wx.cell? ⟨w.heap.size + 1, 0, none⟩ = some (.int .i64 y0) ∧ wx.cell? ⟨w.heap.size + 1, 1, none⟩ = some (.int .i64 y1) ∧ wx.cell? ⟨w.heap.size + 1, 2, none⟩ = some (.string y2) ∧ wx.cell? ⟨w.heap.size + 1, 3, none⟩ = some (.slice sb lb cb) from
    ⟨(hbx.cell (p := ⟨w.heap.size, 0, none⟩) hx2).trans d0, (hbx.cell (p := ⟨w.heap.size, 1, none⟩) hx2).trans d1, (hbx.cell (p := ⟨w.heap.size, 2, none⟩) hx2).trans d2, (hbx.cell (p := ⟨w.heap.size, 3, none⟩) hx2).trans d3,
      (hbx.cell (p := ⟨w.heap.size + 1, 0, none⟩) hy2).trans e0, (hbx.cell (p := ⟨w.heap.size + 1, 1, none⟩) hy2).trans e1, (hbx.cell (p := ⟨w.heap.size + 1, 2, none⟩) hy2).trans e2, (hbx.cell (p := ⟨w.heap.size + 1, 3, none⟩) hy2).trans e3⟩))
  have HLit := hid (show (#[Value.string ⟨#[61, 61]⟩, .string ⟨#[60]⟩, .string ⟨#[60, 60]⟩] : Array Value)[q]? = some (.string s) by
    rw [← HS.out]
    have h3 : q = 0 ∨ q = 1 ∨ q = 2 := by omega
    rcases h3 with rfl | rfl | rfl <;> rfl)
  have HBe0 := hid (Below.refl w2.heap.size w2).drew
  have HCa := hid (fun (wx : World) (hbx : Below w2.heap.size w2 wx) => copy_v HP.out ((HA.out.on HB2.out).on hbx) (by have := ok_wide HOa.out; omega))
  have HCb := hid (fun (wx : World) (hbx : Below w2.heap.size w2 wx) => copy_v HQ.out ((HB.out.on HB2.out).on hbx) (by have := ok_wide HOb.out; omega))
  have hz22 := HZ2.out.lt
  have HSx := hid (fun (wx : World) (hbx : Below w2.heap.size w2 wx) => (show wx.cell? ⟨w.heap.size, 0, none⟩ = some (.int .i64 x0) ∧ wx.cell? ⟨w.heap.size, 1, none⟩ = some (.int .i64 x1) ∧ wx.cell? ⟨w.heap.size, 2, none⟩ = some (.string x2) ∧ wx.cell? ⟨w.heap.size, 3, none⟩ = some (.slice sa la ca) ∧ wx.cell? ⟨w.heap.size + 1, 0, none⟩ = some (.int .i64 y0) ∧ wx.cell? ⟨w.heap.size + 1, 1, none⟩ = some (.int .i64 y1) ∧ wx.cell? ⟨w.heap.size + 1, 2, none⟩ = some (.string y2) ∧ wx.cell? ⟨w.heap.size + 1, 3, none⟩ = some (.slice sb lb cb) from
    ⟨(hbx.cell (p := ⟨w.heap.size, 0, none⟩) hx2).trans d0, (hbx.cell (p := ⟨w.heap.size, 1, none⟩) hx2).trans d1, (hbx.cell (p := ⟨w.heap.size, 2, none⟩) hx2).trans d2, (hbx.cell (p := ⟨w.heap.size, 3, none⟩) hx2).trans d3,
      (hbx.cell (p := ⟨w.heap.size + 1, 0, none⟩) hy2).trans e0, (hbx.cell (p := ⟨w.heap.size + 1, 1, none⟩) hy2).trans e1, (hbx.cell (p := ⟨w.heap.size + 1, 2, none⟩) hy2).trans e2, (hbx.cell (p := ⟨w.heap.size + 1, 3, none⟩) hy2).trans e3⟩))
  have HLit := hid (show (#[Value.string ⟨#[61, 61]⟩, .string ⟨#[60]⟩, .string ⟨#[60, 60]⟩] : Array Value)[q]? = some (.string s) by
    rw [← HS.out]
    have h3 : q = 0 ∨ q = 1 ∨ q = 2 := by omega
    rcases h3 with rfl | rfl | rfl <;> rfl)
  have HBe0 := hid (Below.refl w2.heap.size w2).drew
  have HCa := hid (fun (wx : World) (hbx : Below w2.heap.size w2 wx) => copy_v HP.out ((HA.out.on HB2.out).on hbx) (by have := ok_wide HOa.out; omega))
  have HCb := hid (fun (wx : World) (hbx : Below w2.heap.size w2 wx) => copy_v HQ.out ((HB.out.on HB2.out).on hbx) (by have := ok_wide HOb.out; omega))
  have hz22 := HZ2.out.lt
  have HSx := hid (fun (wx : World) (hbx : Below w2.heap.size w2 wx) => (show wx.cell? ⟨w.heap.size, 0, none⟩ = some (.int .i64 x0) ∧ wx.cell? ⟨w.heap.size, 1, none⟩ = some (.int .i64 x1) ∧ wx.cell? ⟨w.heap.size, 2, none⟩ = some (.string x2) ∧ wx.cell? ⟨w.heap.size, 3, none⟩ = some (.slice sa la ca) ∧ wx.cell? ⟨w.heap.size + 1, 0, none⟩ = some (.int .i64 y0) ∧ wx.cell? ⟨w.heap.size + 1, 1, none⟩ = some (.int .i64 y1) ∧ wx.cell? ⟨w.heap.size + 1, 2, none⟩ = some (.string y2) ∧ wx.cell? ⟨w.heap.size + 1, 3, none⟩ = some (.slice sb lb cb) from
    ⟨(hbx.cell (p := ⟨w.heap.size, 0, none⟩) hx2).trans d0, (hbx.cell (p := ⟨w.heap.size, 1, none⟩) hx2).trans d1, (hbx.cell (p := ⟨w.heap.size, 2, none⟩) hx2).trans d2, (hbx.cell (p := ⟨w.heap.size, 3, none⟩) hx2).trans d3,
      (hbx.cell (p := ⟨w.heap.size + 1, 0, none⟩) hy2).trans e0, (hbx.cell (p := ⟨w.heap.size + 1, 1, none⟩) hy2).trans e1, (hbx.cell (p := ⟨w.heap.size + 1, 2, none⟩) hy2).trans e2, (hbx.cell (p := ⟨w.heap.size + 1, 3, none⟩) hy2).trans e3⟩))
  have HLit := hid (show (#[Value.string ⟨#[61, 61]⟩, .string ⟨#[60]⟩, .string ⟨#[60, 60]⟩] : Array Value)[q]? = some (.string s) by
    rw [← HS.out]
    have h3 : q = 0 ∨ q = 1 ∨ q = 2 := by omega
    rcases h3 with rfl | rfl | rfl <;> rfl)
  have HBe0 := hid (Below.refl w2.heap.size w2).drew
  have HCa := hid (fun (wx : World) (hbx : Below w2.heap.size w2 wx) => copy_v HP.out ((HA.out.on HB2.out).on hbx) (by have := ok_wide HOa.out; omega))
  have HCb := hid (fun (wx : World) (hbx : Below w2.heap.size w2 wx) => copy_v HQ.out ((HB.out.on HB2.out).on hbx) (by have := ok_wide HOb.out; omega))
  have hz22 := HZ2.out.lt
  have HSx := hid (fun (wx : World) (hbx : Below w2.heap.size w2 wx) => (show wx.cell? ⟨w.heap.size, 0, none⟩ = some (.int .i64 x0) ∧ wx.cell? ⟨w.heap.size, 1, none⟩ = some (.int .i64 x1) ∧ wx.cell? ⟨w.heap.size, 2, none⟩ = some (.string x2) ∧ wx.cell? ⟨w.heap.size, 3, none⟩ = some (.slice sa la ca) ∧ wx.cell? ⟨w.heap.size + 1, 0, none⟩ = some (.int .i64 y0) ∧ wx.cell? ⟨w.heap.size + 1, 1, none⟩ = some (.int .i64 y1) ∧ wx.cell? ⟨w.heap.size + 1, 2, none⟩ = some (.string y2) ∧ wx.cell? ⟨w.heap.size + 1, 3, none⟩ = some (.slice sb lb cb) from
    ⟨(hbx.cell (p := ⟨w.heap.size, 0, none⟩) hx2).trans d0, (hbx.cell (p := ⟨w.heap.size, 1, none⟩) hx2).trans d1, (hbx.cell (p := ⟨w.heap.size, 2, none⟩) hx2).trans d2, (hbx.cell (p := ⟨w.heap.size, 3, none⟩) hx2).trans d3,
      (hbx.cell (p := ⟨w.heap.size + 1, 0, none⟩) hy2).trans e0, (hbx.cell (p := ⟨w.heap.size + 1, 1, none⟩) hy2).trans e1, (hbx.cell (p := ⟨w.heap.size + 1, 2, none⟩) hy2).trans e2, (hbx.cell (p := ⟨w.heap.size + 1, 3, none⟩) hy2).trans e3⟩))
  have HLit := hid (show (#[Value.string ⟨#[61, 61]⟩, .string ⟨#[60]⟩, .string ⟨#[60, 60]⟩] : Array Value)[q]? = some (.string s) by
    rw [← HS.out]
    have h3 : q = 0 ∨ q = 1 ∨ q = 2 := by omega
    rcases h3 with rfl | rfl | rfl <;> rfl)
  have HBe0 := hid (Below.refl w2.heap.size w2).drew
  have HCa := hid (fun (wx : World) (hbx : Below w2.heap.size w2 wx) => copy_v HP.out ((HA.out.on HB2.out).on hbx) (by have := ok_wide HOa.out; omega))
  have HCb := hid (fun (wx : World) (hbx : Below w2.heap.size w2 wx) => copy_v HQ.out ((HB.out.on HB2.out).on hbx) (by have := ok_wide HOb.out; omega))
  have hz22 := HZ2.out.lt
  go_upto_region 3 with fail
  clear d0 d1 d2 d3 e0 e1 e2 e3
  go_cut [8] (fun v8 wx => ∃ (g : Nat) (sv : Option Addr) (cv : Nat), v8 = .pointer (some ⟨g, 0, none⟩) ∧ w.heap.size + 2 < g ∧ Row wx g 25 #[.int .i64 2, .int .i64 0, .string s, .slice sv 2 cv] ∧ (∀ w' : World, wx.heap.size ≤ w'.heap.size → (∀ k, w.heap.size ≤ k → k < wx.heap.size → k ≠ g → k ≠ w.heap.size + 1 + 1 → w'.heap[k]? = wx.heap[k]?) → KRd w' (n + 1) (.slice sv 2 cv) [a, b]) ∧ Row wx (w.heap.size + 1 + 1) 25 #[.int .i64 0, .int .i64 0, .string ⟨#[]⟩, .slice none 0 0] ∧ Below w.heap.size w wx)
  case first =>
    have hwq : IntKind.i64.wrap (q : Int) = (q : Int) := IntWalk.i64_in _ (by omega)
    have hq0 : 0 ≤ (q : Int) := by omega
    have hq3i : (q : Int) < 3 := by omega
    refine wp_region_held_drew (S := fun w' => w'.cell? ⟨w.heap.size, 0, none⟩ = some (.int .i64 x0) ∧ w'.cell? ⟨w.heap.size, 1, none⟩ = some (.int .i64 x1) ∧ w'.cell? ⟨w.heap.size, 2, none⟩ = some (.string x2) ∧ w'.cell? ⟨w.heap.size, 3, none⟩ = some (.slice sa la ca) ∧ w'.cell? ⟨w.heap.size + 1, 0, none⟩ = some (.int .i64 y0) ∧ w'.cell? ⟨w.heap.size + 1, 1, none⟩ = some (.int .i64 y1) ∧ w'.cell? ⟨w.heap.size + 1, 2, none⟩ = some (.string y2) ∧ w'.cell? ⟨w.heap.size + 1, 3, none⟩ = some (.slice sb lb cb)) (by kernel_rfl) (HSx.out _ HBe0.out) (fun hHeld => ?_)
    refine wpAnyH_take (i := 1) (v := _) rfl (by kernel_rfl) (by kernel_rfl) (by kernel_rfl) (fun _ _ _ h => h) (Or.inl ⟨by rfl, by (intro w hSw; (try dsimp only at hSw); go_simp; first | done | with_reducible rfl)⟩) hHeld ?_
    (try simp only [Act.put, List.setIfInBounds_toArray, List.set_cons_zero, List.set_cons_succ])
    refine wpAnyH_take (i := 2) (v := _) rfl (by kernel_rfl) (by kernel_rfl) (by kernel_rfl) (fun _ _ _ h => h) (Or.inl ⟨by rfl, by (intro w hSw; (try dsimp only at hSw); go_simp; first | done | with_reducible rfl)⟩) hHeld ?_
    (try simp only [Act.put, List.setIfInBounds_toArray, List.set_cons_zero, List.set_cons_succ])
    refine wpAnyH_take (i := 5) (v := _) rfl (by kernel_rfl) (by kernel_rfl) (by kernel_rfl) (fun _ _ _ h => h) (Or.inl ⟨by rfl, by (intro w hSw; (try dsimp only at hSw); go_simp; first | done | with_reducible rfl)⟩) hHeld ?_
    (try simp only [Act.put, List.setIfInBounds_toArray, List.set_cons_zero, List.set_cons_succ])
    refine wpAnyH_take (i := 7) (v := _) rfl (by kernel_rfl) (by kernel_rfl) (by kernel_rfl) (fun _ _ _ h => h) (Or.inl ⟨by rfl, by (intro w hSw; (try dsimp only at hSw); go_simp; first | done | with_reducible rfl)⟩) hHeld ?_
    (try simp only [Act.put, List.setIfInBounds_toArray, List.set_cons_zero, List.set_cons_succ])
    generalize w2.drew = wz0 at HBe0 hHeld ⊢
    refine wpAnyH_ready (rs := [0, 6, 10]) (by kernel_rfl) (by simp) ?_
    refine AllReadyH.cons rfl (fun K hK => ?_) ?_
    · go_simp
      refine hK.out _ _ (HSx.out _ (HBe0.out.alloc HBe0.out.size _)) (fun hHeld => ?_)
      clear hK K
      (try simp only [Act.put, List.setIfInBounds_toArray, List.set_cons_zero, List.set_cons_succ])
      have hal := (Below.refl wz0.heap.size wz0).alloc (Nat.le_refl _) (.cells #[.string ⟨#[61, 61]⟩, .string ⟨#[60]⟩, .string ⟨#[60, 60]⟩] 9)
      have HBe1 := hid (HBe0.out.trans (hal.mono HBe0.out.size))
      have HSz1 := hid (show wz0.heap.size < (wz0.alloc (.cells #[.string ⟨#[61, 61]⟩, .string ⟨#[60]⟩, .string ⟨#[60, 60]⟩] 9)).heap.size by simp)
      have kl1 := lit_cell wz0 q s HLit.out
      have hgl1 : wz0.heap.size < (wz0.alloc (.cells #[.string ⟨#[61, 61]⟩, .string ⟨#[60]⟩, .string ⟨#[60, 60]⟩] 9)).heap.size := by simp
      clear hal 
      generalize wz0.alloc (.cells #[.string ⟨#[61, 61]⟩, .string ⟨#[60]⟩, .string ⟨#[60, 60]⟩] 9) = wz1 at HBe1 kl1 hgl1 HSz1 hHeld ⊢
      refine wpAnyH_take (i := 3) (v := _) rfl (by kernel_rfl) (by kernel_rfl) (by kernel_rfl) (fun _ _ _ h => h) (Or.inl ⟨by rfl, by (intro w hSw; go_simp; first | done | with_reducible rfl)⟩) hHeld ?_
      (try simp only [Act.put, List.setIfInBounds_toArray, List.set_cons_zero, List.set_cons_succ])
      refine wpAnyH_ready (rs := [4, 6, 10]) (by kernel_rfl) (by simp) ?_
      refine AllReadyH.cons rfl (fun K hK => ?_) ?_
      · go_simp
        refine hK.out _ _ hHeld (fun _ => ?_)
        clear hK K kl1 hgl1
        (try simp only [Act.put, List.setIfInBounds_toArray, List.set_cons_zero, List.set_cons_succ])
        refine wpAnyH_ready (rs := [6, 10]) (by kernel_rfl) (by simp) ?_
        refine AllReadyH.cons rfl (fun K hK => ?_) ?_
        · go_simp
          go_at_call 64
          refine (HCa.out _ HBe1.out).mono ?_
          rintro e wz2 ⟨sA, cA, rfl, hown, hbx⟩
          simp only
          have HBe2 := hid (HBe1.out.trans (hbx.mono HBe1.out.size))
          have HSz2 := hid hbx.size
          have HOA2 := hid hown
          refine hK.out _ _ (HSx.out _ HBe2.out) (fun hHeld => ?_)
          clear hK K hown hbx 
          (try simp only [Act.put, List.setIfInBounds_toArray, List.set_cons_zero, List.set_cons_succ])
          refine wpAnyH_ready (rs := [8, 10]) (by kernel_rfl) (by simp) ?_
          refine AllReadyH.cons rfl (fun K hK => ?_) ?_
          · go_simp
            go_at_call 64
            refine (HCb.out _ HBe2.out).mono ?_
            rintro e wz3 ⟨sB, cB, rfl, hown, hbx⟩
            simp only
            have HBe3 := hid (HBe2.out.trans (hbx.mono HBe2.out.size))
            have HSz3 := hid hbx.size
            have HOA3 := hid (HOA2.out.on hbx)
            have HOB3 := hid hown
            refine hK.out _ _ (HSx.out _ HBe3.out) (fun hHeld => ?_)
            clear hK K hown hbx HOA2
            (try simp only [Act.put, List.setIfInBounds_toArray, List.set_cons_zero, List.set_cons_succ])
            refine wpAnyH_ready (rs := [9, 10]) (by kernel_rfl) (by simp) ?_
            refine AllReadyH.cons rfl (fun K hK => ?_) ?_
            · go_simp
              go_at_call 63
              refine (bin_v HP.out HQ.out _ _ _ _).mono ?_
              rintro e wz4 ⟨sC, cC, rfl, hown, hbx⟩
              simp only
              have HBe4 := hid (HBe3.out.trans (hbx.mono HBe3.out.size))
              have HSz4 := hid hbx.size
              have HOA4 := hid (HOA3.out.on hbx)
              have HOB4 := hid (HOB3.out.on hbx)
              have HC4 := hid hown
              have HCl := hid (fun r hr => hown.lt r hr)
              refine hK.out _ _ (HSx.out _ HBe4.out) (fun hHeld => ?_)
              clear hK K hown hbx HOA3 HOB3
              (try simp only [Act.put, List.setIfInBounds_toArray, List.set_cons_zero, List.set_cons_succ])
              refine wpAnyH_ready (rs := [10]) (by kernel_rfl) (by simp) ?_
              refine AllReadyH.cons rfl (fun K hK => ?_) ?_
              · go_simp
                refine hK.out _ _ (HSx.out _ (HBe4.out.alloc HBe4.out.size _)) (fun hHeld => ?_)
                clear hK K
                (try simp only [Act.put, List.setIfInBounds_toArray, List.set_cons_zero, List.set_cons_succ])
                have hal := (Below.refl wz4.heap.size wz4).alloc (Nat.le_refl _) (.cells #[.int .i64 0, .int .i64 0, .string ⟨#[]⟩, .slice none 0 0] 25)
                have HBe5 := hid (HBe4.out.trans (hal.mono HBe4.out.size))
                have HSz5 := hid (show wz4.heap.size < (wz4.alloc (.cells #[.int .i64 0, .int .i64 0, .string ⟨#[]⟩, .slice none 0 0] 25)).heap.size by simp)
                have HOA5 := hid (HOA4.out.on hal)
                have HOB5 := hid (HOB4.out.on hal)
                have HC5 := hid (own_on HC4.out hal)
                have HN5 := hid (Row.new wz4 25 #[.int .i64 0, .int .i64 0, .string ⟨#[]⟩, .slice none 0 0])
                clear hal HOA4 HOB4 HC4
                generalize wz4.alloc (.cells #[.int .i64 0, .int .i64 0, .string ⟨#[]⟩, .slice none 0 0] 25) = wz5 at HBe5 HOA5 HOB5 HN5 HC5 HSz5 hHeld ⊢
                refine wpAnyH_ready (rs := [11]) (by kernel_rfl) (by simp) ?_
                refine AllReadyH.cons rfl (fun K hK => ?_) ?_
                · have n0 := HN5.out.cell 0
                  have n1 := HN5.out.cell 1
                  have n2 := HN5.out.cell 2
                  have n3 := HN5.out.cell 3
                  simp at n0 n1 n2 n3
                  have hnf := HN5.out.free
                  have hnl := HN5.out.lt
                  go_simp
                  have hgn := HBe4.out.size
                  refine hK.out _ _ (HSx.out _ (four_bel HBe5.out hgn _ _ _ _)) (fun hHeld => ?_)
                  clear hK K
                  (try simp only [Act.put, List.setIfInBounds_toArray, List.set_cons_zero, List.set_cons_succ])
                  refine wpAnyH_done (by kernel_rfl) ?_ _
                  clear n0 n1 n2 n3 hnf hHeld hwq
                  go_wp2_with fail
                  go_meet
                  have hs0 := HBe0.out.size
                  have hs1 := HSz1.out
                  have hs2 := HSz2.out
                  have hs3 := HSz3.out
                  have hs4 := HSz4.out
                  have hs5 := HSz5.out
                  refine ⟨wz4.heap.size, sC, cC, rfl, by omega, four_row HN5.out _ _ _ _, ?_, ?_, four_bel (HB2.out.trans (HBe5.out.mono HB2.out.size)) (by omega) _ _ _ _⟩
                  · exact fun w' hz' hk' => made_bin (own_same HC5.out (fun r hr => (hk' r (by have := HCl.out r hr; omega) (by rw [four_size]; exact (HC5.out.lt r hr).2) (by have := HCl.out r hr; omega) (by have := HCl.out r hr; omega)).trans (four_far _ _ _ (by have := HCl.out r hr; omega) _ _ _ _ _ _ _ _))) (HOA5.out.keep (fun b h1 h2 h3 => (hk' b (by omega) (by rw [four_size]; exact h3) (by omega) (by omega)).trans (four_far _ _ _ (by omega) _ _ _ _ _ _ _ _))).rd (HOB5.out.keep (fun b h1 h2 h3 => (hk' b (by omega) (by rw [four_size]; exact h3) (by omega) (by omega)).trans (four_far _ _ _ (by omega) _ _ _ _ _ _ _ _))).rd
                  · exact row_four (HZ2.out.below HBe5.out HZ2.out.lt) (by omega) _ _ _ _
                exact AllReadyH.nil
              exact AllReadyH.nil
            refine AllReadyH.cons rfl (fun K hK => ?_) ?_
            · go_simp
              refine hK.out _ _ (HSx.out _ (HBe3.out.alloc HBe3.out.size _)) (fun hHeld => ?_)
              clear hK K
              (try simp only [Act.put, List.setIfInBounds_toArray, List.set_cons_zero, List.set_cons_succ])
              have hal := (Below.refl wz3.heap.size wz3).alloc (Nat.le_refl _) (.cells #[.int .i64 0, .int .i64 0, .string ⟨#[]⟩, .slice none 0 0] 25)
              have HBe4 := hid (HBe3.out.trans (hal.mono HBe3.out.size))
              have HSz4 := hid (show wz3.heap.size < (wz3.alloc (.cells #[.int .i64 0, .int .i64 0, .string ⟨#[]⟩, .slice none 0 0] 25)).heap.size by simp)
              have HOA4 := hid (HOA3.out.on hal)
              have HOB4 := hid (HOB3.out.on hal)
              have HN4 := hid (Row.new wz3 25 #[.int .i64 0, .int .i64 0, .string ⟨#[]⟩, .slice none 0 0])
              clear hal HOA3 HOB3
              generalize wz3.alloc (.cells #[.int .i64 0, .int .i64 0, .string ⟨#[]⟩, .slice none 0 0] 25) = wz4 at HBe4 HOA4 HOB4 HN4 HSz4 hHeld ⊢
              refine wpAnyH_ready (rs := [9]) (by kernel_rfl) (by simp) ?_
              refine AllReadyH.cons rfl (fun K hK => ?_) ?_
              · go_simp
                go_at_call 63
                refine (bin_v HP.out HQ.out _ _ _ _).mono ?_
                rintro e wz5 ⟨sC, cC, rfl, hown, hbx⟩
                simp only
                have HBe5 := hid (HBe4.out.trans (hbx.mono HBe4.out.size))
                have HSz5 := hid hbx.size
                have HOA5 := hid (HOA4.out.on hbx)
                have HOB5 := hid (HOB4.out.on hbx)
                have HN5 := hid (HN4.out.on hbx)
                have HC5 := hid hown
                have HCl := hid (fun r hr => hown.lt r hr)
                refine hK.out _ _ (HSx.out _ HBe5.out) (fun hHeld => ?_)
                clear hK K hown hbx HOA4 HOB4 HN4
                (try simp only [Act.put, List.setIfInBounds_toArray, List.set_cons_zero, List.set_cons_succ])
                refine wpAnyH_ready (rs := [11]) (by kernel_rfl) (by simp) ?_
                refine AllReadyH.cons rfl (fun K hK => ?_) ?_
                · have n0 := HN5.out.cell 0
                  have n1 := HN5.out.cell 1
                  have n2 := HN5.out.cell 2
                  have n3 := HN5.out.cell 3
                  simp at n0 n1 n2 n3
                  have hnf := HN5.out.free
                  have hnl := HN5.out.lt
                  go_simp
                  have hgn := HBe3.out.size
                  refine hK.out _ _ (HSx.out _ (four_bel HBe5.out hgn _ _ _ _)) (fun hHeld => ?_)
                  clear hK K
                  (try simp only [Act.put, List.setIfInBounds_toArray, List.set_cons_zero, List.set_cons_succ])
                  refine wpAnyH_done (by kernel_rfl) ?_ _
                  clear n0 n1 n2 n3 hnf hHeld hwq
                  go_wp2_with fail
                  go_meet
                  have hs0 := HBe0.out.size
                  have hs1 := HSz1.out
                  have hs2 := HSz2.out
                  have hs3 := HSz3.out
                  have hs4 := HSz4.out
                  have hs5 := HSz5.out
                  refine ⟨wz3.heap.size, sC, cC, rfl, by omega, four_row HN5.out _ _ _ _, ?_, ?_, four_bel (HB2.out.trans (HBe5.out.mono HB2.out.size)) (by omega) _ _ _ _⟩
                  · exact fun w' hz' hk' => made_bin (own_same HC5.out (fun r hr => (hk' r (by have := HCl.out r hr; omega) (by rw [four_size]; exact (HC5.out.lt r hr).2) (by have := HCl.out r hr; omega) (by have := HCl.out r hr; omega)).trans (four_far _ _ _ (by have := HCl.out r hr; omega) _ _ _ _ _ _ _ _))) (HOA5.out.keep (fun b h1 h2 h3 => (hk' b (by omega) (by rw [four_size]; exact h3) (by omega) (by omega)).trans (four_far _ _ _ (by omega) _ _ _ _ _ _ _ _))).rd (HOB5.out.keep (fun b h1 h2 h3 => (hk' b (by omega) (by rw [four_size]; exact h3) (by omega) (by omega)).trans (four_far _ _ _ (by omega) _ _ _ _ _ _ _ _))).rd
                  · exact row_four (HZ2.out.below HBe5.out HZ2.out.lt) (by omega) _ _ _ _
                exact AllReadyH.nil
              exact AllReadyH.nil
            exact AllReadyH.nil
          refine AllReadyH.cons rfl (fun K hK => ?_) ?_
          · go_simp
            refine hK.out _ _ (HSx.out _ (HBe2.out.alloc HBe2.out.size _)) (fun hHeld => ?_)
            clear hK K
            (try simp only [Act.put, List.setIfInBounds_toArray, List.set_cons_zero, List.set_cons_succ])
            have hal := (Below.refl wz2.heap.size wz2).alloc (Nat.le_refl _) (.cells #[.int .i64 0, .int .i64 0, .string ⟨#[]⟩, .slice none 0 0] 25)
            have HBe3 := hid (HBe2.out.trans (hal.mono HBe2.out.size))
            have HSz3 := hid (show wz2.heap.size < (wz2.alloc (.cells #[.int .i64 0, .int .i64 0, .string ⟨#[]⟩, .slice none 0 0] 25)).heap.size by simp)
            have HOA3 := hid (HOA2.out.on hal)
            have HN3 := hid (Row.new wz2 25 #[.int .i64 0, .int .i64 0, .string ⟨#[]⟩, .slice none 0 0])
            clear hal HOA2
            generalize wz2.alloc (.cells #[.int .i64 0, .int .i64 0, .string ⟨#[]⟩, .slice none 0 0] 25) = wz3 at HBe3 HOA3 HN3 HSz3 hHeld ⊢
            refine wpAnyH_ready (rs := [8]) (by kernel_rfl) (by simp) ?_
            refine AllReadyH.cons rfl (fun K hK => ?_) ?_
            · go_simp
              go_at_call 64
              refine (HCb.out _ HBe3.out).mono ?_
              rintro e wz4 ⟨sB, cB, rfl, hown, hbx⟩
              simp only
              have HBe4 := hid (HBe3.out.trans (hbx.mono HBe3.out.size))
              have HSz4 := hid hbx.size
              have HOA4 := hid (HOA3.out.on hbx)
              have HN4 := hid (HN3.out.on hbx)
              have HOB4 := hid hown
              refine hK.out _ _ (HSx.out _ HBe4.out) (fun hHeld => ?_)
              clear hK K hown hbx HOA3 HN3
              (try simp only [Act.put, List.setIfInBounds_toArray, List.set_cons_zero, List.set_cons_succ])
              refine wpAnyH_ready (rs := [9]) (by kernel_rfl) (by simp) ?_
              refine AllReadyH.cons rfl (fun K hK => ?_) ?_
              · go_simp
                go_at_call 63
                refine (bin_v HP.out HQ.out _ _ _ _).mono ?_
                rintro e wz5 ⟨sC, cC, rfl, hown, hbx⟩
                simp only
                have HBe5 := hid (HBe4.out.trans (hbx.mono HBe4.out.size))
                have HSz5 := hid hbx.size
                have HOA5 := hid (HOA4.out.on hbx)
                have HOB5 := hid (HOB4.out.on hbx)
                have HN5 := hid (HN4.out.on hbx)
                have HC5 := hid hown
                have HCl := hid (fun r hr => hown.lt r hr)
                refine hK.out _ _ (HSx.out _ HBe5.out) (fun hHeld => ?_)
                clear hK K hown hbx HOA4 HOB4 HN4
                (try simp only [Act.put, List.setIfInBounds_toArray, List.set_cons_zero, List.set_cons_succ])
                refine wpAnyH_ready (rs := [11]) (by kernel_rfl) (by simp) ?_
                refine AllReadyH.cons rfl (fun K hK => ?_) ?_
                · have n0 := HN5.out.cell 0
                  have n1 := HN5.out.cell 1
                  have n2 := HN5.out.cell 2
                  have n3 := HN5.out.cell 3
                  simp at n0 n1 n2 n3
                  have hnf := HN5.out.free
                  have hnl := HN5.out.lt
                  go_simp
                  have hgn := HBe2.out.size
                  refine hK.out _ _ (HSx.out _ (four_bel HBe5.out hgn _ _ _ _)) (fun hHeld => ?_)
                  clear hK K
                  (try simp only [Act.put, List.setIfInBounds_toArray, List.set_cons_zero, List.set_cons_succ])
                  refine wpAnyH_done (by kernel_rfl) ?_ _
                  clear n0 n1 n2 n3 hnf hHeld hwq
                  go_wp2_with fail
                  go_meet
                  have hs0 := HBe0.out.size
                  have hs1 := HSz1.out
                  have hs2 := HSz2.out
                  have hs3 := HSz3.out
                  have hs4 := HSz4.out
                  have hs5 := HSz5.out
                  refine ⟨wz2.heap.size, sC, cC, rfl, by omega, four_row HN5.out _ _ _ _, ?_, ?_, four_bel (HB2.out.trans (HBe5.out.mono HB2.out.size)) (by omega) _ _ _ _⟩
                  · exact fun w' hz' hk' => made_bin (own_same HC5.out (fun r hr => (hk' r (by have := HCl.out r hr; omega) (by rw [four_size]; exact (HC5.out.lt r hr).2) (by have := HCl.out r hr; omega) (by have := HCl.out r hr; omega)).trans (four_far _ _ _ (by have := HCl.out r hr; omega) _ _ _ _ _ _ _ _))) (HOA5.out.keep (fun b h1 h2 h3 => (hk' b (by omega) (by rw [four_size]; exact h3) (by omega) (by omega)).trans (four_far _ _ _ (by omega) _ _ _ _ _ _ _ _))).rd (HOB5.out.keep (fun b h1 h2 h3 => (hk' b (by omega) (by rw [four_size]; exact h3) (by omega) (by omega)).trans (four_far _ _ _ (by omega) _ _ _ _ _ _ _ _))).rd
                  · exact row_four (HZ2.out.below HBe5.out HZ2.out.lt) (by omega) _ _ _ _
                exact AllReadyH.nil
              exact AllReadyH.nil
            exact AllReadyH.nil
          exact AllReadyH.nil
        refine AllReadyH.cons rfl (fun K hK => ?_) ?_
        · go_simp
          refine hK.out _ _ (HSx.out _ (HBe1.out.alloc HBe1.out.size _)) (fun hHeld => ?_)
          clear hK K
          (try simp only [Act.put, List.setIfInBounds_toArray, List.set_cons_zero, List.set_cons_succ])
          have hal := (Below.refl wz1.heap.size wz1).alloc (Nat.le_refl _) (.cells #[.int .i64 0, .int .i64 0, .string ⟨#[]⟩, .slice none 0 0] 25)
          have HBe2 := hid (HBe1.out.trans (hal.mono HBe1.out.size))
          have HSz2 := hid (show wz1.heap.size < (wz1.alloc (.cells #[.int .i64 0, .int .i64 0, .string ⟨#[]⟩, .slice none 0 0] 25)).heap.size by simp)
          have HN2 := hid (Row.new wz1 25 #[.int .i64 0, .int .i64 0, .string ⟨#[]⟩, .slice none 0 0])
          clear hal 
          generalize wz1.alloc (.cells #[.int .i64 0, .int .i64 0, .string ⟨#[]⟩, .slice none 0 0] 25) = wz2 at HBe2 HN2 HSz2 hHeld ⊢
          refine wpAnyH_ready (rs := [6]) (by kernel_rfl) (by simp) ?_
          refine AllReadyH.cons rfl (fun K hK => ?_) ?_
          · go_simp
            go_at_call 64
            refine (HCa.out _ HBe2.out).mono ?_
            rintro e wz3 ⟨sA, cA, rfl, hown, hbx⟩
            simp only
            have HBe3 := hid (HBe2.out.trans (hbx.mono HBe2.out.size))
            have HSz3 := hid hbx.size
            have HN3 := hid (HN2.out.on hbx)
            have HOA3 := hid hown
            refine hK.out _ _ (HSx.out _ HBe3.out) (fun hHeld => ?_)
            clear hK K hown hbx HN2
            (try simp only [Act.put, List.setIfInBounds_toArray, List.set_cons_zero, List.set_cons_succ])
            refine wpAnyH_ready (rs := [8]) (by kernel_rfl) (by simp) ?_
            refine AllReadyH.cons rfl (fun K hK => ?_) ?_
            · go_simp
              go_at_call 64
              refine (HCb.out _ HBe3.out).mono ?_
              rintro e wz4 ⟨sB, cB, rfl, hown, hbx⟩
              simp only
              have HBe4 := hid (HBe3.out.trans (hbx.mono HBe3.out.size))
              have HSz4 := hid hbx.size
              have HOA4 := hid (HOA3.out.on hbx)
              have HN4 := hid (HN3.out.on hbx)
              have HOB4 := hid hown
              refine hK.out _ _ (HSx.out _ HBe4.out) (fun hHeld => ?_)
              clear hK K hown hbx HOA3 HN3
              (try simp only [Act.put, List.setIfInBounds_toArray, List.set_cons_zero, List.set_cons_succ])
              refine wpAnyH_ready (rs := [9]) (by kernel_rfl) (by simp) ?_
              refine AllReadyH.cons rfl (fun K hK => ?_) ?_
              · go_simp
                go_at_call 63
                refine (bin_v HP.out HQ.out _ _ _ _).mono ?_
                rintro e wz5 ⟨sC, cC, rfl, hown, hbx⟩
                simp only
                have HBe5 := hid (HBe4.out.trans (hbx.mono HBe4.out.size))
                have HSz5 := hid hbx.size
                have HOA5 := hid (HOA4.out.on hbx)
                have HOB5 := hid (HOB4.out.on hbx)
                have HN5 := hid (HN4.out.on hbx)
                have HC5 := hid hown
                have HCl := hid (fun r hr => hown.lt r hr)
                refine hK.out _ _ (HSx.out _ HBe5.out) (fun hHeld => ?_)
                clear hK K hown hbx HOA4 HOB4 HN4
                (try simp only [Act.put, List.setIfInBounds_toArray, List.set_cons_zero, List.set_cons_succ])
                refine wpAnyH_ready (rs := [11]) (by kernel_rfl) (by simp) ?_
                refine AllReadyH.cons rfl (fun K hK => ?_) ?_
                · have n0 := HN5.out.cell 0
                  have n1 := HN5.out.cell 1
                  have n2 := HN5.out.cell 2
                  have n3 := HN5.out.cell 3
                  simp at n0 n1 n2 n3
                  have hnf := HN5.out.free
                  have hnl := HN5.out.lt
                  go_simp
                  have hgn := HBe1.out.size
                  refine hK.out _ _ (HSx.out _ (four_bel HBe5.out hgn _ _ _ _)) (fun hHeld => ?_)
                  clear hK K
                  (try simp only [Act.put, List.setIfInBounds_toArray, List.set_cons_zero, List.set_cons_succ])
                  refine wpAnyH_done (by kernel_rfl) ?_ _
                  clear n0 n1 n2 n3 hnf hHeld hwq
                  go_wp2_with fail
                  go_meet
                  have hs0 := HBe0.out.size
                  have hs1 := HSz1.out
                  have hs2 := HSz2.out
                  have hs3 := HSz3.out
                  have hs4 := HSz4.out
                  have hs5 := HSz5.out
                  refine ⟨wz1.heap.size, sC, cC, rfl, by omega, four_row HN5.out _ _ _ _, ?_, ?_, four_bel (HB2.out.trans (HBe5.out.mono HB2.out.size)) (by omega) _ _ _ _⟩
                  · exact fun w' hz' hk' => made_bin (own_same HC5.out (fun r hr => (hk' r (by have := HCl.out r hr; omega) (by rw [four_size]; exact (HC5.out.lt r hr).2) (by have := HCl.out r hr; omega) (by have := HCl.out r hr; omega)).trans (four_far _ _ _ (by have := HCl.out r hr; omega) _ _ _ _ _ _ _ _))) (HOA5.out.keep (fun b h1 h2 h3 => (hk' b (by omega) (by rw [four_size]; exact h3) (by omega) (by omega)).trans (four_far _ _ _ (by omega) _ _ _ _ _ _ _ _))).rd (HOB5.out.keep (fun b h1 h2 h3 => (hk' b (by omega) (by rw [four_size]; exact h3) (by omega) (by omega)).trans (four_far _ _ _ (by omega) _ _ _ _ _ _ _ _))).rd
                  · exact row_four (HZ2.out.below HBe5.out HZ2.out.lt) (by omega) _ _ _ _
                exact AllReadyH.nil
              exact AllReadyH.nil
            exact AllReadyH.nil
          exact AllReadyH.nil
        exact AllReadyH.nil
      refine AllReadyH.cons rfl (fun K hK => ?_) ?_
      · go_simp
        go_at_call 64
        refine (HCa.out _ HBe1.out).mono ?_
        rintro e wz2 ⟨sA, cA, rfl, hown, hbx⟩
        simp only
        have HBe2 := hid (HBe1.out.trans (hbx.mono HBe1.out.size))
        have HSz2 := hid hbx.size
        have kl2 := (hbx.cell (p := ⟨wz0.heap.size, (q : Nat), none⟩) hgl1).trans kl1
        have hgl2 := Nat.lt_of_lt_of_le hgl1 hbx.size
        have HOA2 := hid hown
        refine hK.out _ _ (HSx.out _ HBe2.out) (fun hHeld => ?_)
        clear hK K hown hbx kl1 hgl1
        (try simp only [Act.put, List.setIfInBounds_toArray, List.set_cons_zero, List.set_cons_succ])
        refine wpAnyH_ready (rs := [4, 8, 10]) (by kernel_rfl) (by simp) ?_
        refine AllReadyH.cons rfl (fun K hK => ?_) ?_
        · go_simp
          refine hK.out _ _ hHeld (fun _ => ?_)
          clear hK K kl2 hgl2
          (try simp only [Act.put, List.setIfInBounds_toArray, List.set_cons_zero, List.set_cons_succ])
          refine wpAnyH_ready (rs := [8, 10]) (by kernel_rfl) (by simp) ?_
          refine AllReadyH.cons rfl (fun K hK => ?_) ?_
          · go_simp
            go_at_call 64
            refine (HCb.out _ HBe2.out).mono ?_
            rintro e wz3 ⟨sB, cB, rfl, hown, hbx⟩
            simp only
            have HBe3 := hid (HBe2.out.trans (hbx.mono HBe2.out.size))
            have HSz3 := hid hbx.size
            have HOA3 := hid (HOA2.out.on hbx)
            have HOB3 := hid hown
            refine hK.out _ _ (HSx.out _ HBe3.out) (fun hHeld => ?_)
            clear hK K hown hbx HOA2
            (try simp only [Act.put, List.setIfInBounds_toArray, List.set_cons_zero, List.set_cons_succ])
            refine wpAnyH_ready (rs := [9, 10]) (by kernel_rfl) (by simp) ?_
            refine AllReadyH.cons rfl (fun K hK => ?_) ?_
            · go_simp
              go_at_call 63
              refine (bin_v HP.out HQ.out _ _ _ _).mono ?_
              rintro e wz4 ⟨sC, cC, rfl, hown, hbx⟩
              simp only
              have HBe4 := hid (HBe3.out.trans (hbx.mono HBe3.out.size))
              have HSz4 := hid hbx.size
              have HOA4 := hid (HOA3.out.on hbx)
              have HOB4 := hid (HOB3.out.on hbx)
              have HC4 := hid hown
              have HCl := hid (fun r hr => hown.lt r hr)
              refine hK.out _ _ (HSx.out _ HBe4.out) (fun hHeld => ?_)
              clear hK K hown hbx HOA3 HOB3
              (try simp only [Act.put, List.setIfInBounds_toArray, List.set_cons_zero, List.set_cons_succ])
              refine wpAnyH_ready (rs := [10]) (by kernel_rfl) (by simp) ?_
              refine AllReadyH.cons rfl (fun K hK => ?_) ?_
              · go_simp
                refine hK.out _ _ (HSx.out _ (HBe4.out.alloc HBe4.out.size _)) (fun hHeld => ?_)
                clear hK K
                (try simp only [Act.put, List.setIfInBounds_toArray, List.set_cons_zero, List.set_cons_succ])
                have hal := (Below.refl wz4.heap.size wz4).alloc (Nat.le_refl _) (.cells #[.int .i64 0, .int .i64 0, .string ⟨#[]⟩, .slice none 0 0] 25)
                have HBe5 := hid (HBe4.out.trans (hal.mono HBe4.out.size))
                have HSz5 := hid (show wz4.heap.size < (wz4.alloc (.cells #[.int .i64 0, .int .i64 0, .string ⟨#[]⟩, .slice none 0 0] 25)).heap.size by simp)
                have HOA5 := hid (HOA4.out.on hal)
                have HOB5 := hid (HOB4.out.on hal)
                have HC5 := hid (own_on HC4.out hal)
                have HN5 := hid (Row.new wz4 25 #[.int .i64 0, .int .i64 0, .string ⟨#[]⟩, .slice none 0 0])
                clear hal HOA4 HOB4 HC4
                generalize wz4.alloc (.cells #[.int .i64 0, .int .i64 0, .string ⟨#[]⟩, .slice none 0 0] 25) = wz5 at HBe5 HOA5 HOB5 HN5 HC5 HSz5 hHeld ⊢
                refine wpAnyH_ready (rs := [11]) (by kernel_rfl) (by simp) ?_
                refine AllReadyH.cons rfl (fun K hK => ?_) ?_
                · have n0 := HN5.out.cell 0
                  have n1 := HN5.out.cell 1
                  have n2 := HN5.out.cell 2
                  have n3 := HN5.out.cell 3
                  simp at n0 n1 n2 n3
                  have hnf := HN5.out.free
                  have hnl := HN5.out.lt
                  go_simp
                  have hgn := HBe4.out.size
                  refine hK.out _ _ (HSx.out _ (four_bel HBe5.out hgn _ _ _ _)) (fun hHeld => ?_)
                  clear hK K
                  (try simp only [Act.put, List.setIfInBounds_toArray, List.set_cons_zero, List.set_cons_succ])
                  refine wpAnyH_done (by kernel_rfl) ?_ _
                  clear n0 n1 n2 n3 hnf hHeld hwq
                  go_wp2_with fail
                  go_meet
                  have hs0 := HBe0.out.size
                  have hs1 := HSz1.out
                  have hs2 := HSz2.out
                  have hs3 := HSz3.out
                  have hs4 := HSz4.out
                  have hs5 := HSz5.out
                  refine ⟨wz4.heap.size, sC, cC, rfl, by omega, four_row HN5.out _ _ _ _, ?_, ?_, four_bel (HB2.out.trans (HBe5.out.mono HB2.out.size)) (by omega) _ _ _ _⟩
                  · exact fun w' hz' hk' => made_bin (own_same HC5.out (fun r hr => (hk' r (by have := HCl.out r hr; omega) (by rw [four_size]; exact (HC5.out.lt r hr).2) (by have := HCl.out r hr; omega) (by have := HCl.out r hr; omega)).trans (four_far _ _ _ (by have := HCl.out r hr; omega) _ _ _ _ _ _ _ _))) (HOA5.out.keep (fun b h1 h2 h3 => (hk' b (by omega) (by rw [four_size]; exact h3) (by omega) (by omega)).trans (four_far _ _ _ (by omega) _ _ _ _ _ _ _ _))).rd (HOB5.out.keep (fun b h1 h2 h3 => (hk' b (by omega) (by rw [four_size]; exact h3) (by omega) (by omega)).trans (four_far _ _ _ (by omega) _ _ _ _ _ _ _ _))).rd
                  · exact row_four (HZ2.out.below HBe5.out HZ2.out.lt) (by omega) _ _ _ _
                exact AllReadyH.nil
              exact AllReadyH.nil
            refine AllReadyH.cons rfl (fun K hK => ?_) ?_
            · go_simp
              refine hK.out _ _ (HSx.out _ (HBe3.out.alloc HBe3.out.size _)) (fun hHeld => ?_)
              clear hK K
              (try simp only [Act.put, List.setIfInBounds_toArray, List.set_cons_zero, List.set_cons_succ])
              have hal := (Below.refl wz3.heap.size wz3).alloc (Nat.le_refl _) (.cells #[.int .i64 0, .int .i64 0, .string ⟨#[]⟩, .slice none 0 0] 25)
              have HBe4 := hid (HBe3.out.trans (hal.mono HBe3.out.size))
              have HSz4 := hid (show wz3.heap.size < (wz3.alloc (.cells #[.int .i64 0, .int .i64 0, .string ⟨#[]⟩, .slice none 0 0] 25)).heap.size by simp)
              have HOA4 := hid (HOA3.out.on hal)
              have HOB4 := hid (HOB3.out.on hal)
              have HN4 := hid (Row.new wz3 25 #[.int .i64 0, .int .i64 0, .string ⟨#[]⟩, .slice none 0 0])
              clear hal HOA3 HOB3
              generalize wz3.alloc (.cells #[.int .i64 0, .int .i64 0, .string ⟨#[]⟩, .slice none 0 0] 25) = wz4 at HBe4 HOA4 HOB4 HN4 HSz4 hHeld ⊢
              refine wpAnyH_ready (rs := [9]) (by kernel_rfl) (by simp) ?_
              refine AllReadyH.cons rfl (fun K hK => ?_) ?_
              · go_simp
                go_at_call 63
                refine (bin_v HP.out HQ.out _ _ _ _).mono ?_
                rintro e wz5 ⟨sC, cC, rfl, hown, hbx⟩
                simp only
                have HBe5 := hid (HBe4.out.trans (hbx.mono HBe4.out.size))
                have HSz5 := hid hbx.size
                have HOA5 := hid (HOA4.out.on hbx)
                have HOB5 := hid (HOB4.out.on hbx)
                have HN5 := hid (HN4.out.on hbx)
                have HC5 := hid hown
                have HCl := hid (fun r hr => hown.lt r hr)
                refine hK.out _ _ (HSx.out _ HBe5.out) (fun hHeld => ?_)
                clear hK K hown hbx HOA4 HOB4 HN4
                (try simp only [Act.put, List.setIfInBounds_toArray, List.set_cons_zero, List.set_cons_succ])
                refine wpAnyH_ready (rs := [11]) (by kernel_rfl) (by simp) ?_
                refine AllReadyH.cons rfl (fun K hK => ?_) ?_
                · have n0 := HN5.out.cell 0
                  have n1 := HN5.out.cell 1
                  have n2 := HN5.out.cell 2
                  have n3 := HN5.out.cell 3
                  simp at n0 n1 n2 n3
                  have hnf := HN5.out.free
                  have hnl := HN5.out.lt
                  go_simp
                  have hgn := HBe3.out.size
                  refine hK.out _ _ (HSx.out _ (four_bel HBe5.out hgn _ _ _ _)) (fun hHeld => ?_)
                  clear hK K
                  (try simp only [Act.put, List.setIfInBounds_toArray, List.set_cons_zero, List.set_cons_succ])
                  refine wpAnyH_done (by kernel_rfl) ?_ _
                  clear n0 n1 n2 n3 hnf hHeld hwq
                  go_wp2_with fail
                  go_meet
                  have hs0 := HBe0.out.size
                  have hs1 := HSz1.out
                  have hs2 := HSz2.out
                  have hs3 := HSz3.out
                  have hs4 := HSz4.out
                  have hs5 := HSz5.out
                  refine ⟨wz3.heap.size, sC, cC, rfl, by omega, four_row HN5.out _ _ _ _, ?_, ?_, four_bel (HB2.out.trans (HBe5.out.mono HB2.out.size)) (by omega) _ _ _ _⟩
                  · exact fun w' hz' hk' => made_bin (own_same HC5.out (fun r hr => (hk' r (by have := HCl.out r hr; omega) (by rw [four_size]; exact (HC5.out.lt r hr).2) (by have := HCl.out r hr; omega) (by have := HCl.out r hr; omega)).trans (four_far _ _ _ (by have := HCl.out r hr; omega) _ _ _ _ _ _ _ _))) (HOA5.out.keep (fun b h1 h2 h3 => (hk' b (by omega) (by rw [four_size]; exact h3) (by omega) (by omega)).trans (four_far _ _ _ (by omega) _ _ _ _ _ _ _ _))).rd (HOB5.out.keep (fun b h1 h2 h3 => (hk' b (by omega) (by rw [four_size]; exact h3) (by omega) (by omega)).trans (four_far _ _ _ (by omega) _ _ _ _ _ _ _ _))).rd
                  · exact row_four (HZ2.out.below HBe5.out HZ2.out.lt) (by omega) _ _ _ _
                exact AllReadyH.nil
              exact AllReadyH.nil
            exact AllReadyH.nil
          refine AllReadyH.cons rfl (fun K hK => ?_) ?_
          · go_simp
            refine hK.out _ _ (HSx.out _ (HBe2.out.alloc HBe2.out.size _)) (fun hHeld => ?_)
            clear hK K
            (try simp only [Act.put, List.setIfInBounds_toArray, List.set_cons_zero, List.set_cons_succ])
            have hal := (Below.refl wz2.heap.size wz2).alloc (Nat.le_refl _) (.cells #[.int .i64 0, .int .i64 0, .string ⟨#[]⟩, .slice none 0 0] 25)
            have HBe3 := hid (HBe2.out.trans (hal.mono HBe2.out.size))
            have HSz3 := hid (show wz2.heap.size < (wz2.alloc (.cells #[.int .i64 0, .int .i64 0, .string ⟨#[]⟩, .slice none 0 0] 25)).heap.size by simp)
            have HOA3 := hid (HOA2.out.on hal)
            have HN3 := hid (Row.new wz2 25 #[.int .i64 0, .int .i64 0, .string ⟨#[]⟩, .slice none 0 0])
            clear hal HOA2
            generalize wz2.alloc (.cells #[.int .i64 0, .int .i64 0, .string ⟨#[]⟩, .slice none 0 0] 25) = wz3 at HBe3 HOA3 HN3 HSz3 hHeld ⊢
            refine wpAnyH_ready (rs := [8]) (by kernel_rfl) (by simp) ?_
            refine AllReadyH.cons rfl (fun K hK => ?_) ?_
            · go_simp
              go_at_call 64
              refine (HCb.out _ HBe3.out).mono ?_
              rintro e wz4 ⟨sB, cB, rfl, hown, hbx⟩
              simp only
              have HBe4 := hid (HBe3.out.trans (hbx.mono HBe3.out.size))
              have HSz4 := hid hbx.size
              have HOA4 := hid (HOA3.out.on hbx)
              have HN4 := hid (HN3.out.on hbx)
              have HOB4 := hid hown
              refine hK.out _ _ (HSx.out _ HBe4.out) (fun hHeld => ?_)
              clear hK K hown hbx HOA3 HN3
              (try simp only [Act.put, List.setIfInBounds_toArray, List.set_cons_zero, List.set_cons_succ])
              refine wpAnyH_ready (rs := [9]) (by kernel_rfl) (by simp) ?_
              refine AllReadyH.cons rfl (fun K hK => ?_) ?_
              · go_simp
                go_at_call 63
                refine (bin_v HP.out HQ.out _ _ _ _).mono ?_
                rintro e wz5 ⟨sC, cC, rfl, hown, hbx⟩
                simp only
                have HBe5 := hid (HBe4.out.trans (hbx.mono HBe4.out.size))
                have HSz5 := hid hbx.size
                have HOA5 := hid (HOA4.out.on hbx)
                have HOB5 := hid (HOB4.out.on hbx)
                have HN5 := hid (HN4.out.on hbx)
                have HC5 := hid hown
                have HCl := hid (fun r hr => hown.lt r hr)
                refine hK.out _ _ (HSx.out _ HBe5.out) (fun hHeld => ?_)
                clear hK K hown hbx HOA4 HOB4 HN4
                (try simp only [Act.put, List.setIfInBounds_toArray, List.set_cons_zero, List.set_cons_succ])
                refine wpAnyH_ready (rs := [11]) (by kernel_rfl) (by simp) ?_
                refine AllReadyH.cons rfl (fun K hK => ?_) ?_
                · have n0 := HN5.out.cell 0
                  have n1 := HN5.out.cell 1
                  have n2 := HN5.out.cell 2
                  have n3 := HN5.out.cell 3
                  simp at n0 n1 n2 n3
                  have hnf := HN5.out.free
                  have hnl := HN5.out.lt
                  go_simp
                  have hgn := HBe2.out.size
                  refine hK.out _ _ (HSx.out _ (four_bel HBe5.out hgn _ _ _ _)) (fun hHeld => ?_)
                  clear hK K
                  (try simp only [Act.put, List.setIfInBounds_toArray, List.set_cons_zero, List.set_cons_succ])
                  refine wpAnyH_done (by kernel_rfl) ?_ _
                  clear n0 n1 n2 n3 hnf hHeld hwq
                  go_wp2_with fail
                  go_meet
                  have hs0 := HBe0.out.size
                  have hs1 := HSz1.out
                  have hs2 := HSz2.out
                  have hs3 := HSz3.out
                  have hs4 := HSz4.out
                  have hs5 := HSz5.out
                  refine ⟨wz2.heap.size, sC, cC, rfl, by omega, four_row HN5.out _ _ _ _, ?_, ?_, four_bel (HB2.out.trans (HBe5.out.mono HB2.out.size)) (by omega) _ _ _ _⟩
                  · exact fun w' hz' hk' => made_bin (own_same HC5.out (fun r hr => (hk' r (by have := HCl.out r hr; omega) (by rw [four_size]; exact (HC5.out.lt r hr).2) (by have := HCl.out r hr; omega) (by have := HCl.out r hr; omega)).trans (four_far _ _ _ (by have := HCl.out r hr; omega) _ _ _ _ _ _ _ _))) (HOA5.out.keep (fun b h1 h2 h3 => (hk' b (by omega) (by rw [four_size]; exact h3) (by omega) (by omega)).trans (four_far _ _ _ (by omega) _ _ _ _ _ _ _ _))).rd (HOB5.out.keep (fun b h1 h2 h3 => (hk' b (by omega) (by rw [four_size]; exact h3) (by omega) (by omega)).trans (four_far _ _ _ (by omega) _ _ _ _ _ _ _ _))).rd
                  · exact row_four (HZ2.out.below HBe5.out HZ2.out.lt) (by omega) _ _ _ _
                exact AllReadyH.nil
              exact AllReadyH.nil
            exact AllReadyH.nil
          exact AllReadyH.nil
        refine AllReadyH.cons rfl (fun K hK => ?_) ?_
        · go_simp
          go_at_call 64
          refine (HCb.out _ HBe2.out).mono ?_
          rintro e wz3 ⟨sB, cB, rfl, hown, hbx⟩
          simp only
          have HBe3 := hid (HBe2.out.trans (hbx.mono HBe2.out.size))
          have HSz3 := hid hbx.size
          have HOA3 := hid (HOA2.out.on hbx)
          have kl3 := (hbx.cell (p := ⟨wz0.heap.size, (q : Nat), none⟩) hgl2).trans kl2
          have hgl3 := Nat.lt_of_lt_of_le hgl2 hbx.size
          have HOB3 := hid hown
          refine hK.out _ _ (HSx.out _ HBe3.out) (fun hHeld => ?_)
          clear hK K hown hbx HOA2 kl2 hgl2
          (try simp only [Act.put, List.setIfInBounds_toArray, List.set_cons_zero, List.set_cons_succ])
          refine wpAnyH_ready (rs := [4, 10]) (by kernel_rfl) (by simp) ?_
          refine AllReadyH.cons rfl (fun K hK => ?_) ?_
          · go_simp
            refine hK.out _ _ hHeld (fun _ => ?_)
            clear hK K kl3 hgl3
            (try simp only [Act.put, List.setIfInBounds_toArray, List.set_cons_zero, List.set_cons_succ])
            refine wpAnyH_ready (rs := [9, 10]) (by kernel_rfl) (by simp) ?_
            refine AllReadyH.cons rfl (fun K hK => ?_) ?_
            · go_simp
              go_at_call 63
              refine (bin_v HP.out HQ.out _ _ _ _).mono ?_
              rintro e wz4 ⟨sC, cC, rfl, hown, hbx⟩
              simp only
              have HBe4 := hid (HBe3.out.trans (hbx.mono HBe3.out.size))
              have HSz4 := hid hbx.size
              have HOA4 := hid (HOA3.out.on hbx)
              have HOB4 := hid (HOB3.out.on hbx)
              have HC4 := hid hown
              have HCl := hid (fun r hr => hown.lt r hr)
              refine hK.out _ _ (HSx.out _ HBe4.out) (fun hHeld => ?_)
              clear hK K hown hbx HOA3 HOB3
              (try simp only [Act.put, List.setIfInBounds_toArray, List.set_cons_zero, List.set_cons_succ])
              refine wpAnyH_ready (rs := [10]) (by kernel_rfl) (by simp) ?_
              refine AllReadyH.cons rfl (fun K hK => ?_) ?_
              · go_simp
                refine hK.out _ _ (HSx.out _ (HBe4.out.alloc HBe4.out.size _)) (fun hHeld => ?_)
                clear hK K
                (try simp only [Act.put, List.setIfInBounds_toArray, List.set_cons_zero, List.set_cons_succ])
                have hal := (Below.refl wz4.heap.size wz4).alloc (Nat.le_refl _) (.cells #[.int .i64 0, .int .i64 0, .string ⟨#[]⟩, .slice none 0 0] 25)
                have HBe5 := hid (HBe4.out.trans (hal.mono HBe4.out.size))
                have HSz5 := hid (show wz4.heap.size < (wz4.alloc (.cells #[.int .i64 0, .int .i64 0, .string ⟨#[]⟩, .slice none 0 0] 25)).heap.size by simp)
                have HOA5 := hid (HOA4.out.on hal)
                have HOB5 := hid (HOB4.out.on hal)
                have HC5 := hid (own_on HC4.out hal)
                have HN5 := hid (Row.new wz4 25 #[.int .i64 0, .int .i64 0, .string ⟨#[]⟩, .slice none 0 0])
                clear hal HOA4 HOB4 HC4
                generalize wz4.alloc (.cells #[.int .i64 0, .int .i64 0, .string ⟨#[]⟩, .slice none 0 0] 25) = wz5 at HBe5 HOA5 HOB5 HN5 HC5 HSz5 hHeld ⊢
                refine wpAnyH_ready (rs := [11]) (by kernel_rfl) (by simp) ?_
                refine AllReadyH.cons rfl (fun K hK => ?_) ?_
                · have n0 := HN5.out.cell 0
                  have n1 := HN5.out.cell 1
                  have n2 := HN5.out.cell 2
                  have n3 := HN5.out.cell 3
                  simp at n0 n1 n2 n3
                  have hnf := HN5.out.free
                  have hnl := HN5.out.lt
                  go_simp
                  have hgn := HBe4.out.size
                  refine hK.out _ _ (HSx.out _ (four_bel HBe5.out hgn _ _ _ _)) (fun hHeld => ?_)
                  clear hK K
                  (try simp only [Act.put, List.setIfInBounds_toArray, List.set_cons_zero, List.set_cons_succ])
                  refine wpAnyH_done (by kernel_rfl) ?_ _
                  clear n0 n1 n2 n3 hnf hHeld hwq
                  go_wp2_with fail
                  go_meet
                  have hs0 := HBe0.out.size
                  have hs1 := HSz1.out
                  have hs2 := HSz2.out
                  have hs3 := HSz3.out
                  have hs4 := HSz4.out
                  have hs5 := HSz5.out
                  refine ⟨wz4.heap.size, sC, cC, rfl, by omega, four_row HN5.out _ _ _ _, ?_, ?_, four_bel (HB2.out.trans (HBe5.out.mono HB2.out.size)) (by omega) _ _ _ _⟩
                  · exact fun w' hz' hk' => made_bin (own_same HC5.out (fun r hr => (hk' r (by have := HCl.out r hr; omega) (by rw [four_size]; exact (HC5.out.lt r hr).2) (by have := HCl.out r hr; omega) (by have := HCl.out r hr; omega)).trans (four_far _ _ _ (by have := HCl.out r hr; omega) _ _ _ _ _ _ _ _))) (HOA5.out.keep (fun b h1 h2 h3 => (hk' b (by omega) (by rw [four_size]; exact h3) (by omega) (by omega)).trans (four_far _ _ _ (by omega) _ _ _ _ _ _ _ _))).rd (HOB5.out.keep (fun b h1 h2 h3 => (hk' b (by omega) (by rw [four_size]; exact h3) (by omega) (by omega)).trans (four_far _ _ _ (by omega) _ _ _ _ _ _ _ _))).rd
                  · exact row_four (HZ2.out.below HBe5.out HZ2.out.lt) (by omega) _ _ _ _
                exact AllReadyH.nil
              exact AllReadyH.nil
            refine AllReadyH.cons rfl (fun K hK => ?_) ?_
            · go_simp
              refine hK.out _ _ (HSx.out _ (HBe3.out.alloc HBe3.out.size _)) (fun hHeld => ?_)
              clear hK K
              (try simp only [Act.put, List.setIfInBounds_toArray, List.set_cons_zero, List.set_cons_succ])
              have hal := (Below.refl wz3.heap.size wz3).alloc (Nat.le_refl _) (.cells #[.int .i64 0, .int .i64 0, .string ⟨#[]⟩, .slice none 0 0] 25)
              have HBe4 := hid (HBe3.out.trans (hal.mono HBe3.out.size))
              have HSz4 := hid (show wz3.heap.size < (wz3.alloc (.cells #[.int .i64 0, .int .i64 0, .string ⟨#[]⟩, .slice none 0 0] 25)).heap.size by simp)
              have HOA4 := hid (HOA3.out.on hal)
              have HOB4 := hid (HOB3.out.on hal)
              have HN4 := hid (Row.new wz3 25 #[.int .i64 0, .int .i64 0, .string ⟨#[]⟩, .slice none 0 0])
              clear hal HOA3 HOB3
              generalize wz3.alloc (.cells #[.int .i64 0, .int .i64 0, .string ⟨#[]⟩, .slice none 0 0] 25) = wz4 at HBe4 HOA4 HOB4 HN4 HSz4 hHeld ⊢
              refine wpAnyH_ready (rs := [9]) (by kernel_rfl) (by simp) ?_
              refine AllReadyH.cons rfl (fun K hK => ?_) ?_
              · go_simp
                go_at_call 63
                refine (bin_v HP.out HQ.out _ _ _ _).mono ?_
                rintro e wz5 ⟨sC, cC, rfl, hown, hbx⟩
                simp only
                have HBe5 := hid (HBe4.out.trans (hbx.mono HBe4.out.size))
                have HSz5 := hid hbx.size
                have HOA5 := hid (HOA4.out.on hbx)
                have HOB5 := hid (HOB4.out.on hbx)
                have HN5 := hid (HN4.out.on hbx)
                have HC5 := hid hown
                have HCl := hid (fun r hr => hown.lt r hr)
                refine hK.out _ _ (HSx.out _ HBe5.out) (fun hHeld => ?_)
                clear hK K hown hbx HOA4 HOB4 HN4
                (try simp only [Act.put, List.setIfInBounds_toArray, List.set_cons_zero, List.set_cons_succ])
                refine wpAnyH_ready (rs := [11]) (by kernel_rfl) (by simp) ?_
                refine AllReadyH.cons rfl (fun K hK => ?_) ?_
                · have n0 := HN5.out.cell 0
                  have n1 := HN5.out.cell 1
                  have n2 := HN5.out.cell 2
                  have n3 := HN5.out.cell 3
                  simp at n0 n1 n2 n3
                  have hnf := HN5.out.free
                  have hnl := HN5.out.lt
                  go_simp
                  have hgn := HBe3.out.size
                  refine hK.out _ _ (HSx.out _ (four_bel HBe5.out hgn _ _ _ _)) (fun hHeld => ?_)
                  clear hK K
                  (try simp only [Act.put, List.setIfInBounds_toArray, List.set_cons_zero, List.set_cons_succ])
                  refine wpAnyH_done (by kernel_rfl) ?_ _
                  clear n0 n1 n2 n3 hnf hHeld hwq
                  go_wp2_with fail
                  go_meet
                  have hs0 := HBe0.out.size
                  have hs1 := HSz1.out
                  have hs2 := HSz2.out
                  have hs3 := HSz3.out
                  have hs4 := HSz4.out
                  have hs5 := HSz5.out
                  refine ⟨wz3.heap.size, sC, cC, rfl, by omega, four_row HN5.out _ _ _ _, ?_, ?_, four_bel (HB2.out.trans (HBe5.out.mono HB2.out.size)) (by omega) _ _ _ _⟩
                  · exact fun w' hz' hk' => made_bin (own_same HC5.out (fun r hr => (hk' r (by have := HCl.out r hr; omega) (by rw [four_size]; exact (HC5.out.lt r hr).2) (by have := HCl.out r hr; omega) (by have := HCl.out r hr; omega)).trans (four_far _ _ _ (by have := HCl.out r hr; omega) _ _ _ _ _ _ _ _))) (HOA5.out.keep (fun b h1 h2 h3 => (hk' b (by omega) (by rw [four_size]; exact h3) (by omega) (by omega)).trans (four_far _ _ _ (by omega) _ _ _ _ _ _ _ _))).rd (HOB5.out.keep (fun b h1 h2 h3 => (hk' b (by omega) (by rw [four_size]; exact h3) (by omega) (by omega)).trans (four_far _ _ _ (by omega) _ _ _ _ _ _ _ _))).rd
                  · exact row_four (HZ2.out.below HBe5.out HZ2.out.lt) (by omega) _ _ _ _
                exact AllReadyH.nil
              exact AllReadyH.nil
            exact AllReadyH.nil
          refine AllReadyH.cons rfl (fun K hK => ?_) ?_
          · go_simp
            refine hK.out _ _ (HSx.out _ (HBe3.out.alloc HBe3.out.size _)) (fun hHeld => ?_)
            clear hK K
            (try simp only [Act.put, List.setIfInBounds_toArray, List.set_cons_zero, List.set_cons_succ])
            have hal := (Below.refl wz3.heap.size wz3).alloc (Nat.le_refl _) (.cells #[.int .i64 0, .int .i64 0, .string ⟨#[]⟩, .slice none 0 0] 25)
            have HBe4 := hid (HBe3.out.trans (hal.mono HBe3.out.size))
            have HSz4 := hid (show wz3.heap.size < (wz3.alloc (.cells #[.int .i64 0, .int .i64 0, .string ⟨#[]⟩, .slice none 0 0] 25)).heap.size by simp)
            have HOA4 := hid (HOA3.out.on hal)
            have HOB4 := hid (HOB3.out.on hal)
            have kl4 := (hal.cell (p := ⟨wz0.heap.size, (q : Nat), none⟩) hgl3).trans kl3
            have hgl4 := Nat.lt_of_lt_of_le hgl3 hal.size
            have HN4 := hid (Row.new wz3 25 #[.int .i64 0, .int .i64 0, .string ⟨#[]⟩, .slice none 0 0])
            clear hal HOA3 HOB3 kl3 hgl3
            generalize wz3.alloc (.cells #[.int .i64 0, .int .i64 0, .string ⟨#[]⟩, .slice none 0 0] 25) = wz4 at HBe4 HOA4 HOB4 kl4 hgl4 HN4 HSz4 hHeld ⊢
            refine wpAnyH_ready (rs := [4]) (by kernel_rfl) (by simp) ?_
            refine AllReadyH.cons rfl (fun K hK => ?_) ?_
            · go_simp
              refine hK.out _ _ hHeld (fun _ => ?_)
              clear hK K kl4 hgl4
              (try simp only [Act.put, List.setIfInBounds_toArray, List.set_cons_zero, List.set_cons_succ])
              refine wpAnyH_ready (rs := [9]) (by kernel_rfl) (by simp) ?_
              refine AllReadyH.cons rfl (fun K hK => ?_) ?_
              · go_simp
                go_at_call 63
                refine (bin_v HP.out HQ.out _ _ _ _).mono ?_
                rintro e wz5 ⟨sC, cC, rfl, hown, hbx⟩
                simp only
                have HBe5 := hid (HBe4.out.trans (hbx.mono HBe4.out.size))
                have HSz5 := hid hbx.size
                have HOA5 := hid (HOA4.out.on hbx)
                have HOB5 := hid (HOB4.out.on hbx)
                have HN5 := hid (HN4.out.on hbx)
                have HC5 := hid hown
                have HCl := hid (fun r hr => hown.lt r hr)
                refine hK.out _ _ (HSx.out _ HBe5.out) (fun hHeld => ?_)
                clear hK K hown hbx HOA4 HOB4 HN4
                (try simp only [Act.put, List.setIfInBounds_toArray, List.set_cons_zero, List.set_cons_succ])
                refine wpAnyH_ready (rs := [11]) (by kernel_rfl) (by simp) ?_
                refine AllReadyH.cons rfl (fun K hK => ?_) ?_
                · have n0 := HN5.out.cell 0
                  have n1 := HN5.out.cell 1
                  have n2 := HN5.out.cell 2
                  have n3 := HN5.out.cell 3
                  simp at n0 n1 n2 n3
                  have hnf := HN5.out.free
                  have hnl := HN5.out.lt
                  go_simp
                  have hgn := HBe3.out.size
                  refine hK.out _ _ (HSx.out _ (four_bel HBe5.out hgn _ _ _ _)) (fun hHeld => ?_)
                  clear hK K
                  (try simp only [Act.put, List.setIfInBounds_toArray, List.set_cons_zero, List.set_cons_succ])
                  refine wpAnyH_done (by kernel_rfl) ?_ _
                  clear n0 n1 n2 n3 hnf hHeld hwq
                  go_wp2_with fail
                  go_meet
                  have hs0 := HBe0.out.size
                  have hs1 := HSz1.out
                  have hs2 := HSz2.out
                  have hs3 := HSz3.out
                  have hs4 := HSz4.out
                  have hs5 := HSz5.out
                  refine ⟨wz3.heap.size, sC, cC, rfl, by omega, four_row HN5.out _ _ _ _, ?_, ?_, four_bel (HB2.out.trans (HBe5.out.mono HB2.out.size)) (by omega) _ _ _ _⟩
                  · exact fun w' hz' hk' => made_bin (own_same HC5.out (fun r hr => (hk' r (by have := HCl.out r hr; omega) (by rw [four_size]; exact (HC5.out.lt r hr).2) (by have := HCl.out r hr; omega) (by have := HCl.out r hr; omega)).trans (four_far _ _ _ (by have := HCl.out r hr; omega) _ _ _ _ _ _ _ _))) (HOA5.out.keep (fun b h1 h2 h3 => (hk' b (by omega) (by rw [four_size]; exact h3) (by omega) (by omega)).trans (four_far _ _ _ (by omega) _ _ _ _ _ _ _ _))).rd (HOB5.out.keep (fun b h1 h2 h3 => (hk' b (by omega) (by rw [four_size]; exact h3) (by omega) (by omega)).trans (four_far _ _ _ (by omega) _ _ _ _ _ _ _ _))).rd
                  · exact row_four (HZ2.out.below HBe5.out HZ2.out.lt) (by omega) _ _ _ _
                exact AllReadyH.nil
              exact AllReadyH.nil
            exact AllReadyH.nil
          exact AllReadyH.nil
        refine AllReadyH.cons rfl (fun K hK => ?_) ?_
        · go_simp
          refine hK.out _ _ (HSx.out _ (HBe2.out.alloc HBe2.out.size _)) (fun hHeld => ?_)
          clear hK K
          (try simp only [Act.put, List.setIfInBounds_toArray, List.set_cons_zero, List.set_cons_succ])
          have hal := (Below.refl wz2.heap.size wz2).alloc (Nat.le_refl _) (.cells #[.int .i64 0, .int .i64 0, .string ⟨#[]⟩, .slice none 0 0] 25)
          have HBe3 := hid (HBe2.out.trans (hal.mono HBe2.out.size))
          have HSz3 := hid (show wz2.heap.size < (wz2.alloc (.cells #[.int .i64 0, .int .i64 0, .string ⟨#[]⟩, .slice none 0 0] 25)).heap.size by simp)
          have HOA3 := hid (HOA2.out.on hal)
          have kl3 := (hal.cell (p := ⟨wz0.heap.size, (q : Nat), none⟩) hgl2).trans kl2
          have hgl3 := Nat.lt_of_lt_of_le hgl2 hal.size
          have HN3 := hid (Row.new wz2 25 #[.int .i64 0, .int .i64 0, .string ⟨#[]⟩, .slice none 0 0])
          clear hal HOA2 kl2 hgl2
          generalize wz2.alloc (.cells #[.int .i64 0, .int .i64 0, .string ⟨#[]⟩, .slice none 0 0] 25) = wz3 at HBe3 HOA3 kl3 hgl3 HN3 HSz3 hHeld ⊢
          refine wpAnyH_ready (rs := [4, 8]) (by kernel_rfl) (by simp) ?_
          refine AllReadyH.cons rfl (fun K hK => ?_) ?_
          · go_simp
            refine hK.out _ _ hHeld (fun _ => ?_)
            clear hK K kl3 hgl3
            (try simp only [Act.put, List.setIfInBounds_toArray, List.set_cons_zero, List.set_cons_succ])
            refine wpAnyH_ready (rs := [8]) (by kernel_rfl) (by simp) ?_
            refine AllReadyH.cons rfl (fun K hK => ?_) ?_
            · go_simp
              go_at_call 64
              refine (HCb.out _ HBe3.out).mono ?_
              rintro e wz4 ⟨sB, cB, rfl, hown, hbx⟩
              simp only
              have HBe4 := hid (HBe3.out.trans (hbx.mono HBe3.out.size))
              have HSz4 := hid hbx.size
              have HOA4 := hid (HOA3.out.on hbx)
              have HN4 := hid (HN3.out.on hbx)
              have HOB4 := hid hown
              refine hK.out _ _ (HSx.out _ HBe4.out) (fun hHeld => ?_)
              clear hK K hown hbx HOA3 HN3
              (try simp only [Act.put, List.setIfInBounds_toArray, List.set_cons_zero, List.set_cons_succ])
              refine wpAnyH_ready (rs := [9]) (by kernel_rfl) (by simp) ?_
              refine AllReadyH.cons rfl (fun K hK => ?_) ?_
              · go_simp
                go_at_call 63
                refine (bin_v HP.out HQ.out _ _ _ _).mono ?_
                rintro e wz5 ⟨sC, cC, rfl, hown, hbx⟩
                simp only
                have HBe5 := hid (HBe4.out.trans (hbx.mono HBe4.out.size))
                have HSz5 := hid hbx.size
                have HOA5 := hid (HOA4.out.on hbx)
                have HOB5 := hid (HOB4.out.on hbx)
                have HN5 := hid (HN4.out.on hbx)
                have HC5 := hid hown
                have HCl := hid (fun r hr => hown.lt r hr)
                refine hK.out _ _ (HSx.out _ HBe5.out) (fun hHeld => ?_)
                clear hK K hown hbx HOA4 HOB4 HN4
                (try simp only [Act.put, List.setIfInBounds_toArray, List.set_cons_zero, List.set_cons_succ])
                refine wpAnyH_ready (rs := [11]) (by kernel_rfl) (by simp) ?_
                refine AllReadyH.cons rfl (fun K hK => ?_) ?_
                · have n0 := HN5.out.cell 0
                  have n1 := HN5.out.cell 1
                  have n2 := HN5.out.cell 2
                  have n3 := HN5.out.cell 3
                  simp at n0 n1 n2 n3
                  have hnf := HN5.out.free
                  have hnl := HN5.out.lt
                  go_simp
                  have hgn := HBe2.out.size
                  refine hK.out _ _ (HSx.out _ (four_bel HBe5.out hgn _ _ _ _)) (fun hHeld => ?_)
                  clear hK K
                  (try simp only [Act.put, List.setIfInBounds_toArray, List.set_cons_zero, List.set_cons_succ])
                  refine wpAnyH_done (by kernel_rfl) ?_ _
                  clear n0 n1 n2 n3 hnf hHeld hwq
                  go_wp2_with fail
                  go_meet
                  have hs0 := HBe0.out.size
                  have hs1 := HSz1.out
                  have hs2 := HSz2.out
                  have hs3 := HSz3.out
                  have hs4 := HSz4.out
                  have hs5 := HSz5.out
                  refine ⟨wz2.heap.size, sC, cC, rfl, by omega, four_row HN5.out _ _ _ _, ?_, ?_, four_bel (HB2.out.trans (HBe5.out.mono HB2.out.size)) (by omega) _ _ _ _⟩
                  · exact fun w' hz' hk' => made_bin (own_same HC5.out (fun r hr => (hk' r (by have := HCl.out r hr; omega) (by rw [four_size]; exact (HC5.out.lt r hr).2) (by have := HCl.out r hr; omega) (by have := HCl.out r hr; omega)).trans (four_far _ _ _ (by have := HCl.out r hr; omega) _ _ _ _ _ _ _ _))) (HOA5.out.keep (fun b h1 h2 h3 => (hk' b (by omega) (by rw [four_size]; exact h3) (by omega) (by omega)).trans (four_far _ _ _ (by omega) _ _ _ _ _ _ _ _))).rd (HOB5.out.keep (fun b h1 h2 h3 => (hk' b (by omega) (by rw [four_size]; exact h3) (by omega) (by omega)).trans (four_far _ _ _ (by omega) _ _ _ _ _ _ _ _))).rd
                  · exact row_four (HZ2.out.below HBe5.out HZ2.out.lt) (by omega) _ _ _ _
                exact AllReadyH.nil
              exact AllReadyH.nil
            exact AllReadyH.nil
          refine AllReadyH.cons rfl (fun K hK => ?_) ?_
          · go_simp
            go_at_call 64
            refine (HCb.out _ HBe3.out).mono ?_
            rintro e wz4 ⟨sB, cB, rfl, hown, hbx⟩
            simp only
            have HBe4 := hid (HBe3.out.trans (hbx.mono HBe3.out.size))
            have HSz4 := hid hbx.size
            have HOA4 := hid (HOA3.out.on hbx)
            have kl4 := (hbx.cell (p := ⟨wz0.heap.size, (q : Nat), none⟩) hgl3).trans kl3
            have hgl4 := Nat.lt_of_lt_of_le hgl3 hbx.size
            have HN4 := hid (HN3.out.on hbx)
            have HOB4 := hid hown
            refine hK.out _ _ (HSx.out _ HBe4.out) (fun hHeld => ?_)
            clear hK K hown hbx HOA3 kl3 hgl3 HN3
            (try simp only [Act.put, List.setIfInBounds_toArray, List.set_cons_zero, List.set_cons_succ])
            refine wpAnyH_ready (rs := [4]) (by kernel_rfl) (by simp) ?_
            refine AllReadyH.cons rfl (fun K hK => ?_) ?_
            · go_simp
              refine hK.out _ _ hHeld (fun _ => ?_)
              clear hK K kl4 hgl4
              (try simp only [Act.put, List.setIfInBounds_toArray, List.set_cons_zero, List.set_cons_succ])
              refine wpAnyH_ready (rs := [9]) (by kernel_rfl) (by simp) ?_
              refine AllReadyH.cons rfl (fun K hK => ?_) ?_
              · go_simp
                go_at_call 63
                refine (bin_v HP.out HQ.out _ _ _ _).mono ?_
                rintro e wz5 ⟨sC, cC, rfl, hown, hbx⟩
                simp only
                have HBe5 := hid (HBe4.out.trans (hbx.mono HBe4.out.size))
                have HSz5 := hid hbx.size
                have HOA5 := hid (HOA4.out.on hbx)
                have HOB5 := hid (HOB4.out.on hbx)
                have HN5 := hid (HN4.out.on hbx)
                have HC5 := hid hown
                have HCl := hid (fun r hr => hown.lt r hr)
                refine hK.out _ _ (HSx.out _ HBe5.out) (fun hHeld => ?_)
                clear hK K hown hbx HOA4 HOB4 HN4
                (try simp only [Act.put, List.setIfInBounds_toArray, List.set_cons_zero, List.set_cons_succ])
                refine wpAnyH_ready (rs := [11]) (by kernel_rfl) (by simp) ?_
                refine AllReadyH.cons rfl (fun K hK => ?_) ?_
                · have n0 := HN5.out.cell 0
                  have n1 := HN5.out.cell 1
                  have n2 := HN5.out.cell 2
                  have n3 := HN5.out.cell 3
                  simp at n0 n1 n2 n3
                  have hnf := HN5.out.free
                  have hnl := HN5.out.lt
                  go_simp
                  have hgn := HBe2.out.size
                  refine hK.out _ _ (HSx.out _ (four_bel HBe5.out hgn _ _ _ _)) (fun hHeld => ?_)
                  clear hK K
                  (try simp only [Act.put, List.setIfInBounds_toArray, List.set_cons_zero, List.set_cons_succ])
                  refine wpAnyH_done (by kernel_rfl) ?_ _
                  clear n0 n1 n2 n3 hnf hHeld hwq
                  go_wp2_with fail
                  go_meet
                  have hs0 := HBe0.out.size
                  have hs1 := HSz1.out
                  have hs2 := HSz2.out
                  have hs3 := HSz3.out
                  have hs4 := HSz4.out
                  have hs5 := HSz5.out
                  refine ⟨wz2.heap.size, sC, cC, rfl, by omega, four_row HN5.out _ _ _ _, ?_, ?_, four_bel (HB2.out.trans (HBe5.out.mono HB2.out.size)) (by omega) _ _ _ _⟩
                  · exact fun w' hz' hk' => made_bin (own_same HC5.out (fun r hr => (hk' r (by have := HCl.out r hr; omega) (by rw [four_size]; exact (HC5.out.lt r hr).2) (by have := HCl.out r hr; omega) (by have := HCl.out r hr; omega)).trans (four_far _ _ _ (by have := HCl.out r hr; omega) _ _ _ _ _ _ _ _))) (HOA5.out.keep (fun b h1 h2 h3 => (hk' b (by omega) (by rw [four_size]; exact h3) (by omega) (by omega)).trans (four_far _ _ _ (by omega) _ _ _ _ _ _ _ _))).rd (HOB5.out.keep (fun b h1 h2 h3 => (hk' b (by omega) (by rw [four_size]; exact h3) (by omega) (by omega)).trans (four_far _ _ _ (by omega) _ _ _ _ _ _ _ _))).rd
                  · exact row_four (HZ2.out.below HBe5.out HZ2.out.lt) (by omega) _ _ _ _
                exact AllReadyH.nil
              exact AllReadyH.nil
            exact AllReadyH.nil
          exact AllReadyH.nil
        exact AllReadyH.nil
      refine AllReadyH.cons rfl (fun K hK => ?_) ?_
      · go_simp
        refine hK.out _ _ (HSx.out _ (HBe1.out.alloc HBe1.out.size _)) (fun hHeld => ?_)
        clear hK K
        (try simp only [Act.put, List.setIfInBounds_toArray, List.set_cons_zero, List.set_cons_succ])
        have hal := (Below.refl wz1.heap.size wz1).alloc (Nat.le_refl _) (.cells #[.int .i64 0, .int .i64 0, .string ⟨#[]⟩, .slice none 0 0] 25)
        have HBe2 := hid (HBe1.out.trans (hal.mono HBe1.out.size))
        have HSz2 := hid (show wz1.heap.size < (wz1.alloc (.cells #[.int .i64 0, .int .i64 0, .string ⟨#[]⟩, .slice none 0 0] 25)).heap.size by simp)
        have kl2 := (hal.cell (p := ⟨wz0.heap.size, (q : Nat), none⟩) hgl1).trans kl1
        have hgl2 := Nat.lt_of_lt_of_le hgl1 hal.size
        have HN2 := hid (Row.new wz1 25 #[.int .i64 0, .int .i64 0, .string ⟨#[]⟩, .slice none 0 0])
        clear hal kl1 hgl1
        generalize wz1.alloc (.cells #[.int .i64 0, .int .i64 0, .string ⟨#[]⟩, .slice none 0 0] 25) = wz2 at HBe2 kl2 hgl2 HN2 HSz2 hHeld ⊢
        refine wpAnyH_ready (rs := [4, 6]) (by kernel_rfl) (by simp) ?_
        refine AllReadyH.cons rfl (fun K hK => ?_) ?_
        · go_simp
          refine hK.out _ _ hHeld (fun _ => ?_)
          clear hK K kl2 hgl2
          (try simp only [Act.put, List.setIfInBounds_toArray, List.set_cons_zero, List.set_cons_succ])
          refine wpAnyH_ready (rs := [6]) (by kernel_rfl) (by simp) ?_
          refine AllReadyH.cons rfl (fun K hK => ?_) ?_
          · go_simp
            go_at_call 64
            refine (HCa.out _ HBe2.out).mono ?_
            rintro e wz3 ⟨sA, cA, rfl, hown, hbx⟩
            simp only
            have HBe3 := hid (HBe2.out.trans (hbx.mono HBe2.out.size))
            have HSz3 := hid hbx.size
            have HN3 := hid (HN2.out.on hbx)
            have HOA3 := hid hown
            refine hK.out _ _ (HSx.out _ HBe3.out) (fun hHeld => ?_)
            clear hK K hown hbx HN2
            (try simp only [Act.put, List.setIfInBounds_toArray, List.set_cons_zero, List.set_cons_succ])
            refine wpAnyH_ready (rs := [8]) (by kernel_rfl) (by simp) ?_
            refine AllReadyH.cons rfl (fun K hK => ?_) ?_
            · go_simp
              go_at_call 64
              refine (HCb.out _ HBe3.out).mono ?_
              rintro e wz4 ⟨sB, cB, rfl, hown, hbx⟩
              simp only
              have HBe4 := hid (HBe3.out.trans (hbx.mono HBe3.out.size))
              have HSz4 := hid hbx.size
              have HOA4 := hid (HOA3.out.on hbx)
              have HN4 := hid (HN3.out.on hbx)
              have HOB4 := hid hown
              refine hK.out _ _ (HSx.out _ HBe4.out) (fun hHeld => ?_)
              clear hK K hown hbx HOA3 HN3
              (try simp only [Act.put, List.setIfInBounds_toArray, List.set_cons_zero, List.set_cons_succ])
              refine wpAnyH_ready (rs := [9]) (by kernel_rfl) (by simp) ?_
              refine AllReadyH.cons rfl (fun K hK => ?_) ?_
              · go_simp
                go_at_call 63
                refine (bin_v HP.out HQ.out _ _ _ _).mono ?_
                rintro e wz5 ⟨sC, cC, rfl, hown, hbx⟩
                simp only
                have HBe5 := hid (HBe4.out.trans (hbx.mono HBe4.out.size))
                have HSz5 := hid hbx.size
                have HOA5 := hid (HOA4.out.on hbx)
                have HOB5 := hid (HOB4.out.on hbx)
                have HN5 := hid (HN4.out.on hbx)
                have HC5 := hid hown
                have HCl := hid (fun r hr => hown.lt r hr)
                refine hK.out _ _ (HSx.out _ HBe5.out) (fun hHeld => ?_)
                clear hK K hown hbx HOA4 HOB4 HN4
                (try simp only [Act.put, List.setIfInBounds_toArray, List.set_cons_zero, List.set_cons_succ])
                refine wpAnyH_ready (rs := [11]) (by kernel_rfl) (by simp) ?_
                refine AllReadyH.cons rfl (fun K hK => ?_) ?_
                · have n0 := HN5.out.cell 0
                  have n1 := HN5.out.cell 1
                  have n2 := HN5.out.cell 2
                  have n3 := HN5.out.cell 3
                  simp at n0 n1 n2 n3
                  have hnf := HN5.out.free
                  have hnl := HN5.out.lt
                  go_simp
                  have hgn := HBe1.out.size
                  refine hK.out _ _ (HSx.out _ (four_bel HBe5.out hgn _ _ _ _)) (fun hHeld => ?_)
                  clear hK K
                  (try simp only [Act.put, List.setIfInBounds_toArray, List.set_cons_zero, List.set_cons_succ])
                  refine wpAnyH_done (by kernel_rfl) ?_ _
                  clear n0 n1 n2 n3 hnf hHeld hwq
                  go_wp2_with fail
                  go_meet
                  have hs0 := HBe0.out.size
                  have hs1 := HSz1.out
                  have hs2 := HSz2.out
                  have hs3 := HSz3.out
                  have hs4 := HSz4.out
                  have hs5 := HSz5.out
                  refine ⟨wz1.heap.size, sC, cC, rfl, by omega, four_row HN5.out _ _ _ _, ?_, ?_, four_bel (HB2.out.trans (HBe5.out.mono HB2.out.size)) (by omega) _ _ _ _⟩
                  · exact fun w' hz' hk' => made_bin (own_same HC5.out (fun r hr => (hk' r (by have := HCl.out r hr; omega) (by rw [four_size]; exact (HC5.out.lt r hr).2) (by have := HCl.out r hr; omega) (by have := HCl.out r hr; omega)).trans (four_far _ _ _ (by have := HCl.out r hr; omega) _ _ _ _ _ _ _ _))) (HOA5.out.keep (fun b h1 h2 h3 => (hk' b (by omega) (by rw [four_size]; exact h3) (by omega) (by omega)).trans (four_far _ _ _ (by omega) _ _ _ _ _ _ _ _))).rd (HOB5.out.keep (fun b h1 h2 h3 => (hk' b (by omega) (by rw [four_size]; exact h3) (by omega) (by omega)).trans (four_far _ _ _ (by omega) _ _ _ _ _ _ _ _))).rd
                  · exact row_four (HZ2.out.below HBe5.out HZ2.out.lt) (by omega) _ _ _ _
                exact AllReadyH.nil
              exact AllReadyH.nil
            exact AllReadyH.nil
          exact AllReadyH.nil
        refine AllReadyH.cons rfl (fun K hK => ?_) ?_
        · go_simp
          go_at_call 64
          refine (HCa.out _ HBe2.out).mono ?_
          rintro e wz3 ⟨sA, cA, rfl, hown, hbx⟩
          simp only
          have HBe3 := hid (HBe2.out.trans (hbx.mono HBe2.out.size))
          have HSz3 := hid hbx.size
          have kl3 := (hbx.cell (p := ⟨wz0.heap.size, (q : Nat), none⟩) hgl2).trans kl2
          have hgl3 := Nat.lt_of_lt_of_le hgl2 hbx.size
          have HN3 := hid (HN2.out.on hbx)
          have HOA3 := hid hown
          refine hK.out _ _ (HSx.out _ HBe3.out) (fun hHeld => ?_)
          clear hK K hown hbx kl2 hgl2 HN2
          (try simp only [Act.put, List.setIfInBounds_toArray, List.set_cons_zero, List.set_cons_succ])
          refine wpAnyH_ready (rs := [4, 8]) (by kernel_rfl) (by simp) ?_
          refine AllReadyH.cons rfl (fun K hK => ?_) ?_
          · go_simp
            refine hK.out _ _ hHeld (fun _ => ?_)
            clear hK K kl3 hgl3
            (try simp only [Act.put, List.setIfInBounds_toArray, List.set_cons_zero, List.set_cons_succ])
            refine wpAnyH_ready (rs := [8]) (by kernel_rfl) (by simp) ?_
            refine AllReadyH.cons rfl (fun K hK => ?_) ?_
            · go_simp
              go_at_call 64
              refine (HCb.out _ HBe3.out).mono ?_
              rintro e wz4 ⟨sB, cB, rfl, hown, hbx⟩
              simp only
              have HBe4 := hid (HBe3.out.trans (hbx.mono HBe3.out.size))
              have HSz4 := hid hbx.size
              have HOA4 := hid (HOA3.out.on hbx)
              have HN4 := hid (HN3.out.on hbx)
              have HOB4 := hid hown
              refine hK.out _ _ (HSx.out _ HBe4.out) (fun hHeld => ?_)
              clear hK K hown hbx HOA3 HN3
              (try simp only [Act.put, List.setIfInBounds_toArray, List.set_cons_zero, List.set_cons_succ])
              refine wpAnyH_ready (rs := [9]) (by kernel_rfl) (by simp) ?_
              refine AllReadyH.cons rfl (fun K hK => ?_) ?_
              · go_simp
                go_at_call 63
                refine (bin_v HP.out HQ.out _ _ _ _).mono ?_
                rintro e wz5 ⟨sC, cC, rfl, hown, hbx⟩
                simp only
                have HBe5 := hid (HBe4.out.trans (hbx.mono HBe4.out.size))
                have HSz5 := hid hbx.size
                have HOA5 := hid (HOA4.out.on hbx)
                have HOB5 := hid (HOB4.out.on hbx)
                have HN5 := hid (HN4.out.on hbx)
                have HC5 := hid hown
                have HCl := hid (fun r hr => hown.lt r hr)
                refine hK.out _ _ (HSx.out _ HBe5.out) (fun hHeld => ?_)
                clear hK K hown hbx HOA4 HOB4 HN4
                (try simp only [Act.put, List.setIfInBounds_toArray, List.set_cons_zero, List.set_cons_succ])
                refine wpAnyH_ready (rs := [11]) (by kernel_rfl) (by simp) ?_
                refine AllReadyH.cons rfl (fun K hK => ?_) ?_
                · have n0 := HN5.out.cell 0
                  have n1 := HN5.out.cell 1
                  have n2 := HN5.out.cell 2
                  have n3 := HN5.out.cell 3
                  simp at n0 n1 n2 n3
                  have hnf := HN5.out.free
                  have hnl := HN5.out.lt
                  go_simp
                  have hgn := HBe1.out.size
                  refine hK.out _ _ (HSx.out _ (four_bel HBe5.out hgn _ _ _ _)) (fun hHeld => ?_)
                  clear hK K
                  (try simp only [Act.put, List.setIfInBounds_toArray, List.set_cons_zero, List.set_cons_succ])
                  refine wpAnyH_done (by kernel_rfl) ?_ _
                  clear n0 n1 n2 n3 hnf hHeld hwq
                  go_wp2_with fail
                  go_meet
                  have hs0 := HBe0.out.size
                  have hs1 := HSz1.out
                  have hs2 := HSz2.out
                  have hs3 := HSz3.out
                  have hs4 := HSz4.out
                  have hs5 := HSz5.out
                  refine ⟨wz1.heap.size, sC, cC, rfl, by omega, four_row HN5.out _ _ _ _, ?_, ?_, four_bel (HB2.out.trans (HBe5.out.mono HB2.out.size)) (by omega) _ _ _ _⟩
                  · exact fun w' hz' hk' => made_bin (own_same HC5.out (fun r hr => (hk' r (by have := HCl.out r hr; omega) (by rw [four_size]; exact (HC5.out.lt r hr).2) (by have := HCl.out r hr; omega) (by have := HCl.out r hr; omega)).trans (four_far _ _ _ (by have := HCl.out r hr; omega) _ _ _ _ _ _ _ _))) (HOA5.out.keep (fun b h1 h2 h3 => (hk' b (by omega) (by rw [four_size]; exact h3) (by omega) (by omega)).trans (four_far _ _ _ (by omega) _ _ _ _ _ _ _ _))).rd (HOB5.out.keep (fun b h1 h2 h3 => (hk' b (by omega) (by rw [four_size]; exact h3) (by omega) (by omega)).trans (four_far _ _ _ (by omega) _ _ _ _ _ _ _ _))).rd
                  · exact row_four (HZ2.out.below HBe5.out HZ2.out.lt) (by omega) _ _ _ _
                exact AllReadyH.nil
              exact AllReadyH.nil
            exact AllReadyH.nil
          refine AllReadyH.cons rfl (fun K hK => ?_) ?_
          · go_simp
            go_at_call 64
            refine (HCb.out _ HBe3.out).mono ?_
            rintro e wz4 ⟨sB, cB, rfl, hown, hbx⟩
            simp only
            have HBe4 := hid (HBe3.out.trans (hbx.mono HBe3.out.size))
            have HSz4 := hid hbx.size
            have HOA4 := hid (HOA3.out.on hbx)
            have kl4 := (hbx.cell (p := ⟨wz0.heap.size, (q : Nat), none⟩) hgl3).trans kl3
            have hgl4 := Nat.lt_of_lt_of_le hgl3 hbx.size
            have HN4 := hid (HN3.out.on hbx)
            have HOB4 := hid hown
            refine hK.out _ _ (HSx.out _ HBe4.out) (fun hHeld => ?_)
            clear hK K hown hbx HOA3 kl3 hgl3 HN3
            (try simp only [Act.put, List.setIfInBounds_toArray, List.set_cons_zero, List.set_cons_succ])
            refine wpAnyH_ready (rs := [4]) (by kernel_rfl) (by simp) ?_
            refine AllReadyH.cons rfl (fun K hK => ?_) ?_
            · go_simp
              refine hK.out _ _ hHeld (fun _ => ?_)
              clear hK K kl4 hgl4
              (try simp only [Act.put, List.setIfInBounds_toArray, List.set_cons_zero, List.set_cons_succ])
              refine wpAnyH_ready (rs := [9]) (by kernel_rfl) (by simp) ?_
              refine AllReadyH.cons rfl (fun K hK => ?_) ?_
              · go_simp
                go_at_call 63
                refine (bin_v HP.out HQ.out _ _ _ _).mono ?_
                rintro e wz5 ⟨sC, cC, rfl, hown, hbx⟩
                simp only
                have HBe5 := hid (HBe4.out.trans (hbx.mono HBe4.out.size))
                have HSz5 := hid hbx.size
                have HOA5 := hid (HOA4.out.on hbx)
                have HOB5 := hid (HOB4.out.on hbx)
                have HN5 := hid (HN4.out.on hbx)
                have HC5 := hid hown
                have HCl := hid (fun r hr => hown.lt r hr)
                refine hK.out _ _ (HSx.out _ HBe5.out) (fun hHeld => ?_)
                clear hK K hown hbx HOA4 HOB4 HN4
                (try simp only [Act.put, List.setIfInBounds_toArray, List.set_cons_zero, List.set_cons_succ])
                refine wpAnyH_ready (rs := [11]) (by kernel_rfl) (by simp) ?_
                refine AllReadyH.cons rfl (fun K hK => ?_) ?_
                · have n0 := HN5.out.cell 0
                  have n1 := HN5.out.cell 1
                  have n2 := HN5.out.cell 2
                  have n3 := HN5.out.cell 3
                  simp at n0 n1 n2 n3
                  have hnf := HN5.out.free
                  have hnl := HN5.out.lt
                  go_simp
                  have hgn := HBe1.out.size
                  refine hK.out _ _ (HSx.out _ (four_bel HBe5.out hgn _ _ _ _)) (fun hHeld => ?_)
                  clear hK K
                  (try simp only [Act.put, List.setIfInBounds_toArray, List.set_cons_zero, List.set_cons_succ])
                  refine wpAnyH_done (by kernel_rfl) ?_ _
                  clear n0 n1 n2 n3 hnf hHeld hwq
                  go_wp2_with fail
                  go_meet
                  have hs0 := HBe0.out.size
                  have hs1 := HSz1.out
                  have hs2 := HSz2.out
                  have hs3 := HSz3.out
                  have hs4 := HSz4.out
                  have hs5 := HSz5.out
                  refine ⟨wz1.heap.size, sC, cC, rfl, by omega, four_row HN5.out _ _ _ _, ?_, ?_, four_bel (HB2.out.trans (HBe5.out.mono HB2.out.size)) (by omega) _ _ _ _⟩
                  · exact fun w' hz' hk' => made_bin (own_same HC5.out (fun r hr => (hk' r (by have := HCl.out r hr; omega) (by rw [four_size]; exact (HC5.out.lt r hr).2) (by have := HCl.out r hr; omega) (by have := HCl.out r hr; omega)).trans (four_far _ _ _ (by have := HCl.out r hr; omega) _ _ _ _ _ _ _ _))) (HOA5.out.keep (fun b h1 h2 h3 => (hk' b (by omega) (by rw [four_size]; exact h3) (by omega) (by omega)).trans (four_far _ _ _ (by omega) _ _ _ _ _ _ _ _))).rd (HOB5.out.keep (fun b h1 h2 h3 => (hk' b (by omega) (by rw [four_size]; exact h3) (by omega) (by omega)).trans (four_far _ _ _ (by omega) _ _ _ _ _ _ _ _))).rd
                  · exact row_four (HZ2.out.below HBe5.out HZ2.out.lt) (by omega) _ _ _ _
                exact AllReadyH.nil
              exact AllReadyH.nil
            exact AllReadyH.nil
          exact AllReadyH.nil
        exact AllReadyH.nil
      exact AllReadyH.nil
    refine AllReadyH.cons rfl (fun K hK => ?_) ?_
    · go_simp
      go_at_call 64
      refine (HCa.out _ HBe0.out).mono ?_
      rintro e wz1 ⟨sA, cA, rfl, hown, hbx⟩
      simp only
      have HBe1 := hid (HBe0.out.trans (hbx.mono HBe0.out.size))
      have HSz1 := hid hbx.size
      have HOA1 := hid hown
      refine hK.out _ _ (HSx.out _ HBe1.out) (fun hHeld => ?_)
      clear hK K hown hbx 
      (try simp only [Act.put, List.setIfInBounds_toArray, List.set_cons_zero, List.set_cons_succ])
      refine wpAnyH_ready (rs := [0, 8, 10]) (by kernel_rfl) (by simp) ?_
      refine AllReadyH.cons rfl (fun K hK => ?_) ?_
      · go_simp
        refine hK.out _ _ (HSx.out _ (HBe1.out.alloc HBe1.out.size _)) (fun hHeld => ?_)
        clear hK K
        (try simp only [Act.put, List.setIfInBounds_toArray, List.set_cons_zero, List.set_cons_succ])
        have hal := (Below.refl wz1.heap.size wz1).alloc (Nat.le_refl _) (.cells #[.string ⟨#[61, 61]⟩, .string ⟨#[60]⟩, .string ⟨#[60, 60]⟩] 9)
        have HBe2 := hid (HBe1.out.trans (hal.mono HBe1.out.size))
        have HSz2 := hid (show wz1.heap.size < (wz1.alloc (.cells #[.string ⟨#[61, 61]⟩, .string ⟨#[60]⟩, .string ⟨#[60, 60]⟩] 9)).heap.size by simp)
        have HOA2 := hid (HOA1.out.on hal)
        have kl2 := lit_cell wz1 q s HLit.out
        have hgl2 : wz1.heap.size < (wz1.alloc (.cells #[.string ⟨#[61, 61]⟩, .string ⟨#[60]⟩, .string ⟨#[60, 60]⟩] 9)).heap.size := by simp
        clear hal HOA1
        generalize wz1.alloc (.cells #[.string ⟨#[61, 61]⟩, .string ⟨#[60]⟩, .string ⟨#[60, 60]⟩] 9) = wz2 at HBe2 HOA2 kl2 hgl2 HSz2 hHeld ⊢
        refine wpAnyH_take (i := 3) (v := _) rfl (by kernel_rfl) (by kernel_rfl) (by kernel_rfl) (fun _ _ _ h => h) (Or.inl ⟨by rfl, by (intro w hSw; go_simp; first | done | with_reducible rfl)⟩) hHeld ?_
        (try simp only [Act.put, List.setIfInBounds_toArray, List.set_cons_zero, List.set_cons_succ])
        refine wpAnyH_ready (rs := [4, 8, 10]) (by kernel_rfl) (by simp) ?_
        refine AllReadyH.cons rfl (fun K hK => ?_) ?_
        · go_simp
          refine hK.out _ _ hHeld (fun _ => ?_)
          clear hK K kl2 hgl2
          (try simp only [Act.put, List.setIfInBounds_toArray, List.set_cons_zero, List.set_cons_succ])
          refine wpAnyH_ready (rs := [8, 10]) (by kernel_rfl) (by simp) ?_
          refine AllReadyH.cons rfl (fun K hK => ?_) ?_
          · go_simp
            go_at_call 64
            refine (HCb.out _ HBe2.out).mono ?_
            rintro e wz3 ⟨sB, cB, rfl, hown, hbx⟩
            simp only
            have HBe3 := hid (HBe2.out.trans (hbx.mono HBe2.out.size))
            have HSz3 := hid hbx.size
            have HOA3 := hid (HOA2.out.on hbx)
            have HOB3 := hid hown
            refine hK.out _ _ (HSx.out _ HBe3.out) (fun hHeld => ?_)
            clear hK K hown hbx HOA2
            (try simp only [Act.put, List.setIfInBounds_toArray, List.set_cons_zero, List.set_cons_succ])
            refine wpAnyH_ready (rs := [9, 10]) (by kernel_rfl) (by simp) ?_
            refine AllReadyH.cons rfl (fun K hK => ?_) ?_
            · go_simp
              go_at_call 63
              refine (bin_v HP.out HQ.out _ _ _ _).mono ?_
              rintro e wz4 ⟨sC, cC, rfl, hown, hbx⟩
              simp only
              have HBe4 := hid (HBe3.out.trans (hbx.mono HBe3.out.size))
              have HSz4 := hid hbx.size
              have HOA4 := hid (HOA3.out.on hbx)
              have HOB4 := hid (HOB3.out.on hbx)
              have HC4 := hid hown
              have HCl := hid (fun r hr => hown.lt r hr)
              refine hK.out _ _ (HSx.out _ HBe4.out) (fun hHeld => ?_)
              clear hK K hown hbx HOA3 HOB3
              (try simp only [Act.put, List.setIfInBounds_toArray, List.set_cons_zero, List.set_cons_succ])
              refine wpAnyH_ready (rs := [10]) (by kernel_rfl) (by simp) ?_
              refine AllReadyH.cons rfl (fun K hK => ?_) ?_
              · go_simp
                refine hK.out _ _ (HSx.out _ (HBe4.out.alloc HBe4.out.size _)) (fun hHeld => ?_)
                clear hK K
                (try simp only [Act.put, List.setIfInBounds_toArray, List.set_cons_zero, List.set_cons_succ])
                have hal := (Below.refl wz4.heap.size wz4).alloc (Nat.le_refl _) (.cells #[.int .i64 0, .int .i64 0, .string ⟨#[]⟩, .slice none 0 0] 25)
                have HBe5 := hid (HBe4.out.trans (hal.mono HBe4.out.size))
                have HSz5 := hid (show wz4.heap.size < (wz4.alloc (.cells #[.int .i64 0, .int .i64 0, .string ⟨#[]⟩, .slice none 0 0] 25)).heap.size by simp)
                have HOA5 := hid (HOA4.out.on hal)
                have HOB5 := hid (HOB4.out.on hal)
                have HC5 := hid (own_on HC4.out hal)
                have HN5 := hid (Row.new wz4 25 #[.int .i64 0, .int .i64 0, .string ⟨#[]⟩, .slice none 0 0])
                clear hal HOA4 HOB4 HC4
                generalize wz4.alloc (.cells #[.int .i64 0, .int .i64 0, .string ⟨#[]⟩, .slice none 0 0] 25) = wz5 at HBe5 HOA5 HOB5 HN5 HC5 HSz5 hHeld ⊢
                refine wpAnyH_ready (rs := [11]) (by kernel_rfl) (by simp) ?_
                refine AllReadyH.cons rfl (fun K hK => ?_) ?_
                · have n0 := HN5.out.cell 0
                  have n1 := HN5.out.cell 1
                  have n2 := HN5.out.cell 2
                  have n3 := HN5.out.cell 3
                  simp at n0 n1 n2 n3
                  have hnf := HN5.out.free
                  have hnl := HN5.out.lt
                  go_simp
                  have hgn := HBe4.out.size
                  refine hK.out _ _ (HSx.out _ (four_bel HBe5.out hgn _ _ _ _)) (fun hHeld => ?_)
                  clear hK K
                  (try simp only [Act.put, List.setIfInBounds_toArray, List.set_cons_zero, List.set_cons_succ])
                  refine wpAnyH_done (by kernel_rfl) ?_ _
                  clear n0 n1 n2 n3 hnf hHeld hwq
                  go_wp2_with fail
                  go_meet
                  have hs0 := HBe0.out.size
                  have hs1 := HSz1.out
                  have hs2 := HSz2.out
                  have hs3 := HSz3.out
                  have hs4 := HSz4.out
                  have hs5 := HSz5.out
                  refine ⟨wz4.heap.size, sC, cC, rfl, by omega, four_row HN5.out _ _ _ _, ?_, ?_, four_bel (HB2.out.trans (HBe5.out.mono HB2.out.size)) (by omega) _ _ _ _⟩
                  · exact fun w' hz' hk' => made_bin (own_same HC5.out (fun r hr => (hk' r (by have := HCl.out r hr; omega) (by rw [four_size]; exact (HC5.out.lt r hr).2) (by have := HCl.out r hr; omega) (by have := HCl.out r hr; omega)).trans (four_far _ _ _ (by have := HCl.out r hr; omega) _ _ _ _ _ _ _ _))) (HOA5.out.keep (fun b h1 h2 h3 => (hk' b (by omega) (by rw [four_size]; exact h3) (by omega) (by omega)).trans (four_far _ _ _ (by omega) _ _ _ _ _ _ _ _))).rd (HOB5.out.keep (fun b h1 h2 h3 => (hk' b (by omega) (by rw [four_size]; exact h3) (by omega) (by omega)).trans (four_far _ _ _ (by omega) _ _ _ _ _ _ _ _))).rd
                  · exact row_four (HZ2.out.below HBe5.out HZ2.out.lt) (by omega) _ _ _ _
                exact AllReadyH.nil
              exact AllReadyH.nil
            refine AllReadyH.cons rfl (fun K hK => ?_) ?_
            · go_simp
              refine hK.out _ _ (HSx.out _ (HBe3.out.alloc HBe3.out.size _)) (fun hHeld => ?_)
              clear hK K
              (try simp only [Act.put, List.setIfInBounds_toArray, List.set_cons_zero, List.set_cons_succ])
              have hal := (Below.refl wz3.heap.size wz3).alloc (Nat.le_refl _) (.cells #[.int .i64 0, .int .i64 0, .string ⟨#[]⟩, .slice none 0 0] 25)
              have HBe4 := hid (HBe3.out.trans (hal.mono HBe3.out.size))
              have HSz4 := hid (show wz3.heap.size < (wz3.alloc (.cells #[.int .i64 0, .int .i64 0, .string ⟨#[]⟩, .slice none 0 0] 25)).heap.size by simp)
              have HOA4 := hid (HOA3.out.on hal)
              have HOB4 := hid (HOB3.out.on hal)
              have HN4 := hid (Row.new wz3 25 #[.int .i64 0, .int .i64 0, .string ⟨#[]⟩, .slice none 0 0])
              clear hal HOA3 HOB3
              generalize wz3.alloc (.cells #[.int .i64 0, .int .i64 0, .string ⟨#[]⟩, .slice none 0 0] 25) = wz4 at HBe4 HOA4 HOB4 HN4 HSz4 hHeld ⊢
              refine wpAnyH_ready (rs := [9]) (by kernel_rfl) (by simp) ?_
              refine AllReadyH.cons rfl (fun K hK => ?_) ?_
              · go_simp
                go_at_call 63
                refine (bin_v HP.out HQ.out _ _ _ _).mono ?_
                rintro e wz5 ⟨sC, cC, rfl, hown, hbx⟩
                simp only
                have HBe5 := hid (HBe4.out.trans (hbx.mono HBe4.out.size))
                have HSz5 := hid hbx.size
                have HOA5 := hid (HOA4.out.on hbx)
                have HOB5 := hid (HOB4.out.on hbx)
                have HN5 := hid (HN4.out.on hbx)
                have HC5 := hid hown
                have HCl := hid (fun r hr => hown.lt r hr)
                refine hK.out _ _ (HSx.out _ HBe5.out) (fun hHeld => ?_)
                clear hK K hown hbx HOA4 HOB4 HN4
                (try simp only [Act.put, List.setIfInBounds_toArray, List.set_cons_zero, List.set_cons_succ])
                refine wpAnyH_ready (rs := [11]) (by kernel_rfl) (by simp) ?_
                refine AllReadyH.cons rfl (fun K hK => ?_) ?_
                · have n0 := HN5.out.cell 0
                  have n1 := HN5.out.cell 1
                  have n2 := HN5.out.cell 2
                  have n3 := HN5.out.cell 3
                  simp at n0 n1 n2 n3
                  have hnf := HN5.out.free
                  have hnl := HN5.out.lt
                  go_simp
                  have hgn := HBe3.out.size
                  refine hK.out _ _ (HSx.out _ (four_bel HBe5.out hgn _ _ _ _)) (fun hHeld => ?_)
                  clear hK K
                  (try simp only [Act.put, List.setIfInBounds_toArray, List.set_cons_zero, List.set_cons_succ])
                  refine wpAnyH_done (by kernel_rfl) ?_ _
                  clear n0 n1 n2 n3 hnf hHeld hwq
                  go_wp2_with fail
                  go_meet
                  have hs0 := HBe0.out.size
                  have hs1 := HSz1.out
                  have hs2 := HSz2.out
                  have hs3 := HSz3.out
                  have hs4 := HSz4.out
                  have hs5 := HSz5.out
                  refine ⟨wz3.heap.size, sC, cC, rfl, by omega, four_row HN5.out _ _ _ _, ?_, ?_, four_bel (HB2.out.trans (HBe5.out.mono HB2.out.size)) (by omega) _ _ _ _⟩
                  · exact fun w' hz' hk' => made_bin (own_same HC5.out (fun r hr => (hk' r (by have := HCl.out r hr; omega) (by rw [four_size]; exact (HC5.out.lt r hr).2) (by have := HCl.out r hr; omega) (by have := HCl.out r hr; omega)).trans (four_far _ _ _ (by have := HCl.out r hr; omega) _ _ _ _ _ _ _ _))) (HOA5.out.keep (fun b h1 h2 h3 => (hk' b (by omega) (by rw [four_size]; exact h3) (by omega) (by omega)).trans (four_far _ _ _ (by omega) _ _ _ _ _ _ _ _))).rd (HOB5.out.keep (fun b h1 h2 h3 => (hk' b (by omega) (by rw [four_size]; exact h3) (by omega) (by omega)).trans (four_far _ _ _ (by omega) _ _ _ _ _ _ _ _))).rd
                  · exact row_four (HZ2.out.below HBe5.out HZ2.out.lt) (by omega) _ _ _ _
                exact AllReadyH.nil
              exact AllReadyH.nil
            exact AllReadyH.nil
          refine AllReadyH.cons rfl (fun K hK => ?_) ?_
          · go_simp
            refine hK.out _ _ (HSx.out _ (HBe2.out.alloc HBe2.out.size _)) (fun hHeld => ?_)
            clear hK K
            (try simp only [Act.put, List.setIfInBounds_toArray, List.set_cons_zero, List.set_cons_succ])
            have hal := (Below.refl wz2.heap.size wz2).alloc (Nat.le_refl _) (.cells #[.int .i64 0, .int .i64 0, .string ⟨#[]⟩, .slice none 0 0] 25)
            have HBe3 := hid (HBe2.out.trans (hal.mono HBe2.out.size))
            have HSz3 := hid (show wz2.heap.size < (wz2.alloc (.cells #[.int .i64 0, .int .i64 0, .string ⟨#[]⟩, .slice none 0 0] 25)).heap.size by simp)
            have HOA3 := hid (HOA2.out.on hal)
            have HN3 := hid (Row.new wz2 25 #[.int .i64 0, .int .i64 0, .string ⟨#[]⟩, .slice none 0 0])
            clear hal HOA2
            generalize wz2.alloc (.cells #[.int .i64 0, .int .i64 0, .string ⟨#[]⟩, .slice none 0 0] 25) = wz3 at HBe3 HOA3 HN3 HSz3 hHeld ⊢
            refine wpAnyH_ready (rs := [8]) (by kernel_rfl) (by simp) ?_
            refine AllReadyH.cons rfl (fun K hK => ?_) ?_
            · go_simp
              go_at_call 64
              refine (HCb.out _ HBe3.out).mono ?_
              rintro e wz4 ⟨sB, cB, rfl, hown, hbx⟩
              simp only
              have HBe4 := hid (HBe3.out.trans (hbx.mono HBe3.out.size))
              have HSz4 := hid hbx.size
              have HOA4 := hid (HOA3.out.on hbx)
              have HN4 := hid (HN3.out.on hbx)
              have HOB4 := hid hown
              refine hK.out _ _ (HSx.out _ HBe4.out) (fun hHeld => ?_)
              clear hK K hown hbx HOA3 HN3
              (try simp only [Act.put, List.setIfInBounds_toArray, List.set_cons_zero, List.set_cons_succ])
              refine wpAnyH_ready (rs := [9]) (by kernel_rfl) (by simp) ?_
              refine AllReadyH.cons rfl (fun K hK => ?_) ?_
              · go_simp
                go_at_call 63
                refine (bin_v HP.out HQ.out _ _ _ _).mono ?_
                rintro e wz5 ⟨sC, cC, rfl, hown, hbx⟩
                simp only
                have HBe5 := hid (HBe4.out.trans (hbx.mono HBe4.out.size))
                have HSz5 := hid hbx.size
                have HOA5 := hid (HOA4.out.on hbx)
                have HOB5 := hid (HOB4.out.on hbx)
                have HN5 := hid (HN4.out.on hbx)
                have HC5 := hid hown
                have HCl := hid (fun r hr => hown.lt r hr)
                refine hK.out _ _ (HSx.out _ HBe5.out) (fun hHeld => ?_)
                clear hK K hown hbx HOA4 HOB4 HN4
                (try simp only [Act.put, List.setIfInBounds_toArray, List.set_cons_zero, List.set_cons_succ])
                refine wpAnyH_ready (rs := [11]) (by kernel_rfl) (by simp) ?_
                refine AllReadyH.cons rfl (fun K hK => ?_) ?_
                · have n0 := HN5.out.cell 0
                  have n1 := HN5.out.cell 1
                  have n2 := HN5.out.cell 2
                  have n3 := HN5.out.cell 3
                  simp at n0 n1 n2 n3
                  have hnf := HN5.out.free
                  have hnl := HN5.out.lt
                  go_simp
                  have hgn := HBe2.out.size
                  refine hK.out _ _ (HSx.out _ (four_bel HBe5.out hgn _ _ _ _)) (fun hHeld => ?_)
                  clear hK K
                  (try simp only [Act.put, List.setIfInBounds_toArray, List.set_cons_zero, List.set_cons_succ])
                  refine wpAnyH_done (by kernel_rfl) ?_ _
                  clear n0 n1 n2 n3 hnf hHeld hwq
                  go_wp2_with fail
                  go_meet
                  have hs0 := HBe0.out.size
                  have hs1 := HSz1.out
                  have hs2 := HSz2.out
                  have hs3 := HSz3.out
                  have hs4 := HSz4.out
                  have hs5 := HSz5.out
                  refine ⟨wz2.heap.size, sC, cC, rfl, by omega, four_row HN5.out _ _ _ _, ?_, ?_, four_bel (HB2.out.trans (HBe5.out.mono HB2.out.size)) (by omega) _ _ _ _⟩
                  · exact fun w' hz' hk' => made_bin (own_same HC5.out (fun r hr => (hk' r (by have := HCl.out r hr; omega) (by rw [four_size]; exact (HC5.out.lt r hr).2) (by have := HCl.out r hr; omega) (by have := HCl.out r hr; omega)).trans (four_far _ _ _ (by have := HCl.out r hr; omega) _ _ _ _ _ _ _ _))) (HOA5.out.keep (fun b h1 h2 h3 => (hk' b (by omega) (by rw [four_size]; exact h3) (by omega) (by omega)).trans (four_far _ _ _ (by omega) _ _ _ _ _ _ _ _))).rd (HOB5.out.keep (fun b h1 h2 h3 => (hk' b (by omega) (by rw [four_size]; exact h3) (by omega) (by omega)).trans (four_far _ _ _ (by omega) _ _ _ _ _ _ _ _))).rd
                  · exact row_four (HZ2.out.below HBe5.out HZ2.out.lt) (by omega) _ _ _ _
                exact AllReadyH.nil
              exact AllReadyH.nil
            exact AllReadyH.nil
          exact AllReadyH.nil
        refine AllReadyH.cons rfl (fun K hK => ?_) ?_
        · go_simp
          go_at_call 64
          refine (HCb.out _ HBe2.out).mono ?_
          rintro e wz3 ⟨sB, cB, rfl, hown, hbx⟩
          simp only
          have HBe3 := hid (HBe2.out.trans (hbx.mono HBe2.out.size))
          have HSz3 := hid hbx.size
          have HOA3 := hid (HOA2.out.on hbx)
          have kl3 := (hbx.cell (p := ⟨wz1.heap.size, (q : Nat), none⟩) hgl2).trans kl2
          have hgl3 := Nat.lt_of_lt_of_le hgl2 hbx.size
          have HOB3 := hid hown
          refine hK.out _ _ (HSx.out _ HBe3.out) (fun hHeld => ?_)
          clear hK K hown hbx HOA2 kl2 hgl2
          (try simp only [Act.put, List.setIfInBounds_toArray, List.set_cons_zero, List.set_cons_succ])
          refine wpAnyH_ready (rs := [4, 10]) (by kernel_rfl) (by simp) ?_
          refine AllReadyH.cons rfl (fun K hK => ?_) ?_
          · go_simp
            refine hK.out _ _ hHeld (fun _ => ?_)
            clear hK K kl3 hgl3
            (try simp only [Act.put, List.setIfInBounds_toArray, List.set_cons_zero, List.set_cons_succ])
            refine wpAnyH_ready (rs := [9, 10]) (by kernel_rfl) (by simp) ?_
            refine AllReadyH.cons rfl (fun K hK => ?_) ?_
            · go_simp
              go_at_call 63
              refine (bin_v HP.out HQ.out _ _ _ _).mono ?_
              rintro e wz4 ⟨sC, cC, rfl, hown, hbx⟩
              simp only
              have HBe4 := hid (HBe3.out.trans (hbx.mono HBe3.out.size))
              have HSz4 := hid hbx.size
              have HOA4 := hid (HOA3.out.on hbx)
              have HOB4 := hid (HOB3.out.on hbx)
              have HC4 := hid hown
              have HCl := hid (fun r hr => hown.lt r hr)
              refine hK.out _ _ (HSx.out _ HBe4.out) (fun hHeld => ?_)
              clear hK K hown hbx HOA3 HOB3
              (try simp only [Act.put, List.setIfInBounds_toArray, List.set_cons_zero, List.set_cons_succ])
              refine wpAnyH_ready (rs := [10]) (by kernel_rfl) (by simp) ?_
              refine AllReadyH.cons rfl (fun K hK => ?_) ?_
              · go_simp
                refine hK.out _ _ (HSx.out _ (HBe4.out.alloc HBe4.out.size _)) (fun hHeld => ?_)
                clear hK K
                (try simp only [Act.put, List.setIfInBounds_toArray, List.set_cons_zero, List.set_cons_succ])
                have hal := (Below.refl wz4.heap.size wz4).alloc (Nat.le_refl _) (.cells #[.int .i64 0, .int .i64 0, .string ⟨#[]⟩, .slice none 0 0] 25)
                have HBe5 := hid (HBe4.out.trans (hal.mono HBe4.out.size))
                have HSz5 := hid (show wz4.heap.size < (wz4.alloc (.cells #[.int .i64 0, .int .i64 0, .string ⟨#[]⟩, .slice none 0 0] 25)).heap.size by simp)
                have HOA5 := hid (HOA4.out.on hal)
                have HOB5 := hid (HOB4.out.on hal)
                have HC5 := hid (own_on HC4.out hal)
                have HN5 := hid (Row.new wz4 25 #[.int .i64 0, .int .i64 0, .string ⟨#[]⟩, .slice none 0 0])
                clear hal HOA4 HOB4 HC4
                generalize wz4.alloc (.cells #[.int .i64 0, .int .i64 0, .string ⟨#[]⟩, .slice none 0 0] 25) = wz5 at HBe5 HOA5 HOB5 HN5 HC5 HSz5 hHeld ⊢
                refine wpAnyH_ready (rs := [11]) (by kernel_rfl) (by simp) ?_
                refine AllReadyH.cons rfl (fun K hK => ?_) ?_
                · have n0 := HN5.out.cell 0
                  have n1 := HN5.out.cell 1
                  have n2 := HN5.out.cell 2
                  have n3 := HN5.out.cell 3
                  simp at n0 n1 n2 n3
                  have hnf := HN5.out.free
                  have hnl := HN5.out.lt
                  go_simp
                  have hgn := HBe4.out.size
                  refine hK.out _ _ (HSx.out _ (four_bel HBe5.out hgn _ _ _ _)) (fun hHeld => ?_)
                  clear hK K
                  (try simp only [Act.put, List.setIfInBounds_toArray, List.set_cons_zero, List.set_cons_succ])
                  refine wpAnyH_done (by kernel_rfl) ?_ _
                  clear n0 n1 n2 n3 hnf hHeld hwq
                  go_wp2_with fail
                  go_meet
                  have hs0 := HBe0.out.size
                  have hs1 := HSz1.out
                  have hs2 := HSz2.out
                  have hs3 := HSz3.out
                  have hs4 := HSz4.out
                  have hs5 := HSz5.out
                  refine ⟨wz4.heap.size, sC, cC, rfl, by omega, four_row HN5.out _ _ _ _, ?_, ?_, four_bel (HB2.out.trans (HBe5.out.mono HB2.out.size)) (by omega) _ _ _ _⟩
                  · exact fun w' hz' hk' => made_bin (own_same HC5.out (fun r hr => (hk' r (by have := HCl.out r hr; omega) (by rw [four_size]; exact (HC5.out.lt r hr).2) (by have := HCl.out r hr; omega) (by have := HCl.out r hr; omega)).trans (four_far _ _ _ (by have := HCl.out r hr; omega) _ _ _ _ _ _ _ _))) (HOA5.out.keep (fun b h1 h2 h3 => (hk' b (by omega) (by rw [four_size]; exact h3) (by omega) (by omega)).trans (four_far _ _ _ (by omega) _ _ _ _ _ _ _ _))).rd (HOB5.out.keep (fun b h1 h2 h3 => (hk' b (by omega) (by rw [four_size]; exact h3) (by omega) (by omega)).trans (four_far _ _ _ (by omega) _ _ _ _ _ _ _ _))).rd
                  · exact row_four (HZ2.out.below HBe5.out HZ2.out.lt) (by omega) _ _ _ _
                exact AllReadyH.nil
              exact AllReadyH.nil
            refine AllReadyH.cons rfl (fun K hK => ?_) ?_
            · go_simp
              refine hK.out _ _ (HSx.out _ (HBe3.out.alloc HBe3.out.size _)) (fun hHeld => ?_)
              clear hK K
              (try simp only [Act.put, List.setIfInBounds_toArray, List.set_cons_zero, List.set_cons_succ])
              have hal := (Below.refl wz3.heap.size wz3).alloc (Nat.le_refl _) (.cells #[.int .i64 0, .int .i64 0, .string ⟨#[]⟩, .slice none 0 0] 25)
              have HBe4 := hid (HBe3.out.trans (hal.mono HBe3.out.size))
              have HSz4 := hid (show wz3.heap.size < (wz3.alloc (.cells #[.int .i64 0, .int .i64 0, .string ⟨#[]⟩, .slice none 0 0] 25)).heap.size by simp)
              have HOA4 := hid (HOA3.out.on hal)
              have HOB4 := hid (HOB3.out.on hal)
              have HN4 := hid (Row.new wz3 25 #[.int .i64 0, .int .i64 0, .string ⟨#[]⟩, .slice none 0 0])
              clear hal HOA3 HOB3
              generalize wz3.alloc (.cells #[.int .i64 0, .int .i64 0, .string ⟨#[]⟩, .slice none 0 0] 25) = wz4 at HBe4 HOA4 HOB4 HN4 HSz4 hHeld ⊢
              refine wpAnyH_ready (rs := [9]) (by kernel_rfl) (by simp) ?_
              refine AllReadyH.cons rfl (fun K hK => ?_) ?_
              · go_simp
                go_at_call 63
                refine (bin_v HP.out HQ.out _ _ _ _).mono ?_
                rintro e wz5 ⟨sC, cC, rfl, hown, hbx⟩
                simp only
                have HBe5 := hid (HBe4.out.trans (hbx.mono HBe4.out.size))
                have HSz5 := hid hbx.size
                have HOA5 := hid (HOA4.out.on hbx)
                have HOB5 := hid (HOB4.out.on hbx)
                have HN5 := hid (HN4.out.on hbx)
                have HC5 := hid hown
                have HCl := hid (fun r hr => hown.lt r hr)
                refine hK.out _ _ (HSx.out _ HBe5.out) (fun hHeld => ?_)
                clear hK K hown hbx HOA4 HOB4 HN4
                (try simp only [Act.put, List.setIfInBounds_toArray, List.set_cons_zero, List.set_cons_succ])
                refine wpAnyH_ready (rs := [11]) (by kernel_rfl) (by simp) ?_
                refine AllReadyH.cons rfl (fun K hK => ?_) ?_
                · have n0 := HN5.out.cell 0
                  have n1 := HN5.out.cell 1
                  have n2 := HN5.out.cell 2
                  have n3 := HN5.out.cell 3
                  simp at n0 n1 n2 n3
                  have hnf := HN5.out.free
                  have hnl := HN5.out.lt
                  go_simp
                  have hgn := HBe3.out.size
                  refine hK.out _ _ (HSx.out _ (four_bel HBe5.out hgn _ _ _ _)) (fun hHeld => ?_)
                  clear hK K
                  (try simp only [Act.put, List.setIfInBounds_toArray, List.set_cons_zero, List.set_cons_succ])
                  refine wpAnyH_done (by kernel_rfl) ?_ _
                  clear n0 n1 n2 n3 hnf hHeld hwq
                  go_wp2_with fail
                  go_meet
                  have hs0 := HBe0.out.size
                  have hs1 := HSz1.out
                  have hs2 := HSz2.out
                  have hs3 := HSz3.out
                  have hs4 := HSz4.out
                  have hs5 := HSz5.out
                  refine ⟨wz3.heap.size, sC, cC, rfl, by omega, four_row HN5.out _ _ _ _, ?_, ?_, four_bel (HB2.out.trans (HBe5.out.mono HB2.out.size)) (by omega) _ _ _ _⟩
                  · exact fun w' hz' hk' => made_bin (own_same HC5.out (fun r hr => (hk' r (by have := HCl.out r hr; omega) (by rw [four_size]; exact (HC5.out.lt r hr).2) (by have := HCl.out r hr; omega) (by have := HCl.out r hr; omega)).trans (four_far _ _ _ (by have := HCl.out r hr; omega) _ _ _ _ _ _ _ _))) (HOA5.out.keep (fun b h1 h2 h3 => (hk' b (by omega) (by rw [four_size]; exact h3) (by omega) (by omega)).trans (four_far _ _ _ (by omega) _ _ _ _ _ _ _ _))).rd (HOB5.out.keep (fun b h1 h2 h3 => (hk' b (by omega) (by rw [four_size]; exact h3) (by omega) (by omega)).trans (four_far _ _ _ (by omega) _ _ _ _ _ _ _ _))).rd
                  · exact row_four (HZ2.out.below HBe5.out HZ2.out.lt) (by omega) _ _ _ _
                exact AllReadyH.nil
              exact AllReadyH.nil
            exact AllReadyH.nil
          refine AllReadyH.cons rfl (fun K hK => ?_) ?_
          · go_simp
            refine hK.out _ _ (HSx.out _ (HBe3.out.alloc HBe3.out.size _)) (fun hHeld => ?_)
            clear hK K
            (try simp only [Act.put, List.setIfInBounds_toArray, List.set_cons_zero, List.set_cons_succ])
            have hal := (Below.refl wz3.heap.size wz3).alloc (Nat.le_refl _) (.cells #[.int .i64 0, .int .i64 0, .string ⟨#[]⟩, .slice none 0 0] 25)
            have HBe4 := hid (HBe3.out.trans (hal.mono HBe3.out.size))
            have HSz4 := hid (show wz3.heap.size < (wz3.alloc (.cells #[.int .i64 0, .int .i64 0, .string ⟨#[]⟩, .slice none 0 0] 25)).heap.size by simp)
            have HOA4 := hid (HOA3.out.on hal)
            have HOB4 := hid (HOB3.out.on hal)
            have kl4 := (hal.cell (p := ⟨wz1.heap.size, (q : Nat), none⟩) hgl3).trans kl3
            have hgl4 := Nat.lt_of_lt_of_le hgl3 hal.size
            have HN4 := hid (Row.new wz3 25 #[.int .i64 0, .int .i64 0, .string ⟨#[]⟩, .slice none 0 0])
            clear hal HOA3 HOB3 kl3 hgl3
            generalize wz3.alloc (.cells #[.int .i64 0, .int .i64 0, .string ⟨#[]⟩, .slice none 0 0] 25) = wz4 at HBe4 HOA4 HOB4 kl4 hgl4 HN4 HSz4 hHeld ⊢
            refine wpAnyH_ready (rs := [4]) (by kernel_rfl) (by simp) ?_
            refine AllReadyH.cons rfl (fun K hK => ?_) ?_
            · go_simp
              refine hK.out _ _ hHeld (fun _ => ?_)
              clear hK K kl4 hgl4
              (try simp only [Act.put, List.setIfInBounds_toArray, List.set_cons_zero, List.set_cons_succ])
              refine wpAnyH_ready (rs := [9]) (by kernel_rfl) (by simp) ?_
              refine AllReadyH.cons rfl (fun K hK => ?_) ?_
              · go_simp
                go_at_call 63
                refine (bin_v HP.out HQ.out _ _ _ _).mono ?_
                rintro e wz5 ⟨sC, cC, rfl, hown, hbx⟩
                simp only
                have HBe5 := hid (HBe4.out.trans (hbx.mono HBe4.out.size))
                have HSz5 := hid hbx.size
                have HOA5 := hid (HOA4.out.on hbx)
                have HOB5 := hid (HOB4.out.on hbx)
                have HN5 := hid (HN4.out.on hbx)
                have HC5 := hid hown
                have HCl := hid (fun r hr => hown.lt r hr)
                refine hK.out _ _ (HSx.out _ HBe5.out) (fun hHeld => ?_)
                clear hK K hown hbx HOA4 HOB4 HN4
                (try simp only [Act.put, List.setIfInBounds_toArray, List.set_cons_zero, List.set_cons_succ])
                refine wpAnyH_ready (rs := [11]) (by kernel_rfl) (by simp) ?_
                refine AllReadyH.cons rfl (fun K hK => ?_) ?_
                · have n0 := HN5.out.cell 0
                  have n1 := HN5.out.cell 1
                  have n2 := HN5.out.cell 2
                  have n3 := HN5.out.cell 3
                  simp at n0 n1 n2 n3
                  have hnf := HN5.out.free
                  have hnl := HN5.out.lt
                  go_simp
                  have hgn := HBe3.out.size
                  refine hK.out _ _ (HSx.out _ (four_bel HBe5.out hgn _ _ _ _)) (fun hHeld => ?_)
                  clear hK K
                  (try simp only [Act.put, List.setIfInBounds_toArray, List.set_cons_zero, List.set_cons_succ])
                  refine wpAnyH_done (by kernel_rfl) ?_ _
                  clear n0 n1 n2 n3 hnf hHeld hwq
                  go_wp2_with fail
                  go_meet
                  have hs0 := HBe0.out.size
                  have hs1 := HSz1.out
                  have hs2 := HSz2.out
                  have hs3 := HSz3.out
                  have hs4 := HSz4.out
                  have hs5 := HSz5.out
                  refine ⟨wz3.heap.size, sC, cC, rfl, by omega, four_row HN5.out _ _ _ _, ?_, ?_, four_bel (HB2.out.trans (HBe5.out.mono HB2.out.size)) (by omega) _ _ _ _⟩
                  · exact fun w' hz' hk' => made_bin (own_same HC5.out (fun r hr => (hk' r (by have := HCl.out r hr; omega) (by rw [four_size]; exact (HC5.out.lt r hr).2) (by have := HCl.out r hr; omega) (by have := HCl.out r hr; omega)).trans (four_far _ _ _ (by have := HCl.out r hr; omega) _ _ _ _ _ _ _ _))) (HOA5.out.keep (fun b h1 h2 h3 => (hk' b (by omega) (by rw [four_size]; exact h3) (by omega) (by omega)).trans (four_far _ _ _ (by omega) _ _ _ _ _ _ _ _))).rd (HOB5.out.keep (fun b h1 h2 h3 => (hk' b (by omega) (by rw [four_size]; exact h3) (by omega) (by omega)).trans (four_far _ _ _ (by omega) _ _ _ _ _ _ _ _))).rd
                  · exact row_four (HZ2.out.below HBe5.out HZ2.out.lt) (by omega) _ _ _ _
                exact AllReadyH.nil
              exact AllReadyH.nil
            exact AllReadyH.nil
          exact AllReadyH.nil
        refine AllReadyH.cons rfl (fun K hK => ?_) ?_
        · go_simp
          refine hK.out _ _ (HSx.out _ (HBe2.out.alloc HBe2.out.size _)) (fun hHeld => ?_)
          clear hK K
          (try simp only [Act.put, List.setIfInBounds_toArray, List.set_cons_zero, List.set_cons_succ])
          have hal := (Below.refl wz2.heap.size wz2).alloc (Nat.le_refl _) (.cells #[.int .i64 0, .int .i64 0, .string ⟨#[]⟩, .slice none 0 0] 25)
          have HBe3 := hid (HBe2.out.trans (hal.mono HBe2.out.size))
          have HSz3 := hid (show wz2.heap.size < (wz2.alloc (.cells #[.int .i64 0, .int .i64 0, .string ⟨#[]⟩, .slice none 0 0] 25)).heap.size by simp)
          have HOA3 := hid (HOA2.out.on hal)
          have kl3 := (hal.cell (p := ⟨wz1.heap.size, (q : Nat), none⟩) hgl2).trans kl2
          have hgl3 := Nat.lt_of_lt_of_le hgl2 hal.size
          have HN3 := hid (Row.new wz2 25 #[.int .i64 0, .int .i64 0, .string ⟨#[]⟩, .slice none 0 0])
          clear hal HOA2 kl2 hgl2
          generalize wz2.alloc (.cells #[.int .i64 0, .int .i64 0, .string ⟨#[]⟩, .slice none 0 0] 25) = wz3 at HBe3 HOA3 kl3 hgl3 HN3 HSz3 hHeld ⊢
          refine wpAnyH_ready (rs := [4, 8]) (by kernel_rfl) (by simp) ?_
          refine AllReadyH.cons rfl (fun K hK => ?_) ?_
          · go_simp
            refine hK.out _ _ hHeld (fun _ => ?_)
            clear hK K kl3 hgl3
            (try simp only [Act.put, List.setIfInBounds_toArray, List.set_cons_zero, List.set_cons_succ])
            refine wpAnyH_ready (rs := [8]) (by kernel_rfl) (by simp) ?_
            refine AllReadyH.cons rfl (fun K hK => ?_) ?_
            · go_simp
              go_at_call 64
              refine (HCb.out _ HBe3.out).mono ?_
              rintro e wz4 ⟨sB, cB, rfl, hown, hbx⟩
              simp only
              have HBe4 := hid (HBe3.out.trans (hbx.mono HBe3.out.size))
              have HSz4 := hid hbx.size
              have HOA4 := hid (HOA3.out.on hbx)
              have HN4 := hid (HN3.out.on hbx)
              have HOB4 := hid hown
              refine hK.out _ _ (HSx.out _ HBe4.out) (fun hHeld => ?_)
              clear hK K hown hbx HOA3 HN3
              (try simp only [Act.put, List.setIfInBounds_toArray, List.set_cons_zero, List.set_cons_succ])
              refine wpAnyH_ready (rs := [9]) (by kernel_rfl) (by simp) ?_
              refine AllReadyH.cons rfl (fun K hK => ?_) ?_
              · go_simp
                go_at_call 63
                refine (bin_v HP.out HQ.out _ _ _ _).mono ?_
                rintro e wz5 ⟨sC, cC, rfl, hown, hbx⟩
                simp only
                have HBe5 := hid (HBe4.out.trans (hbx.mono HBe4.out.size))
                have HSz5 := hid hbx.size
                have HOA5 := hid (HOA4.out.on hbx)
                have HOB5 := hid (HOB4.out.on hbx)
                have HN5 := hid (HN4.out.on hbx)
                have HC5 := hid hown
                have HCl := hid (fun r hr => hown.lt r hr)
                refine hK.out _ _ (HSx.out _ HBe5.out) (fun hHeld => ?_)
                clear hK K hown hbx HOA4 HOB4 HN4
                (try simp only [Act.put, List.setIfInBounds_toArray, List.set_cons_zero, List.set_cons_succ])
                refine wpAnyH_ready (rs := [11]) (by kernel_rfl) (by simp) ?_
                refine AllReadyH.cons rfl (fun K hK => ?_) ?_
                · have n0 := HN5.out.cell 0
                  have n1 := HN5.out.cell 1
                  have n2 := HN5.out.cell 2
                  have n3 := HN5.out.cell 3
                  simp at n0 n1 n2 n3
                  have hnf := HN5.out.free
                  have hnl := HN5.out.lt
                  go_simp
                  have hgn := HBe2.out.size
                  refine hK.out _ _ (HSx.out _ (four_bel HBe5.out hgn _ _ _ _)) (fun hHeld => ?_)
                  clear hK K
                  (try simp only [Act.put, List.setIfInBounds_toArray, List.set_cons_zero, List.set_cons_succ])
                  refine wpAnyH_done (by kernel_rfl) ?_ _
                  clear n0 n1 n2 n3 hnf hHeld hwq
                  go_wp2_with fail
                  go_meet
                  have hs0 := HBe0.out.size
                  have hs1 := HSz1.out
                  have hs2 := HSz2.out
                  have hs3 := HSz3.out
                  have hs4 := HSz4.out
                  have hs5 := HSz5.out
                  refine ⟨wz2.heap.size, sC, cC, rfl, by omega, four_row HN5.out _ _ _ _, ?_, ?_, four_bel (HB2.out.trans (HBe5.out.mono HB2.out.size)) (by omega) _ _ _ _⟩
                  · exact fun w' hz' hk' => made_bin (own_same HC5.out (fun r hr => (hk' r (by have := HCl.out r hr; omega) (by rw [four_size]; exact (HC5.out.lt r hr).2) (by have := HCl.out r hr; omega) (by have := HCl.out r hr; omega)).trans (four_far _ _ _ (by have := HCl.out r hr; omega) _ _ _ _ _ _ _ _))) (HOA5.out.keep (fun b h1 h2 h3 => (hk' b (by omega) (by rw [four_size]; exact h3) (by omega) (by omega)).trans (four_far _ _ _ (by omega) _ _ _ _ _ _ _ _))).rd (HOB5.out.keep (fun b h1 h2 h3 => (hk' b (by omega) (by rw [four_size]; exact h3) (by omega) (by omega)).trans (four_far _ _ _ (by omega) _ _ _ _ _ _ _ _))).rd
                  · exact row_four (HZ2.out.below HBe5.out HZ2.out.lt) (by omega) _ _ _ _
                exact AllReadyH.nil
              exact AllReadyH.nil
            exact AllReadyH.nil
          refine AllReadyH.cons rfl (fun K hK => ?_) ?_
          · go_simp
            go_at_call 64
            refine (HCb.out _ HBe3.out).mono ?_
            rintro e wz4 ⟨sB, cB, rfl, hown, hbx⟩
            simp only
            have HBe4 := hid (HBe3.out.trans (hbx.mono HBe3.out.size))
            have HSz4 := hid hbx.size
            have HOA4 := hid (HOA3.out.on hbx)
            have kl4 := (hbx.cell (p := ⟨wz1.heap.size, (q : Nat), none⟩) hgl3).trans kl3
            have hgl4 := Nat.lt_of_lt_of_le hgl3 hbx.size
            have HN4 := hid (HN3.out.on hbx)
            have HOB4 := hid hown
            refine hK.out _ _ (HSx.out _ HBe4.out) (fun hHeld => ?_)
            clear hK K hown hbx HOA3 kl3 hgl3 HN3
            (try simp only [Act.put, List.setIfInBounds_toArray, List.set_cons_zero, List.set_cons_succ])
            refine wpAnyH_ready (rs := [4]) (by kernel_rfl) (by simp) ?_
            refine AllReadyH.cons rfl (fun K hK => ?_) ?_
            · go_simp
              refine hK.out _ _ hHeld (fun _ => ?_)
              clear hK K kl4 hgl4
              (try simp only [Act.put, List.setIfInBounds_toArray, List.set_cons_zero, List.set_cons_succ])
              refine wpAnyH_ready (rs := [9]) (by kernel_rfl) (by simp) ?_
              refine AllReadyH.cons rfl (fun K hK => ?_) ?_
              · go_simp
                go_at_call 63
                refine (bin_v HP.out HQ.out _ _ _ _).mono ?_
                rintro e wz5 ⟨sC, cC, rfl, hown, hbx⟩
                simp only
                have HBe5 := hid (HBe4.out.trans (hbx.mono HBe4.out.size))
                have HSz5 := hid hbx.size
                have HOA5 := hid (HOA4.out.on hbx)
                have HOB5 := hid (HOB4.out.on hbx)
                have HN5 := hid (HN4.out.on hbx)
                have HC5 := hid hown
                have HCl := hid (fun r hr => hown.lt r hr)
                refine hK.out _ _ (HSx.out _ HBe5.out) (fun hHeld => ?_)
                clear hK K hown hbx HOA4 HOB4 HN4
                (try simp only [Act.put, List.setIfInBounds_toArray, List.set_cons_zero, List.set_cons_succ])
                refine wpAnyH_ready (rs := [11]) (by kernel_rfl) (by simp) ?_
                refine AllReadyH.cons rfl (fun K hK => ?_) ?_
                · have n0 := HN5.out.cell 0
                  have n1 := HN5.out.cell 1
                  have n2 := HN5.out.cell 2
                  have n3 := HN5.out.cell 3
                  simp at n0 n1 n2 n3
                  have hnf := HN5.out.free
                  have hnl := HN5.out.lt
                  go_simp
                  have hgn := HBe2.out.size
                  refine hK.out _ _ (HSx.out _ (four_bel HBe5.out hgn _ _ _ _)) (fun hHeld => ?_)
                  clear hK K
                  (try simp only [Act.put, List.setIfInBounds_toArray, List.set_cons_zero, List.set_cons_succ])
                  refine wpAnyH_done (by kernel_rfl) ?_ _
                  clear n0 n1 n2 n3 hnf hHeld hwq
                  go_wp2_with fail
                  go_meet
                  have hs0 := HBe0.out.size
                  have hs1 := HSz1.out
                  have hs2 := HSz2.out
                  have hs3 := HSz3.out
                  have hs4 := HSz4.out
                  have hs5 := HSz5.out
                  refine ⟨wz2.heap.size, sC, cC, rfl, by omega, four_row HN5.out _ _ _ _, ?_, ?_, four_bel (HB2.out.trans (HBe5.out.mono HB2.out.size)) (by omega) _ _ _ _⟩
                  · exact fun w' hz' hk' => made_bin (own_same HC5.out (fun r hr => (hk' r (by have := HCl.out r hr; omega) (by rw [four_size]; exact (HC5.out.lt r hr).2) (by have := HCl.out r hr; omega) (by have := HCl.out r hr; omega)).trans (four_far _ _ _ (by have := HCl.out r hr; omega) _ _ _ _ _ _ _ _))) (HOA5.out.keep (fun b h1 h2 h3 => (hk' b (by omega) (by rw [four_size]; exact h3) (by omega) (by omega)).trans (four_far _ _ _ (by omega) _ _ _ _ _ _ _ _))).rd (HOB5.out.keep (fun b h1 h2 h3 => (hk' b (by omega) (by rw [four_size]; exact h3) (by omega) (by omega)).trans (four_far _ _ _ (by omega) _ _ _ _ _ _ _ _))).rd
                  · exact row_four (HZ2.out.below HBe5.out HZ2.out.lt) (by omega) _ _ _ _
                exact AllReadyH.nil
              exact AllReadyH.nil
            exact AllReadyH.nil
          exact AllReadyH.nil
        exact AllReadyH.nil
      refine AllReadyH.cons rfl (fun K hK => ?_) ?_
      · go_simp
        go_at_call 64
        refine (HCb.out _ HBe1.out).mono ?_
        rintro e wz2 ⟨sB, cB, rfl, hown, hbx⟩
        simp only
        have HBe2 := hid (HBe1.out.trans (hbx.mono HBe1.out.size))
        have HSz2 := hid hbx.size
        have HOA2 := hid (HOA1.out.on hbx)
        have HOB2 := hid hown
        refine hK.out _ _ (HSx.out _ HBe2.out) (fun hHeld => ?_)
        clear hK K hown hbx HOA1
        (try simp only [Act.put, List.setIfInBounds_toArray, List.set_cons_zero, List.set_cons_succ])
        refine wpAnyH_ready (rs := [0, 10]) (by kernel_rfl) (by simp) ?_
        refine AllReadyH.cons rfl (fun K hK => ?_) ?_
        · go_simp
          refine hK.out _ _ (HSx.out _ (HBe2.out.alloc HBe2.out.size _)) (fun hHeld => ?_)
          clear hK K
          (try simp only [Act.put, List.setIfInBounds_toArray, List.set_cons_zero, List.set_cons_succ])
          have hal := (Below.refl wz2.heap.size wz2).alloc (Nat.le_refl _) (.cells #[.string ⟨#[61, 61]⟩, .string ⟨#[60]⟩, .string ⟨#[60, 60]⟩] 9)
          have HBe3 := hid (HBe2.out.trans (hal.mono HBe2.out.size))
          have HSz3 := hid (show wz2.heap.size < (wz2.alloc (.cells #[.string ⟨#[61, 61]⟩, .string ⟨#[60]⟩, .string ⟨#[60, 60]⟩] 9)).heap.size by simp)
          have HOA3 := hid (HOA2.out.on hal)
          have HOB3 := hid (HOB2.out.on hal)
          have kl3 := lit_cell wz2 q s HLit.out
          have hgl3 : wz2.heap.size < (wz2.alloc (.cells #[.string ⟨#[61, 61]⟩, .string ⟨#[60]⟩, .string ⟨#[60, 60]⟩] 9)).heap.size := by simp
          clear hal HOA2 HOB2
          generalize wz2.alloc (.cells #[.string ⟨#[61, 61]⟩, .string ⟨#[60]⟩, .string ⟨#[60, 60]⟩] 9) = wz3 at HBe3 HOA3 HOB3 kl3 hgl3 HSz3 hHeld ⊢
          refine wpAnyH_take (i := 3) (v := _) rfl (by kernel_rfl) (by kernel_rfl) (by kernel_rfl) (fun _ _ _ h => h) (Or.inl ⟨by rfl, by (intro w hSw; go_simp; first | done | with_reducible rfl)⟩) hHeld ?_
          (try simp only [Act.put, List.setIfInBounds_toArray, List.set_cons_zero, List.set_cons_succ])
          refine wpAnyH_ready (rs := [4, 10]) (by kernel_rfl) (by simp) ?_
          refine AllReadyH.cons rfl (fun K hK => ?_) ?_
          · go_simp
            refine hK.out _ _ hHeld (fun _ => ?_)
            clear hK K kl3 hgl3
            (try simp only [Act.put, List.setIfInBounds_toArray, List.set_cons_zero, List.set_cons_succ])
            refine wpAnyH_ready (rs := [9, 10]) (by kernel_rfl) (by simp) ?_
            refine AllReadyH.cons rfl (fun K hK => ?_) ?_
            · go_simp
              go_at_call 63
              refine (bin_v HP.out HQ.out _ _ _ _).mono ?_
              rintro e wz4 ⟨sC, cC, rfl, hown, hbx⟩
              simp only
              have HBe4 := hid (HBe3.out.trans (hbx.mono HBe3.out.size))
              have HSz4 := hid hbx.size
              have HOA4 := hid (HOA3.out.on hbx)
              have HOB4 := hid (HOB3.out.on hbx)
              have HC4 := hid hown
              have HCl := hid (fun r hr => hown.lt r hr)
              refine hK.out _ _ (HSx.out _ HBe4.out) (fun hHeld => ?_)
              clear hK K hown hbx HOA3 HOB3
              (try simp only [Act.put, List.setIfInBounds_toArray, List.set_cons_zero, List.set_cons_succ])
              refine wpAnyH_ready (rs := [10]) (by kernel_rfl) (by simp) ?_
              refine AllReadyH.cons rfl (fun K hK => ?_) ?_
              · go_simp
                refine hK.out _ _ (HSx.out _ (HBe4.out.alloc HBe4.out.size _)) (fun hHeld => ?_)
                clear hK K
                (try simp only [Act.put, List.setIfInBounds_toArray, List.set_cons_zero, List.set_cons_succ])
                have hal := (Below.refl wz4.heap.size wz4).alloc (Nat.le_refl _) (.cells #[.int .i64 0, .int .i64 0, .string ⟨#[]⟩, .slice none 0 0] 25)
                have HBe5 := hid (HBe4.out.trans (hal.mono HBe4.out.size))
                have HSz5 := hid (show wz4.heap.size < (wz4.alloc (.cells #[.int .i64 0, .int .i64 0, .string ⟨#[]⟩, .slice none 0 0] 25)).heap.size by simp)
                have HOA5 := hid (HOA4.out.on hal)
                have HOB5 := hid (HOB4.out.on hal)
                have HC5 := hid (own_on HC4.out hal)
                have HN5 := hid (Row.new wz4 25 #[.int .i64 0, .int .i64 0, .string ⟨#[]⟩, .slice none 0 0])
                clear hal HOA4 HOB4 HC4
                generalize wz4.alloc (.cells #[.int .i64 0, .int .i64 0, .string ⟨#[]⟩, .slice none 0 0] 25) = wz5 at HBe5 HOA5 HOB5 HN5 HC5 HSz5 hHeld ⊢
                refine wpAnyH_ready (rs := [11]) (by kernel_rfl) (by simp) ?_
                refine AllReadyH.cons rfl (fun K hK => ?_) ?_
                · have n0 := HN5.out.cell 0
                  have n1 := HN5.out.cell 1
                  have n2 := HN5.out.cell 2
                  have n3 := HN5.out.cell 3
                  simp at n0 n1 n2 n3
                  have hnf := HN5.out.free
                  have hnl := HN5.out.lt
                  go_simp
                  have hgn := HBe4.out.size
                  refine hK.out _ _ (HSx.out _ (four_bel HBe5.out hgn _ _ _ _)) (fun hHeld => ?_)
                  clear hK K
                  (try simp only [Act.put, List.setIfInBounds_toArray, List.set_cons_zero, List.set_cons_succ])
                  refine wpAnyH_done (by kernel_rfl) ?_ _
                  clear n0 n1 n2 n3 hnf hHeld hwq
                  go_wp2_with fail
                  go_meet
                  have hs0 := HBe0.out.size
                  have hs1 := HSz1.out
                  have hs2 := HSz2.out
                  have hs3 := HSz3.out
                  have hs4 := HSz4.out
                  have hs5 := HSz5.out
                  refine ⟨wz4.heap.size, sC, cC, rfl, by omega, four_row HN5.out _ _ _ _, ?_, ?_, four_bel (HB2.out.trans (HBe5.out.mono HB2.out.size)) (by omega) _ _ _ _⟩
                  · exact fun w' hz' hk' => made_bin (own_same HC5.out (fun r hr => (hk' r (by have := HCl.out r hr; omega) (by rw [four_size]; exact (HC5.out.lt r hr).2) (by have := HCl.out r hr; omega) (by have := HCl.out r hr; omega)).trans (four_far _ _ _ (by have := HCl.out r hr; omega) _ _ _ _ _ _ _ _))) (HOA5.out.keep (fun b h1 h2 h3 => (hk' b (by omega) (by rw [four_size]; exact h3) (by omega) (by omega)).trans (four_far _ _ _ (by omega) _ _ _ _ _ _ _ _))).rd (HOB5.out.keep (fun b h1 h2 h3 => (hk' b (by omega) (by rw [four_size]; exact h3) (by omega) (by omega)).trans (four_far _ _ _ (by omega) _ _ _ _ _ _ _ _))).rd
                  · exact row_four (HZ2.out.below HBe5.out HZ2.out.lt) (by omega) _ _ _ _
                exact AllReadyH.nil
              exact AllReadyH.nil
            refine AllReadyH.cons rfl (fun K hK => ?_) ?_
            · go_simp
              refine hK.out _ _ (HSx.out _ (HBe3.out.alloc HBe3.out.size _)) (fun hHeld => ?_)
              clear hK K
              (try simp only [Act.put, List.setIfInBounds_toArray, List.set_cons_zero, List.set_cons_succ])
              have hal := (Below.refl wz3.heap.size wz3).alloc (Nat.le_refl _) (.cells #[.int .i64 0, .int .i64 0, .string ⟨#[]⟩, .slice none 0 0] 25)
              have HBe4 := hid (HBe3.out.trans (hal.mono HBe3.out.size))
              have HSz4 := hid (show wz3.heap.size < (wz3.alloc (.cells #[.int .i64 0, .int .i64 0, .string ⟨#[]⟩, .slice none 0 0] 25)).heap.size by simp)
              have HOA4 := hid (HOA3.out.on hal)
              have HOB4 := hid (HOB3.out.on hal)
              have HN4 := hid (Row.new wz3 25 #[.int .i64 0, .int .i64 0, .string ⟨#[]⟩, .slice none 0 0])
              clear hal HOA3 HOB3
              generalize wz3.alloc (.cells #[.int .i64 0, .int .i64 0, .string ⟨#[]⟩, .slice none 0 0] 25) = wz4 at HBe4 HOA4 HOB4 HN4 HSz4 hHeld ⊢
              refine wpAnyH_ready (rs := [9]) (by kernel_rfl) (by simp) ?_
              refine AllReadyH.cons rfl (fun K hK => ?_) ?_
              · go_simp
                go_at_call 63
                refine (bin_v HP.out HQ.out _ _ _ _).mono ?_
                rintro e wz5 ⟨sC, cC, rfl, hown, hbx⟩
                simp only
                have HBe5 := hid (HBe4.out.trans (hbx.mono HBe4.out.size))
                have HSz5 := hid hbx.size
                have HOA5 := hid (HOA4.out.on hbx)
                have HOB5 := hid (HOB4.out.on hbx)
                have HN5 := hid (HN4.out.on hbx)
                have HC5 := hid hown
                have HCl := hid (fun r hr => hown.lt r hr)
                refine hK.out _ _ (HSx.out _ HBe5.out) (fun hHeld => ?_)
                clear hK K hown hbx HOA4 HOB4 HN4
                (try simp only [Act.put, List.setIfInBounds_toArray, List.set_cons_zero, List.set_cons_succ])
                refine wpAnyH_ready (rs := [11]) (by kernel_rfl) (by simp) ?_
                refine AllReadyH.cons rfl (fun K hK => ?_) ?_
                · have n0 := HN5.out.cell 0
                  have n1 := HN5.out.cell 1
                  have n2 := HN5.out.cell 2
                  have n3 := HN5.out.cell 3
                  simp at n0 n1 n2 n3
                  have hnf := HN5.out.free
                  have hnl := HN5.out.lt
                  go_simp
                  have hgn := HBe3.out.size
                  refine hK.out _ _ (HSx.out _ (four_bel HBe5.out hgn _ _ _ _)) (fun hHeld => ?_)
                  clear hK K
                  (try simp only [Act.put, List.setIfInBounds_toArray, List.set_cons_zero, List.set_cons_succ])
                  refine wpAnyH_done (by kernel_rfl) ?_ _
                  clear n0 n1 n2 n3 hnf hHeld hwq
                  go_wp2_with fail
                  go_meet
                  have hs0 := HBe0.out.size
                  have hs1 := HSz1.out
                  have hs2 := HSz2.out
                  have hs3 := HSz3.out
                  have hs4 := HSz4.out
                  have hs5 := HSz5.out
                  refine ⟨wz3.heap.size, sC, cC, rfl, by omega, four_row HN5.out _ _ _ _, ?_, ?_, four_bel (HB2.out.trans (HBe5.out.mono HB2.out.size)) (by omega) _ _ _ _⟩
                  · exact fun w' hz' hk' => made_bin (own_same HC5.out (fun r hr => (hk' r (by have := HCl.out r hr; omega) (by rw [four_size]; exact (HC5.out.lt r hr).2) (by have := HCl.out r hr; omega) (by have := HCl.out r hr; omega)).trans (four_far _ _ _ (by have := HCl.out r hr; omega) _ _ _ _ _ _ _ _))) (HOA5.out.keep (fun b h1 h2 h3 => (hk' b (by omega) (by rw [four_size]; exact h3) (by omega) (by omega)).trans (four_far _ _ _ (by omega) _ _ _ _ _ _ _ _))).rd (HOB5.out.keep (fun b h1 h2 h3 => (hk' b (by omega) (by rw [four_size]; exact h3) (by omega) (by omega)).trans (four_far _ _ _ (by omega) _ _ _ _ _ _ _ _))).rd
                  · exact row_four (HZ2.out.below HBe5.out HZ2.out.lt) (by omega) _ _ _ _
                exact AllReadyH.nil
              exact AllReadyH.nil
            exact AllReadyH.nil
          refine AllReadyH.cons rfl (fun K hK => ?_) ?_
          · go_simp
            refine hK.out _ _ (HSx.out _ (HBe3.out.alloc HBe3.out.size _)) (fun hHeld => ?_)
            clear hK K
            (try simp only [Act.put, List.setIfInBounds_toArray, List.set_cons_zero, List.set_cons_succ])
            have hal := (Below.refl wz3.heap.size wz3).alloc (Nat.le_refl _) (.cells #[.int .i64 0, .int .i64 0, .string ⟨#[]⟩, .slice none 0 0] 25)
            have HBe4 := hid (HBe3.out.trans (hal.mono HBe3.out.size))
            have HSz4 := hid (show wz3.heap.size < (wz3.alloc (.cells #[.int .i64 0, .int .i64 0, .string ⟨#[]⟩, .slice none 0 0] 25)).heap.size by simp)
            have HOA4 := hid (HOA3.out.on hal)
            have HOB4 := hid (HOB3.out.on hal)
            have kl4 := (hal.cell (p := ⟨wz2.heap.size, (q : Nat), none⟩) hgl3).trans kl3
            have hgl4 := Nat.lt_of_lt_of_le hgl3 hal.size
            have HN4 := hid (Row.new wz3 25 #[.int .i64 0, .int .i64 0, .string ⟨#[]⟩, .slice none 0 0])
            clear hal HOA3 HOB3 kl3 hgl3
            generalize wz3.alloc (.cells #[.int .i64 0, .int .i64 0, .string ⟨#[]⟩, .slice none 0 0] 25) = wz4 at HBe4 HOA4 HOB4 kl4 hgl4 HN4 HSz4 hHeld ⊢
            refine wpAnyH_ready (rs := [4]) (by kernel_rfl) (by simp) ?_
            refine AllReadyH.cons rfl (fun K hK => ?_) ?_
            · go_simp
              refine hK.out _ _ hHeld (fun _ => ?_)
              clear hK K kl4 hgl4
              (try simp only [Act.put, List.setIfInBounds_toArray, List.set_cons_zero, List.set_cons_succ])
              refine wpAnyH_ready (rs := [9]) (by kernel_rfl) (by simp) ?_
              refine AllReadyH.cons rfl (fun K hK => ?_) ?_
              · go_simp
                go_at_call 63
                refine (bin_v HP.out HQ.out _ _ _ _).mono ?_
                rintro e wz5 ⟨sC, cC, rfl, hown, hbx⟩
                simp only
                have HBe5 := hid (HBe4.out.trans (hbx.mono HBe4.out.size))
                have HSz5 := hid hbx.size
                have HOA5 := hid (HOA4.out.on hbx)
                have HOB5 := hid (HOB4.out.on hbx)
                have HN5 := hid (HN4.out.on hbx)
                have HC5 := hid hown
                have HCl := hid (fun r hr => hown.lt r hr)
                refine hK.out _ _ (HSx.out _ HBe5.out) (fun hHeld => ?_)
                clear hK K hown hbx HOA4 HOB4 HN4
                (try simp only [Act.put, List.setIfInBounds_toArray, List.set_cons_zero, List.set_cons_succ])
                refine wpAnyH_ready (rs := [11]) (by kernel_rfl) (by simp) ?_
                refine AllReadyH.cons rfl (fun K hK => ?_) ?_
                · have n0 := HN5.out.cell 0
                  have n1 := HN5.out.cell 1
                  have n2 := HN5.out.cell 2
                  have n3 := HN5.out.cell 3
                  simp at n0 n1 n2 n3
                  have hnf := HN5.out.free
                  have hnl := HN5.out.lt
                  go_simp
                  have hgn := HBe3.out.size
                  refine hK.out _ _ (HSx.out _ (four_bel HBe5.out hgn _ _ _ _)) (fun hHeld => ?_)
                  clear hK K
                  (try simp only [Act.put, List.setIfInBounds_toArray, List.set_cons_zero, List.set_cons_succ])
                  refine wpAnyH_done (by kernel_rfl) ?_ _
                  clear n0 n1 n2 n3 hnf hHeld hwq
                  go_wp2_with fail
                  go_meet
                  have hs0 := HBe0.out.size
                  have hs1 := HSz1.out
                  have hs2 := HSz2.out
                  have hs3 := HSz3.out
                  have hs4 := HSz4.out
                  have hs5 := HSz5.out
                  refine ⟨wz3.heap.size, sC, cC, rfl, by omega, four_row HN5.out _ _ _ _, ?_, ?_, four_bel (HB2.out.trans (HBe5.out.mono HB2.out.size)) (by omega) _ _ _ _⟩
                  · exact fun w' hz' hk' => made_bin (own_same HC5.out (fun r hr => (hk' r (by have := HCl.out r hr; omega) (by rw [four_size]; exact (HC5.out.lt r hr).2) (by have := HCl.out r hr; omega) (by have := HCl.out r hr; omega)).trans (four_far _ _ _ (by have := HCl.out r hr; omega) _ _ _ _ _ _ _ _))) (HOA5.out.keep (fun b h1 h2 h3 => (hk' b (by omega) (by rw [four_size]; exact h3) (by omega) (by omega)).trans (four_far _ _ _ (by omega) _ _ _ _ _ _ _ _))).rd (HOB5.out.keep (fun b h1 h2 h3 => (hk' b (by omega) (by rw [four_size]; exact h3) (by omega) (by omega)).trans (four_far _ _ _ (by omega) _ _ _ _ _ _ _ _))).rd
                  · exact row_four (HZ2.out.below HBe5.out HZ2.out.lt) (by omega) _ _ _ _
                exact AllReadyH.nil
              exact AllReadyH.nil
            exact AllReadyH.nil
          exact AllReadyH.nil
        refine AllReadyH.cons rfl (fun K hK => ?_) ?_
        · go_simp
          refine hK.out _ _ (HSx.out _ (HBe2.out.alloc HBe2.out.size _)) (fun hHeld => ?_)
          clear hK K
          (try simp only [Act.put, List.setIfInBounds_toArray, List.set_cons_zero, List.set_cons_succ])
          have hal := (Below.refl wz2.heap.size wz2).alloc (Nat.le_refl _) (.cells #[.int .i64 0, .int .i64 0, .string ⟨#[]⟩, .slice none 0 0] 25)
          have HBe3 := hid (HBe2.out.trans (hal.mono HBe2.out.size))
          have HSz3 := hid (show wz2.heap.size < (wz2.alloc (.cells #[.int .i64 0, .int .i64 0, .string ⟨#[]⟩, .slice none 0 0] 25)).heap.size by simp)
          have HOA3 := hid (HOA2.out.on hal)
          have HOB3 := hid (HOB2.out.on hal)
          have HN3 := hid (Row.new wz2 25 #[.int .i64 0, .int .i64 0, .string ⟨#[]⟩, .slice none 0 0])
          clear hal HOA2 HOB2
          generalize wz2.alloc (.cells #[.int .i64 0, .int .i64 0, .string ⟨#[]⟩, .slice none 0 0] 25) = wz3 at HBe3 HOA3 HOB3 HN3 HSz3 hHeld ⊢
          refine wpAnyH_ready (rs := [0]) (by kernel_rfl) (by simp) ?_
          refine AllReadyH.cons rfl (fun K hK => ?_) ?_
          · go_simp
            refine hK.out _ _ (HSx.out _ (HBe3.out.alloc HBe3.out.size _)) (fun hHeld => ?_)
            clear hK K
            (try simp only [Act.put, List.setIfInBounds_toArray, List.set_cons_zero, List.set_cons_succ])
            have hal := (Below.refl wz3.heap.size wz3).alloc (Nat.le_refl _) (.cells #[.string ⟨#[61, 61]⟩, .string ⟨#[60]⟩, .string ⟨#[60, 60]⟩] 9)
            have HBe4 := hid (HBe3.out.trans (hal.mono HBe3.out.size))
            have HSz4 := hid (show wz3.heap.size < (wz3.alloc (.cells #[.string ⟨#[61, 61]⟩, .string ⟨#[60]⟩, .string ⟨#[60, 60]⟩] 9)).heap.size by simp)
            have HOA4 := hid (HOA3.out.on hal)
            have HOB4 := hid (HOB3.out.on hal)
            have HN4 := hid (HN3.out.on hal)
            have kl4 := lit_cell wz3 q s HLit.out
            have hgl4 : wz3.heap.size < (wz3.alloc (.cells #[.string ⟨#[61, 61]⟩, .string ⟨#[60]⟩, .string ⟨#[60, 60]⟩] 9)).heap.size := by simp
            clear hal HOA3 HOB3 HN3
            generalize wz3.alloc (.cells #[.string ⟨#[61, 61]⟩, .string ⟨#[60]⟩, .string ⟨#[60, 60]⟩] 9) = wz4 at HBe4 HOA4 HOB4 kl4 hgl4 HN4 HSz4 hHeld ⊢
            refine wpAnyH_take (i := 3) (v := _) rfl (by kernel_rfl) (by kernel_rfl) (by kernel_rfl) (fun _ _ _ h => h) (Or.inl ⟨by rfl, by (intro w hSw; go_simp; first | done | with_reducible rfl)⟩) hHeld ?_
            (try simp only [Act.put, List.setIfInBounds_toArray, List.set_cons_zero, List.set_cons_succ])
            refine wpAnyH_ready (rs := [4]) (by kernel_rfl) (by simp) ?_
            refine AllReadyH.cons rfl (fun K hK => ?_) ?_
            · go_simp
              refine hK.out _ _ hHeld (fun _ => ?_)
              clear hK K kl4 hgl4
              (try simp only [Act.put, List.setIfInBounds_toArray, List.set_cons_zero, List.set_cons_succ])
              refine wpAnyH_ready (rs := [9]) (by kernel_rfl) (by simp) ?_
              refine AllReadyH.cons rfl (fun K hK => ?_) ?_
              · go_simp
                go_at_call 63
                refine (bin_v HP.out HQ.out _ _ _ _).mono ?_
                rintro e wz5 ⟨sC, cC, rfl, hown, hbx⟩
                simp only
                have HBe5 := hid (HBe4.out.trans (hbx.mono HBe4.out.size))
                have HSz5 := hid hbx.size
                have HOA5 := hid (HOA4.out.on hbx)
                have HOB5 := hid (HOB4.out.on hbx)
                have HN5 := hid (HN4.out.on hbx)
                have HC5 := hid hown
                have HCl := hid (fun r hr => hown.lt r hr)
                refine hK.out _ _ (HSx.out _ HBe5.out) (fun hHeld => ?_)
                clear hK K hown hbx HOA4 HOB4 HN4
                (try simp only [Act.put, List.setIfInBounds_toArray, List.set_cons_zero, List.set_cons_succ])
                refine wpAnyH_ready (rs := [11]) (by kernel_rfl) (by simp) ?_
                refine AllReadyH.cons rfl (fun K hK => ?_) ?_
                · have n0 := HN5.out.cell 0
                  have n1 := HN5.out.cell 1
                  have n2 := HN5.out.cell 2
                  have n3 := HN5.out.cell 3
                  simp at n0 n1 n2 n3
                  have hnf := HN5.out.free
                  have hnl := HN5.out.lt
                  go_simp
                  have hgn := HBe2.out.size
                  refine hK.out _ _ (HSx.out _ (four_bel HBe5.out hgn _ _ _ _)) (fun hHeld => ?_)
                  clear hK K
                  (try simp only [Act.put, List.setIfInBounds_toArray, List.set_cons_zero, List.set_cons_succ])
                  refine wpAnyH_done (by kernel_rfl) ?_ _
                  clear n0 n1 n2 n3 hnf hHeld hwq
                  go_wp2_with fail
                  go_meet
                  have hs0 := HBe0.out.size
                  have hs1 := HSz1.out
                  have hs2 := HSz2.out
                  have hs3 := HSz3.out
                  have hs4 := HSz4.out
                  have hs5 := HSz5.out
                  refine ⟨wz2.heap.size, sC, cC, rfl, by omega, four_row HN5.out _ _ _ _, ?_, ?_, four_bel (HB2.out.trans (HBe5.out.mono HB2.out.size)) (by omega) _ _ _ _⟩
                  · exact fun w' hz' hk' => made_bin (own_same HC5.out (fun r hr => (hk' r (by have := HCl.out r hr; omega) (by rw [four_size]; exact (HC5.out.lt r hr).2) (by have := HCl.out r hr; omega) (by have := HCl.out r hr; omega)).trans (four_far _ _ _ (by have := HCl.out r hr; omega) _ _ _ _ _ _ _ _))) (HOA5.out.keep (fun b h1 h2 h3 => (hk' b (by omega) (by rw [four_size]; exact h3) (by omega) (by omega)).trans (four_far _ _ _ (by omega) _ _ _ _ _ _ _ _))).rd (HOB5.out.keep (fun b h1 h2 h3 => (hk' b (by omega) (by rw [four_size]; exact h3) (by omega) (by omega)).trans (four_far _ _ _ (by omega) _ _ _ _ _ _ _ _))).rd
                  · exact row_four (HZ2.out.below HBe5.out HZ2.out.lt) (by omega) _ _ _ _
                exact AllReadyH.nil
              exact AllReadyH.nil
            exact AllReadyH.nil
          exact AllReadyH.nil
        exact AllReadyH.nil
      refine AllReadyH.cons rfl (fun K hK => ?_) ?_
      · go_simp
        refine hK.out _ _ (HSx.out _ (HBe1.out.alloc HBe1.out.size _)) (fun hHeld => ?_)
        clear hK K
        (try simp only [Act.put, List.setIfInBounds_toArray, List.set_cons_zero, List.set_cons_succ])
        have hal := (Below.refl wz1.heap.size wz1).alloc (Nat.le_refl _) (.cells #[.int .i64 0, .int .i64 0, .string ⟨#[]⟩, .slice none 0 0] 25)
        have HBe2 := hid (HBe1.out.trans (hal.mono HBe1.out.size))
        have HSz2 := hid (show wz1.heap.size < (wz1.alloc (.cells #[.int .i64 0, .int .i64 0, .string ⟨#[]⟩, .slice none 0 0] 25)).heap.size by simp)
        have HOA2 := hid (HOA1.out.on hal)
        have HN2 := hid (Row.new wz1 25 #[.int .i64 0, .int .i64 0, .string ⟨#[]⟩, .slice none 0 0])
        clear hal HOA1
        generalize wz1.alloc (.cells #[.int .i64 0, .int .i64 0, .string ⟨#[]⟩, .slice none 0 0] 25) = wz2 at HBe2 HOA2 HN2 HSz2 hHeld ⊢
        refine wpAnyH_ready (rs := [0, 8]) (by kernel_rfl) (by simp) ?_
        refine AllReadyH.cons rfl (fun K hK => ?_) ?_
        · go_simp
          refine hK.out _ _ (HSx.out _ (HBe2.out.alloc HBe2.out.size _)) (fun hHeld => ?_)
          clear hK K
          (try simp only [Act.put, List.setIfInBounds_toArray, List.set_cons_zero, List.set_cons_succ])
          have hal := (Below.refl wz2.heap.size wz2).alloc (Nat.le_refl _) (.cells #[.string ⟨#[61, 61]⟩, .string ⟨#[60]⟩, .string ⟨#[60, 60]⟩] 9)
          have HBe3 := hid (HBe2.out.trans (hal.mono HBe2.out.size))
          have HSz3 := hid (show wz2.heap.size < (wz2.alloc (.cells #[.string ⟨#[61, 61]⟩, .string ⟨#[60]⟩, .string ⟨#[60, 60]⟩] 9)).heap.size by simp)
          have HOA3 := hid (HOA2.out.on hal)
          have HN3 := hid (HN2.out.on hal)
          have kl3 := lit_cell wz2 q s HLit.out
          have hgl3 : wz2.heap.size < (wz2.alloc (.cells #[.string ⟨#[61, 61]⟩, .string ⟨#[60]⟩, .string ⟨#[60, 60]⟩] 9)).heap.size := by simp
          clear hal HOA2 HN2
          generalize wz2.alloc (.cells #[.string ⟨#[61, 61]⟩, .string ⟨#[60]⟩, .string ⟨#[60, 60]⟩] 9) = wz3 at HBe3 HOA3 kl3 hgl3 HN3 HSz3 hHeld ⊢
          refine wpAnyH_take (i := 3) (v := _) rfl (by kernel_rfl) (by kernel_rfl) (by kernel_rfl) (fun _ _ _ h => h) (Or.inl ⟨by rfl, by (intro w hSw; go_simp; first | done | with_reducible rfl)⟩) hHeld ?_
          (try simp only [Act.put, List.setIfInBounds_toArray, List.set_cons_zero, List.set_cons_succ])
          refine wpAnyH_ready (rs := [4, 8]) (by kernel_rfl) (by simp) ?_
          refine AllReadyH.cons rfl (fun K hK => ?_) ?_
          · go_simp
            refine hK.out _ _ hHeld (fun _ => ?_)
            clear hK K kl3 hgl3
            (try simp only [Act.put, List.setIfInBounds_toArray, List.set_cons_zero, List.set_cons_succ])
            refine wpAnyH_ready (rs := [8]) (by kernel_rfl) (by simp) ?_
            refine AllReadyH.cons rfl (fun K hK => ?_) ?_
            · go_simp
              go_at_call 64
              refine (HCb.out _ HBe3.out).mono ?_
              rintro e wz4 ⟨sB, cB, rfl, hown, hbx⟩
              simp only
              have HBe4 := hid (HBe3.out.trans (hbx.mono HBe3.out.size))
              have HSz4 := hid hbx.size
              have HOA4 := hid (HOA3.out.on hbx)
              have HN4 := hid (HN3.out.on hbx)
              have HOB4 := hid hown
              refine hK.out _ _ (HSx.out _ HBe4.out) (fun hHeld => ?_)
              clear hK K hown hbx HOA3 HN3
              (try simp only [Act.put, List.setIfInBounds_toArray, List.set_cons_zero, List.set_cons_succ])
              refine wpAnyH_ready (rs := [9]) (by kernel_rfl) (by simp) ?_
              refine AllReadyH.cons rfl (fun K hK => ?_) ?_
              · go_simp
                go_at_call 63
                refine (bin_v HP.out HQ.out _ _ _ _).mono ?_
                rintro e wz5 ⟨sC, cC, rfl, hown, hbx⟩
                simp only
                have HBe5 := hid (HBe4.out.trans (hbx.mono HBe4.out.size))
                have HSz5 := hid hbx.size
                have HOA5 := hid (HOA4.out.on hbx)
                have HOB5 := hid (HOB4.out.on hbx)
                have HN5 := hid (HN4.out.on hbx)
                have HC5 := hid hown
                have HCl := hid (fun r hr => hown.lt r hr)
                refine hK.out _ _ (HSx.out _ HBe5.out) (fun hHeld => ?_)
                clear hK K hown hbx HOA4 HOB4 HN4
                (try simp only [Act.put, List.setIfInBounds_toArray, List.set_cons_zero, List.set_cons_succ])
                refine wpAnyH_ready (rs := [11]) (by kernel_rfl) (by simp) ?_
                refine AllReadyH.cons rfl (fun K hK => ?_) ?_
                · have n0 := HN5.out.cell 0
                  have n1 := HN5.out.cell 1
                  have n2 := HN5.out.cell 2
                  have n3 := HN5.out.cell 3
                  simp at n0 n1 n2 n3
                  have hnf := HN5.out.free
                  have hnl := HN5.out.lt
                  go_simp
                  have hgn := HBe1.out.size
                  refine hK.out _ _ (HSx.out _ (four_bel HBe5.out hgn _ _ _ _)) (fun hHeld => ?_)
                  clear hK K
                  (try simp only [Act.put, List.setIfInBounds_toArray, List.set_cons_zero, List.set_cons_succ])
                  refine wpAnyH_done (by kernel_rfl) ?_ _
                  clear n0 n1 n2 n3 hnf hHeld hwq
                  go_wp2_with fail
                  go_meet
                  have hs0 := HBe0.out.size
                  have hs1 := HSz1.out
                  have hs2 := HSz2.out
                  have hs3 := HSz3.out
                  have hs4 := HSz4.out
                  have hs5 := HSz5.out
                  refine ⟨wz1.heap.size, sC, cC, rfl, by omega, four_row HN5.out _ _ _ _, ?_, ?_, four_bel (HB2.out.trans (HBe5.out.mono HB2.out.size)) (by omega) _ _ _ _⟩
                  · exact fun w' hz' hk' => made_bin (own_same HC5.out (fun r hr => (hk' r (by have := HCl.out r hr; omega) (by rw [four_size]; exact (HC5.out.lt r hr).2) (by have := HCl.out r hr; omega) (by have := HCl.out r hr; omega)).trans (four_far _ _ _ (by have := HCl.out r hr; omega) _ _ _ _ _ _ _ _))) (HOA5.out.keep (fun b h1 h2 h3 => (hk' b (by omega) (by rw [four_size]; exact h3) (by omega) (by omega)).trans (four_far _ _ _ (by omega) _ _ _ _ _ _ _ _))).rd (HOB5.out.keep (fun b h1 h2 h3 => (hk' b (by omega) (by rw [four_size]; exact h3) (by omega) (by omega)).trans (four_far _ _ _ (by omega) _ _ _ _ _ _ _ _))).rd
                  · exact row_four (HZ2.out.below HBe5.out HZ2.out.lt) (by omega) _ _ _ _
                exact AllReadyH.nil
              exact AllReadyH.nil
            exact AllReadyH.nil
          refine AllReadyH.cons rfl (fun K hK => ?_) ?_
          · go_simp
            go_at_call 64
            refine (HCb.out _ HBe3.out).mono ?_
            rintro e wz4 ⟨sB, cB, rfl, hown, hbx⟩
            simp only
            have HBe4 := hid (HBe3.out.trans (hbx.mono HBe3.out.size))
            have HSz4 := hid hbx.size
            have HOA4 := hid (HOA3.out.on hbx)
            have kl4 := (hbx.cell (p := ⟨wz2.heap.size, (q : Nat), none⟩) hgl3).trans kl3
            have hgl4 := Nat.lt_of_lt_of_le hgl3 hbx.size
            have HN4 := hid (HN3.out.on hbx)
            have HOB4 := hid hown
            refine hK.out _ _ (HSx.out _ HBe4.out) (fun hHeld => ?_)
            clear hK K hown hbx HOA3 kl3 hgl3 HN3
            (try simp only [Act.put, List.setIfInBounds_toArray, List.set_cons_zero, List.set_cons_succ])
            refine wpAnyH_ready (rs := [4]) (by kernel_rfl) (by simp) ?_
            refine AllReadyH.cons rfl (fun K hK => ?_) ?_
            · go_simp
              refine hK.out _ _ hHeld (fun _ => ?_)
              clear hK K kl4 hgl4
              (try simp only [Act.put, List.setIfInBounds_toArray, List.set_cons_zero, List.set_cons_succ])
              refine wpAnyH_ready (rs := [9]) (by kernel_rfl) (by simp) ?_
              refine AllReadyH.cons rfl (fun K hK => ?_) ?_
              · go_simp
                go_at_call 63
                refine (bin_v HP.out HQ.out _ _ _ _).mono ?_
                rintro e wz5 ⟨sC, cC, rfl, hown, hbx⟩
                simp only
                have HBe5 := hid (HBe4.out.trans (hbx.mono HBe4.out.size))
                have HSz5 := hid hbx.size
                have HOA5 := hid (HOA4.out.on hbx)
                have HOB5 := hid (HOB4.out.on hbx)
                have HN5 := hid (HN4.out.on hbx)
                have HC5 := hid hown
                have HCl := hid (fun r hr => hown.lt r hr)
                refine hK.out _ _ (HSx.out _ HBe5.out) (fun hHeld => ?_)
                clear hK K hown hbx HOA4 HOB4 HN4
                (try simp only [Act.put, List.setIfInBounds_toArray, List.set_cons_zero, List.set_cons_succ])
                refine wpAnyH_ready (rs := [11]) (by kernel_rfl) (by simp) ?_
                refine AllReadyH.cons rfl (fun K hK => ?_) ?_
                · have n0 := HN5.out.cell 0
                  have n1 := HN5.out.cell 1
                  have n2 := HN5.out.cell 2
                  have n3 := HN5.out.cell 3
                  simp at n0 n1 n2 n3
                  have hnf := HN5.out.free
                  have hnl := HN5.out.lt
                  go_simp
                  have hgn := HBe1.out.size
                  refine hK.out _ _ (HSx.out _ (four_bel HBe5.out hgn _ _ _ _)) (fun hHeld => ?_)
                  clear hK K
                  (try simp only [Act.put, List.setIfInBounds_toArray, List.set_cons_zero, List.set_cons_succ])
                  refine wpAnyH_done (by kernel_rfl) ?_ _
                  clear n0 n1 n2 n3 hnf hHeld hwq
                  go_wp2_with fail
                  go_meet
                  have hs0 := HBe0.out.size
                  have hs1 := HSz1.out
                  have hs2 := HSz2.out
                  have hs3 := HSz3.out
                  have hs4 := HSz4.out
                  have hs5 := HSz5.out
                  refine ⟨wz1.heap.size, sC, cC, rfl, by omega, four_row HN5.out _ _ _ _, ?_, ?_, four_bel (HB2.out.trans (HBe5.out.mono HB2.out.size)) (by omega) _ _ _ _⟩
                  · exact fun w' hz' hk' => made_bin (own_same HC5.out (fun r hr => (hk' r (by have := HCl.out r hr; omega) (by rw [four_size]; exact (HC5.out.lt r hr).2) (by have := HCl.out r hr; omega) (by have := HCl.out r hr; omega)).trans (four_far _ _ _ (by have := HCl.out r hr; omega) _ _ _ _ _ _ _ _))) (HOA5.out.keep (fun b h1 h2 h3 => (hk' b (by omega) (by rw [four_size]; exact h3) (by omega) (by omega)).trans (four_far _ _ _ (by omega) _ _ _ _ _ _ _ _))).rd (HOB5.out.keep (fun b h1 h2 h3 => (hk' b (by omega) (by rw [four_size]; exact h3) (by omega) (by omega)).trans (four_far _ _ _ (by omega) _ _ _ _ _ _ _ _))).rd
                  · exact row_four (HZ2.out.below HBe5.out HZ2.out.lt) (by omega) _ _ _ _
                exact AllReadyH.nil
              exact AllReadyH.nil
            exact AllReadyH.nil
          exact AllReadyH.nil
        refine AllReadyH.cons rfl (fun K hK => ?_) ?_
        · go_simp
          go_at_call 64
          refine (HCb.out _ HBe2.out).mono ?_
          rintro e wz3 ⟨sB, cB, rfl, hown, hbx⟩
          simp only
          have HBe3 := hid (HBe2.out.trans (hbx.mono HBe2.out.size))
          have HSz3 := hid hbx.size
          have HOA3 := hid (HOA2.out.on hbx)
          have HN3 := hid (HN2.out.on hbx)
          have HOB3 := hid hown
          refine hK.out _ _ (HSx.out _ HBe3.out) (fun hHeld => ?_)
          clear hK K hown hbx HOA2 HN2
          (try simp only [Act.put, List.setIfInBounds_toArray, List.set_cons_zero, List.set_cons_succ])
          refine wpAnyH_ready (rs := [0]) (by kernel_rfl) (by simp) ?_
          refine AllReadyH.cons rfl (fun K hK => ?_) ?_
          · go_simp
            refine hK.out _ _ (HSx.out _ (HBe3.out.alloc HBe3.out.size _)) (fun hHeld => ?_)
            clear hK K
            (try simp only [Act.put, List.setIfInBounds_toArray, List.set_cons_zero, List.set_cons_succ])
            have hal := (Below.refl wz3.heap.size wz3).alloc (Nat.le_refl _) (.cells #[.string ⟨#[61, 61]⟩, .string ⟨#[60]⟩, .string ⟨#[60, 60]⟩] 9)
            have HBe4 := hid (HBe3.out.trans (hal.mono HBe3.out.size))
            have HSz4 := hid (show wz3.heap.size < (wz3.alloc (.cells #[.string ⟨#[61, 61]⟩, .string ⟨#[60]⟩, .string ⟨#[60, 60]⟩] 9)).heap.size by simp)
            have HOA4 := hid (HOA3.out.on hal)
            have HOB4 := hid (HOB3.out.on hal)
            have HN4 := hid (HN3.out.on hal)
            have kl4 := lit_cell wz3 q s HLit.out
            have hgl4 : wz3.heap.size < (wz3.alloc (.cells #[.string ⟨#[61, 61]⟩, .string ⟨#[60]⟩, .string ⟨#[60, 60]⟩] 9)).heap.size := by simp
            clear hal HOA3 HOB3 HN3
            generalize wz3.alloc (.cells #[.string ⟨#[61, 61]⟩, .string ⟨#[60]⟩, .string ⟨#[60, 60]⟩] 9) = wz4 at HBe4 HOA4 HOB4 kl4 hgl4 HN4 HSz4 hHeld ⊢
            refine wpAnyH_take (i := 3) (v := _) rfl (by kernel_rfl) (by kernel_rfl) (by kernel_rfl) (fun _ _ _ h => h) (Or.inl ⟨by rfl, by (intro w hSw; go_simp; first | done | with_reducible rfl)⟩) hHeld ?_
            (try simp only [Act.put, List.setIfInBounds_toArray, List.set_cons_zero, List.set_cons_succ])
            refine wpAnyH_ready (rs := [4]) (by kernel_rfl) (by simp) ?_
            refine AllReadyH.cons rfl (fun K hK => ?_) ?_
            · go_simp
              refine hK.out _ _ hHeld (fun _ => ?_)
              clear hK K kl4 hgl4
              (try simp only [Act.put, List.setIfInBounds_toArray, List.set_cons_zero, List.set_cons_succ])
              refine wpAnyH_ready (rs := [9]) (by kernel_rfl) (by simp) ?_
              refine AllReadyH.cons rfl (fun K hK => ?_) ?_
              · go_simp
                go_at_call 63
                refine (bin_v HP.out HQ.out _ _ _ _).mono ?_
                rintro e wz5 ⟨sC, cC, rfl, hown, hbx⟩
                simp only
                have HBe5 := hid (HBe4.out.trans (hbx.mono HBe4.out.size))
                have HSz5 := hid hbx.size
                have HOA5 := hid (HOA4.out.on hbx)
                have HOB5 := hid (HOB4.out.on hbx)
                have HN5 := hid (HN4.out.on hbx)
                have HC5 := hid hown
                have HCl := hid (fun r hr => hown.lt r hr)
                refine hK.out _ _ (HSx.out _ HBe5.out) (fun hHeld => ?_)
                clear hK K hown hbx HOA4 HOB4 HN4
                (try simp only [Act.put, List.setIfInBounds_toArray, List.set_cons_zero, List.set_cons_succ])
                refine wpAnyH_ready (rs := [11]) (by kernel_rfl) (by simp) ?_
                refine AllReadyH.cons rfl (fun K hK => ?_) ?_
                · have n0 := HN5.out.cell 0
                  have n1 := HN5.out.cell 1
                  have n2 := HN5.out.cell 2
                  have n3 := HN5.out.cell 3
                  simp at n0 n1 n2 n3
                  have hnf := HN5.out.free
                  have hnl := HN5.out.lt
                  go_simp
                  have hgn := HBe1.out.size
                  refine hK.out _ _ (HSx.out _ (four_bel HBe5.out hgn _ _ _ _)) (fun hHeld => ?_)
                  clear hK K
                  (try simp only [Act.put, List.setIfInBounds_toArray, List.set_cons_zero, List.set_cons_succ])
                  refine wpAnyH_done (by kernel_rfl) ?_ _
                  clear n0 n1 n2 n3 hnf hHeld hwq
                  go_wp2_with fail
                  go_meet
                  have hs0 := HBe0.out.size
                  have hs1 := HSz1.out
                  have hs2 := HSz2.out
                  have hs3 := HSz3.out
                  have hs4 := HSz4.out
                  have hs5 := HSz5.out
                  refine ⟨wz1.heap.size, sC, cC, rfl, by omega, four_row HN5.out _ _ _ _, ?_, ?_, four_bel (HB2.out.trans (HBe5.out.mono HB2.out.size)) (by omega) _ _ _ _⟩
                  · exact fun w' hz' hk' => made_bin (own_same HC5.out (fun r hr => (hk' r (by have := HCl.out r hr; omega) (by rw [four_size]; exact (HC5.out.lt r hr).2) (by have := HCl.out r hr; omega) (by have := HCl.out r hr; omega)).trans (four_far _ _ _ (by have := HCl.out r hr; omega) _ _ _ _ _ _ _ _))) (HOA5.out.keep (fun b h1 h2 h3 => (hk' b (by omega) (by rw [four_size]; exact h3) (by omega) (by omega)).trans (four_far _ _ _ (by omega) _ _ _ _ _ _ _ _))).rd (HOB5.out.keep (fun b h1 h2 h3 => (hk' b (by omega) (by rw [four_size]; exact h3) (by omega) (by omega)).trans (four_far _ _ _ (by omega) _ _ _ _ _ _ _ _))).rd
                  · exact row_four (HZ2.out.below HBe5.out HZ2.out.lt) (by omega) _ _ _ _
                exact AllReadyH.nil
              exact AllReadyH.nil
            exact AllReadyH.nil
          exact AllReadyH.nil
        exact AllReadyH.nil
      exact AllReadyH.nil
    refine AllReadyH.cons rfl (fun K hK => ?_) ?_
    · go_simp
      refine hK.out _ _ (HSx.out _ (HBe0.out.alloc HBe0.out.size _)) (fun hHeld => ?_)
      clear hK K
      (try simp only [Act.put, List.setIfInBounds_toArray, List.set_cons_zero, List.set_cons_succ])
      have hal := (Below.refl wz0.heap.size wz0).alloc (Nat.le_refl _) (.cells #[.int .i64 0, .int .i64 0, .string ⟨#[]⟩, .slice none 0 0] 25)
      have HBe1 := hid (HBe0.out.trans (hal.mono HBe0.out.size))
      have HSz1 := hid (show wz0.heap.size < (wz0.alloc (.cells #[.int .i64 0, .int .i64 0, .string ⟨#[]⟩, .slice none 0 0] 25)).heap.size by simp)
      have HN1 := hid (Row.new wz0 25 #[.int .i64 0, .int .i64 0, .string ⟨#[]⟩, .slice none 0 0])
      clear hal 
      generalize wz0.alloc (.cells #[.int .i64 0, .int .i64 0, .string ⟨#[]⟩, .slice none 0 0] 25) = wz1 at HBe1 HN1 HSz1 hHeld ⊢
      refine wpAnyH_ready (rs := [0, 6]) (by kernel_rfl) (by simp) ?_
      refine AllReadyH.cons rfl (fun K hK => ?_) ?_
      · go_simp
        refine hK.out _ _ (HSx.out _ (HBe1.out.alloc HBe1.out.size _)) (fun hHeld => ?_)
        clear hK K
        (try simp only [Act.put, List.setIfInBounds_toArray, List.set_cons_zero, List.set_cons_succ])
        have hal := (Below.refl wz1.heap.size wz1).alloc (Nat.le_refl _) (.cells #[.string ⟨#[61, 61]⟩, .string ⟨#[60]⟩, .string ⟨#[60, 60]⟩] 9)
        have HBe2 := hid (HBe1.out.trans (hal.mono HBe1.out.size))
        have HSz2 := hid (show wz1.heap.size < (wz1.alloc (.cells #[.string ⟨#[61, 61]⟩, .string ⟨#[60]⟩, .string ⟨#[60, 60]⟩] 9)).heap.size by simp)
        have HN2 := hid (HN1.out.on hal)
        have kl2 := lit_cell wz1 q s HLit.out
        have hgl2 : wz1.heap.size < (wz1.alloc (.cells #[.string ⟨#[61, 61]⟩, .string ⟨#[60]⟩, .string ⟨#[60, 60]⟩] 9)).heap.size := by simp
        clear hal HN1
        generalize wz1.alloc (.cells #[.string ⟨#[61, 61]⟩, .string ⟨#[60]⟩, .string ⟨#[60, 60]⟩] 9) = wz2 at HBe2 kl2 hgl2 HN2 HSz2 hHeld ⊢
        refine wpAnyH_take (i := 3) (v := _) rfl (by kernel_rfl) (by kernel_rfl) (by kernel_rfl) (fun _ _ _ h => h) (Or.inl ⟨by rfl, by (intro w hSw; go_simp; first | done | with_reducible rfl)⟩) hHeld ?_
        (try simp only [Act.put, List.setIfInBounds_toArray, List.set_cons_zero, List.set_cons_succ])
        refine wpAnyH_ready (rs := [4, 6]) (by kernel_rfl) (by simp) ?_
        refine AllReadyH.cons rfl (fun K hK => ?_) ?_
        · go_simp
          refine hK.out _ _ hHeld (fun _ => ?_)
          clear hK K kl2 hgl2
          (try simp only [Act.put, List.setIfInBounds_toArray, List.set_cons_zero, List.set_cons_succ])
          refine wpAnyH_ready (rs := [6]) (by kernel_rfl) (by simp) ?_
          refine AllReadyH.cons rfl (fun K hK => ?_) ?_
          · go_simp
            go_at_call 64
            refine (HCa.out _ HBe2.out).mono ?_
            rintro e wz3 ⟨sA, cA, rfl, hown, hbx⟩
            simp only
            have HBe3 := hid (HBe2.out.trans (hbx.mono HBe2.out.size))
            have HSz3 := hid hbx.size
            have HN3 := hid (HN2.out.on hbx)
            have HOA3 := hid hown
            refine hK.out _ _ (HSx.out _ HBe3.out) (fun hHeld => ?_)
            clear hK K hown hbx HN2
            (try simp only [Act.put, List.setIfInBounds_toArray, List.set_cons_zero, List.set_cons_succ])
            refine wpAnyH_ready (rs := [8]) (by kernel_rfl) (by simp) ?_
            refine AllReadyH.cons rfl (fun K hK => ?_) ?_
            · go_simp
              go_at_call 64
              refine (HCb.out _ HBe3.out).mono ?_
              rintro e wz4 ⟨sB, cB, rfl, hown, hbx⟩
              simp only
              have HBe4 := hid (HBe3.out.trans (hbx.mono HBe3.out.size))
              have HSz4 := hid hbx.size
              have HOA4 := hid (HOA3.out.on hbx)
              have HN4 := hid (HN3.out.on hbx)
              have HOB4 := hid hown
              refine hK.out _ _ (HSx.out _ HBe4.out) (fun hHeld => ?_)
              clear hK K hown hbx HOA3 HN3
              (try simp only [Act.put, List.setIfInBounds_toArray, List.set_cons_zero, List.set_cons_succ])
              refine wpAnyH_ready (rs := [9]) (by kernel_rfl) (by simp) ?_
              refine AllReadyH.cons rfl (fun K hK => ?_) ?_
              · go_simp
                go_at_call 63
                refine (bin_v HP.out HQ.out _ _ _ _).mono ?_
                rintro e wz5 ⟨sC, cC, rfl, hown, hbx⟩
                simp only
                have HBe5 := hid (HBe4.out.trans (hbx.mono HBe4.out.size))
                have HSz5 := hid hbx.size
                have HOA5 := hid (HOA4.out.on hbx)
                have HOB5 := hid (HOB4.out.on hbx)
                have HN5 := hid (HN4.out.on hbx)
                have HC5 := hid hown
                have HCl := hid (fun r hr => hown.lt r hr)
                refine hK.out _ _ (HSx.out _ HBe5.out) (fun hHeld => ?_)
                clear hK K hown hbx HOA4 HOB4 HN4
                (try simp only [Act.put, List.setIfInBounds_toArray, List.set_cons_zero, List.set_cons_succ])
                refine wpAnyH_ready (rs := [11]) (by kernel_rfl) (by simp) ?_
                refine AllReadyH.cons rfl (fun K hK => ?_) ?_
                · have n0 := HN5.out.cell 0
                  have n1 := HN5.out.cell 1
                  have n2 := HN5.out.cell 2
                  have n3 := HN5.out.cell 3
                  simp at n0 n1 n2 n3
                  have hnf := HN5.out.free
                  have hnl := HN5.out.lt
                  go_simp
                  have hgn := HBe0.out.size
                  refine hK.out _ _ (HSx.out _ (four_bel HBe5.out hgn _ _ _ _)) (fun hHeld => ?_)
                  clear hK K
                  (try simp only [Act.put, List.setIfInBounds_toArray, List.set_cons_zero, List.set_cons_succ])
                  refine wpAnyH_done (by kernel_rfl) ?_ _
                  clear n0 n1 n2 n3 hnf hHeld hwq
                  go_wp2_with fail
                  go_meet
                  have hs0 := HBe0.out.size
                  have hs1 := HSz1.out
                  have hs2 := HSz2.out
                  have hs3 := HSz3.out
                  have hs4 := HSz4.out
                  have hs5 := HSz5.out
                  refine ⟨wz0.heap.size, sC, cC, rfl, by omega, four_row HN5.out _ _ _ _, ?_, ?_, four_bel (HB2.out.trans (HBe5.out.mono HB2.out.size)) (by omega) _ _ _ _⟩
                  · exact fun w' hz' hk' => made_bin (own_same HC5.out (fun r hr => (hk' r (by have := HCl.out r hr; omega) (by rw [four_size]; exact (HC5.out.lt r hr).2) (by have := HCl.out r hr; omega) (by have := HCl.out r hr; omega)).trans (four_far _ _ _ (by have := HCl.out r hr; omega) _ _ _ _ _ _ _ _))) (HOA5.out.keep (fun b h1 h2 h3 => (hk' b (by omega) (by rw [four_size]; exact h3) (by omega) (by omega)).trans (four_far _ _ _ (by omega) _ _ _ _ _ _ _ _))).rd (HOB5.out.keep (fun b h1 h2 h3 => (hk' b (by omega) (by rw [four_size]; exact h3) (by omega) (by omega)).trans (four_far _ _ _ (by omega) _ _ _ _ _ _ _ _))).rd
                  · exact row_four (HZ2.out.below HBe5.out HZ2.out.lt) (by omega) _ _ _ _
                exact AllReadyH.nil
              exact AllReadyH.nil
            exact AllReadyH.nil
          exact AllReadyH.nil
        refine AllReadyH.cons rfl (fun K hK => ?_) ?_
        · go_simp
          go_at_call 64
          refine (HCa.out _ HBe2.out).mono ?_
          rintro e wz3 ⟨sA, cA, rfl, hown, hbx⟩
          simp only
          have HBe3 := hid (HBe2.out.trans (hbx.mono HBe2.out.size))
          have HSz3 := hid hbx.size
          have kl3 := (hbx.cell (p := ⟨wz1.heap.size, (q : Nat), none⟩) hgl2).trans kl2
          have hgl3 := Nat.lt_of_lt_of_le hgl2 hbx.size
          have HN3 := hid (HN2.out.on hbx)
          have HOA3 := hid hown
          refine hK.out _ _ (HSx.out _ HBe3.out) (fun hHeld => ?_)
          clear hK K hown hbx kl2 hgl2 HN2
          (try simp only [Act.put, List.setIfInBounds_toArray, List.set_cons_zero, List.set_cons_succ])
          refine wpAnyH_ready (rs := [4, 8]) (by kernel_rfl) (by simp) ?_
          refine AllReadyH.cons rfl (fun K hK => ?_) ?_
          · go_simp
            refine hK.out _ _ hHeld (fun _ => ?_)
            clear hK K kl3 hgl3
            (try simp only [Act.put, List.setIfInBounds_toArray, List.set_cons_zero, List.set_cons_succ])
            refine wpAnyH_ready (rs := [8]) (by kernel_rfl) (by simp) ?_
            refine AllReadyH.cons rfl (fun K hK => ?_) ?_
            · go_simp
              go_at_call 64
              refine (HCb.out _ HBe3.out).mono ?_
              rintro e wz4 ⟨sB, cB, rfl, hown, hbx⟩
              simp only
              have HBe4 := hid (HBe3.out.trans (hbx.mono HBe3.out.size))
              have HSz4 := hid hbx.size
              have HOA4 := hid (HOA3.out.on hbx)
              have HN4 := hid (HN3.out.on hbx)
              have HOB4 := hid hown
              refine hK.out _ _ (HSx.out _ HBe4.out) (fun hHeld => ?_)
              clear hK K hown hbx HOA3 HN3
              (try simp only [Act.put, List.setIfInBounds_toArray, List.set_cons_zero, List.set_cons_succ])
              refine wpAnyH_ready (rs := [9]) (by kernel_rfl) (by simp) ?_
              refine AllReadyH.cons rfl (fun K hK => ?_) ?_
              · go_simp
                go_at_call 63
                refine (bin_v HP.out HQ.out _ _ _ _).mono ?_
                rintro e wz5 ⟨sC, cC, rfl, hown, hbx⟩
                simp only
                have HBe5 := hid (HBe4.out.trans (hbx.mono HBe4.out.size))
                have HSz5 := hid hbx.size
                have HOA5 := hid (HOA4.out.on hbx)
                have HOB5 := hid (HOB4.out.on hbx)
                have HN5 := hid (HN4.out.on hbx)
                have HC5 := hid hown
                have HCl := hid (fun r hr => hown.lt r hr)
                refine hK.out _ _ (HSx.out _ HBe5.out) (fun hHeld => ?_)
                clear hK K hown hbx HOA4 HOB4 HN4
                (try simp only [Act.put, List.setIfInBounds_toArray, List.set_cons_zero, List.set_cons_succ])
                refine wpAnyH_ready (rs := [11]) (by kernel_rfl) (by simp) ?_
                refine AllReadyH.cons rfl (fun K hK => ?_) ?_
                · have n0 := HN5.out.cell 0
                  have n1 := HN5.out.cell 1
                  have n2 := HN5.out.cell 2
                  have n3 := HN5.out.cell 3
                  simp at n0 n1 n2 n3
                  have hnf := HN5.out.free
                  have hnl := HN5.out.lt
                  go_simp
                  have hgn := HBe0.out.size
                  refine hK.out _ _ (HSx.out _ (four_bel HBe5.out hgn _ _ _ _)) (fun hHeld => ?_)
                  clear hK K
                  (try simp only [Act.put, List.setIfInBounds_toArray, List.set_cons_zero, List.set_cons_succ])
                  refine wpAnyH_done (by kernel_rfl) ?_ _
                  clear n0 n1 n2 n3 hnf hHeld hwq
                  go_wp2_with fail
                  go_meet
                  have hs0 := HBe0.out.size
                  have hs1 := HSz1.out
                  have hs2 := HSz2.out
                  have hs3 := HSz3.out
                  have hs4 := HSz4.out
                  have hs5 := HSz5.out
                  refine ⟨wz0.heap.size, sC, cC, rfl, by omega, four_row HN5.out _ _ _ _, ?_, ?_, four_bel (HB2.out.trans (HBe5.out.mono HB2.out.size)) (by omega) _ _ _ _⟩
                  · exact fun w' hz' hk' => made_bin (own_same HC5.out (fun r hr => (hk' r (by have := HCl.out r hr; omega) (by rw [four_size]; exact (HC5.out.lt r hr).2) (by have := HCl.out r hr; omega) (by have := HCl.out r hr; omega)).trans (four_far _ _ _ (by have := HCl.out r hr; omega) _ _ _ _ _ _ _ _))) (HOA5.out.keep (fun b h1 h2 h3 => (hk' b (by omega) (by rw [four_size]; exact h3) (by omega) (by omega)).trans (four_far _ _ _ (by omega) _ _ _ _ _ _ _ _))).rd (HOB5.out.keep (fun b h1 h2 h3 => (hk' b (by omega) (by rw [four_size]; exact h3) (by omega) (by omega)).trans (four_far _ _ _ (by omega) _ _ _ _ _ _ _ _))).rd
                  · exact row_four (HZ2.out.below HBe5.out HZ2.out.lt) (by omega) _ _ _ _
                exact AllReadyH.nil
              exact AllReadyH.nil
            exact AllReadyH.nil
          refine AllReadyH.cons rfl (fun K hK => ?_) ?_
          · go_simp
            go_at_call 64
            refine (HCb.out _ HBe3.out).mono ?_
            rintro e wz4 ⟨sB, cB, rfl, hown, hbx⟩
            simp only
            have HBe4 := hid (HBe3.out.trans (hbx.mono HBe3.out.size))
            have HSz4 := hid hbx.size
            have HOA4 := hid (HOA3.out.on hbx)
            have kl4 := (hbx.cell (p := ⟨wz1.heap.size, (q : Nat), none⟩) hgl3).trans kl3
            have hgl4 := Nat.lt_of_lt_of_le hgl3 hbx.size
            have HN4 := hid (HN3.out.on hbx)
            have HOB4 := hid hown
            refine hK.out _ _ (HSx.out _ HBe4.out) (fun hHeld => ?_)
            clear hK K hown hbx HOA3 kl3 hgl3 HN3
            (try simp only [Act.put, List.setIfInBounds_toArray, List.set_cons_zero, List.set_cons_succ])
            refine wpAnyH_ready (rs := [4]) (by kernel_rfl) (by simp) ?_
            refine AllReadyH.cons rfl (fun K hK => ?_) ?_
            · go_simp
              refine hK.out _ _ hHeld (fun _ => ?_)
              clear hK K kl4 hgl4
              (try simp only [Act.put, List.setIfInBounds_toArray, List.set_cons_zero, List.set_cons_succ])
              refine wpAnyH_ready (rs := [9]) (by kernel_rfl) (by simp) ?_
              refine AllReadyH.cons rfl (fun K hK => ?_) ?_
              · go_simp
                go_at_call 63
                refine (bin_v HP.out HQ.out _ _ _ _).mono ?_
                rintro e wz5 ⟨sC, cC, rfl, hown, hbx⟩
                simp only
                have HBe5 := hid (HBe4.out.trans (hbx.mono HBe4.out.size))
                have HSz5 := hid hbx.size
                have HOA5 := hid (HOA4.out.on hbx)
                have HOB5 := hid (HOB4.out.on hbx)
                have HN5 := hid (HN4.out.on hbx)
                have HC5 := hid hown
                have HCl := hid (fun r hr => hown.lt r hr)
                refine hK.out _ _ (HSx.out _ HBe5.out) (fun hHeld => ?_)
                clear hK K hown hbx HOA4 HOB4 HN4
                (try simp only [Act.put, List.setIfInBounds_toArray, List.set_cons_zero, List.set_cons_succ])
                refine wpAnyH_ready (rs := [11]) (by kernel_rfl) (by simp) ?_
                refine AllReadyH.cons rfl (fun K hK => ?_) ?_
                · have n0 := HN5.out.cell 0
                  have n1 := HN5.out.cell 1
                  have n2 := HN5.out.cell 2
                  have n3 := HN5.out.cell 3
                  simp at n0 n1 n2 n3
                  have hnf := HN5.out.free
                  have hnl := HN5.out.lt
                  go_simp
                  have hgn := HBe0.out.size
                  refine hK.out _ _ (HSx.out _ (four_bel HBe5.out hgn _ _ _ _)) (fun hHeld => ?_)
                  clear hK K
                  (try simp only [Act.put, List.setIfInBounds_toArray, List.set_cons_zero, List.set_cons_succ])
                  refine wpAnyH_done (by kernel_rfl) ?_ _
                  clear n0 n1 n2 n3 hnf hHeld hwq
                  go_wp2_with fail
                  go_meet
                  have hs0 := HBe0.out.size
                  have hs1 := HSz1.out
                  have hs2 := HSz2.out
                  have hs3 := HSz3.out
                  have hs4 := HSz4.out
                  have hs5 := HSz5.out
                  refine ⟨wz0.heap.size, sC, cC, rfl, by omega, four_row HN5.out _ _ _ _, ?_, ?_, four_bel (HB2.out.trans (HBe5.out.mono HB2.out.size)) (by omega) _ _ _ _⟩
                  · exact fun w' hz' hk' => made_bin (own_same HC5.out (fun r hr => (hk' r (by have := HCl.out r hr; omega) (by rw [four_size]; exact (HC5.out.lt r hr).2) (by have := HCl.out r hr; omega) (by have := HCl.out r hr; omega)).trans (four_far _ _ _ (by have := HCl.out r hr; omega) _ _ _ _ _ _ _ _))) (HOA5.out.keep (fun b h1 h2 h3 => (hk' b (by omega) (by rw [four_size]; exact h3) (by omega) (by omega)).trans (four_far _ _ _ (by omega) _ _ _ _ _ _ _ _))).rd (HOB5.out.keep (fun b h1 h2 h3 => (hk' b (by omega) (by rw [four_size]; exact h3) (by omega) (by omega)).trans (four_far _ _ _ (by omega) _ _ _ _ _ _ _ _))).rd
                  · exact row_four (HZ2.out.below HBe5.out HZ2.out.lt) (by omega) _ _ _ _
                exact AllReadyH.nil
              exact AllReadyH.nil
            exact AllReadyH.nil
          exact AllReadyH.nil
        exact AllReadyH.nil
      refine AllReadyH.cons rfl (fun K hK => ?_) ?_
      · go_simp
        go_at_call 64
        refine (HCa.out _ HBe1.out).mono ?_
        rintro e wz2 ⟨sA, cA, rfl, hown, hbx⟩
        simp only
        have HBe2 := hid (HBe1.out.trans (hbx.mono HBe1.out.size))
        have HSz2 := hid hbx.size
        have HN2 := hid (HN1.out.on hbx)
        have HOA2 := hid hown
        refine hK.out _ _ (HSx.out _ HBe2.out) (fun hHeld => ?_)
        clear hK K hown hbx HN1
        (try simp only [Act.put, List.setIfInBounds_toArray, List.set_cons_zero, List.set_cons_succ])
        refine wpAnyH_ready (rs := [0, 8]) (by kernel_rfl) (by simp) ?_
        refine AllReadyH.cons rfl (fun K hK => ?_) ?_
        · go_simp
          refine hK.out _ _ (HSx.out _ (HBe2.out.alloc HBe2.out.size _)) (fun hHeld => ?_)
          clear hK K
          (try simp only [Act.put, List.setIfInBounds_toArray, List.set_cons_zero, List.set_cons_succ])
          have hal := (Below.refl wz2.heap.size wz2).alloc (Nat.le_refl _) (.cells #[.string ⟨#[61, 61]⟩, .string ⟨#[60]⟩, .string ⟨#[60, 60]⟩] 9)
          have HBe3 := hid (HBe2.out.trans (hal.mono HBe2.out.size))
          have HSz3 := hid (show wz2.heap.size < (wz2.alloc (.cells #[.string ⟨#[61, 61]⟩, .string ⟨#[60]⟩, .string ⟨#[60, 60]⟩] 9)).heap.size by simp)
          have HOA3 := hid (HOA2.out.on hal)
          have HN3 := hid (HN2.out.on hal)
          have kl3 := lit_cell wz2 q s HLit.out
          have hgl3 : wz2.heap.size < (wz2.alloc (.cells #[.string ⟨#[61, 61]⟩, .string ⟨#[60]⟩, .string ⟨#[60, 60]⟩] 9)).heap.size := by simp
          clear hal HOA2 HN2
          generalize wz2.alloc (.cells #[.string ⟨#[61, 61]⟩, .string ⟨#[60]⟩, .string ⟨#[60, 60]⟩] 9) = wz3 at HBe3 HOA3 kl3 hgl3 HN3 HSz3 hHeld ⊢
          refine wpAnyH_take (i := 3) (v := _) rfl (by kernel_rfl) (by kernel_rfl) (by kernel_rfl) (fun _ _ _ h => h) (Or.inl ⟨by rfl, by (intro w hSw; go_simp; first | done | with_reducible rfl)⟩) hHeld ?_
          (try simp only [Act.put, List.setIfInBounds_toArray, List.set_cons_zero, List.set_cons_succ])
          refine wpAnyH_ready (rs := [4, 8]) (by kernel_rfl) (by simp) ?_
          refine AllReadyH.cons rfl (fun K hK => ?_) ?_
          · go_simp
            refine hK.out _ _ hHeld (fun _ => ?_)
            clear hK K kl3 hgl3
            (try simp only [Act.put, List.setIfInBounds_toArray, List.set_cons_zero, List.set_cons_succ])
            refine wpAnyH_ready (rs := [8]) (by kernel_rfl) (by simp) ?_
            refine AllReadyH.cons rfl (fun K hK => ?_) ?_
            · go_simp
              go_at_call 64
              refine (HCb.out _ HBe3.out).mono ?_
              rintro e wz4 ⟨sB, cB, rfl, hown, hbx⟩
              simp only
              have HBe4 := hid (HBe3.out.trans (hbx.mono HBe3.out.size))
              have HSz4 := hid hbx.size
              have HOA4 := hid (HOA3.out.on hbx)
              have HN4 := hid (HN3.out.on hbx)
              have HOB4 := hid hown
              refine hK.out _ _ (HSx.out _ HBe4.out) (fun hHeld => ?_)
              clear hK K hown hbx HOA3 HN3
              (try simp only [Act.put, List.setIfInBounds_toArray, List.set_cons_zero, List.set_cons_succ])
              refine wpAnyH_ready (rs := [9]) (by kernel_rfl) (by simp) ?_
              refine AllReadyH.cons rfl (fun K hK => ?_) ?_
              · go_simp
                go_at_call 63
                refine (bin_v HP.out HQ.out _ _ _ _).mono ?_
                rintro e wz5 ⟨sC, cC, rfl, hown, hbx⟩
                simp only
                have HBe5 := hid (HBe4.out.trans (hbx.mono HBe4.out.size))
                have HSz5 := hid hbx.size
                have HOA5 := hid (HOA4.out.on hbx)
                have HOB5 := hid (HOB4.out.on hbx)
                have HN5 := hid (HN4.out.on hbx)
                have HC5 := hid hown
                have HCl := hid (fun r hr => hown.lt r hr)
                refine hK.out _ _ (HSx.out _ HBe5.out) (fun hHeld => ?_)
                clear hK K hown hbx HOA4 HOB4 HN4
                (try simp only [Act.put, List.setIfInBounds_toArray, List.set_cons_zero, List.set_cons_succ])
                refine wpAnyH_ready (rs := [11]) (by kernel_rfl) (by simp) ?_
                refine AllReadyH.cons rfl (fun K hK => ?_) ?_
                · have n0 := HN5.out.cell 0
                  have n1 := HN5.out.cell 1
                  have n2 := HN5.out.cell 2
                  have n3 := HN5.out.cell 3
                  simp at n0 n1 n2 n3
                  have hnf := HN5.out.free
                  have hnl := HN5.out.lt
                  go_simp
                  have hgn := HBe0.out.size
                  refine hK.out _ _ (HSx.out _ (four_bel HBe5.out hgn _ _ _ _)) (fun hHeld => ?_)
                  clear hK K
                  (try simp only [Act.put, List.setIfInBounds_toArray, List.set_cons_zero, List.set_cons_succ])
                  refine wpAnyH_done (by kernel_rfl) ?_ _
                  clear n0 n1 n2 n3 hnf hHeld hwq
                  go_wp2_with fail
                  go_meet
                  have hs0 := HBe0.out.size
                  have hs1 := HSz1.out
                  have hs2 := HSz2.out
                  have hs3 := HSz3.out
                  have hs4 := HSz4.out
                  have hs5 := HSz5.out
                  refine ⟨wz0.heap.size, sC, cC, rfl, by omega, four_row HN5.out _ _ _ _, ?_, ?_, four_bel (HB2.out.trans (HBe5.out.mono HB2.out.size)) (by omega) _ _ _ _⟩
                  · exact fun w' hz' hk' => made_bin (own_same HC5.out (fun r hr => (hk' r (by have := HCl.out r hr; omega) (by rw [four_size]; exact (HC5.out.lt r hr).2) (by have := HCl.out r hr; omega) (by have := HCl.out r hr; omega)).trans (four_far _ _ _ (by have := HCl.out r hr; omega) _ _ _ _ _ _ _ _))) (HOA5.out.keep (fun b h1 h2 h3 => (hk' b (by omega) (by rw [four_size]; exact h3) (by omega) (by omega)).trans (four_far _ _ _ (by omega) _ _ _ _ _ _ _ _))).rd (HOB5.out.keep (fun b h1 h2 h3 => (hk' b (by omega) (by rw [four_size]; exact h3) (by omega) (by omega)).trans (four_far _ _ _ (by omega) _ _ _ _ _ _ _ _))).rd
                  · exact row_four (HZ2.out.below HBe5.out HZ2.out.lt) (by omega) _ _ _ _
                exact AllReadyH.nil
              exact AllReadyH.nil
            exact AllReadyH.nil
          refine AllReadyH.cons rfl (fun K hK => ?_) ?_
          · go_simp
            go_at_call 64
            refine (HCb.out _ HBe3.out).mono ?_
            rintro e wz4 ⟨sB, cB, rfl, hown, hbx⟩
            simp only
            have HBe4 := hid (HBe3.out.trans (hbx.mono HBe3.out.size))
            have HSz4 := hid hbx.size
            have HOA4 := hid (HOA3.out.on hbx)
            have kl4 := (hbx.cell (p := ⟨wz2.heap.size, (q : Nat), none⟩) hgl3).trans kl3
            have hgl4 := Nat.lt_of_lt_of_le hgl3 hbx.size
            have HN4 := hid (HN3.out.on hbx)
            have HOB4 := hid hown
            refine hK.out _ _ (HSx.out _ HBe4.out) (fun hHeld => ?_)
            clear hK K hown hbx HOA3 kl3 hgl3 HN3
            (try simp only [Act.put, List.setIfInBounds_toArray, List.set_cons_zero, List.set_cons_succ])
            refine wpAnyH_ready (rs := [4]) (by kernel_rfl) (by simp) ?_
            refine AllReadyH.cons rfl (fun K hK => ?_) ?_
            · go_simp
              refine hK.out _ _ hHeld (fun _ => ?_)
              clear hK K kl4 hgl4
              (try simp only [Act.put, List.setIfInBounds_toArray, List.set_cons_zero, List.set_cons_succ])
              refine wpAnyH_ready (rs := [9]) (by kernel_rfl) (by simp) ?_
              refine AllReadyH.cons rfl (fun K hK => ?_) ?_
              · go_simp
                go_at_call 63
                refine (bin_v HP.out HQ.out _ _ _ _).mono ?_
                rintro e wz5 ⟨sC, cC, rfl, hown, hbx⟩
                simp only
                have HBe5 := hid (HBe4.out.trans (hbx.mono HBe4.out.size))
                have HSz5 := hid hbx.size
                have HOA5 := hid (HOA4.out.on hbx)
                have HOB5 := hid (HOB4.out.on hbx)
                have HN5 := hid (HN4.out.on hbx)
                have HC5 := hid hown
                have HCl := hid (fun r hr => hown.lt r hr)
                refine hK.out _ _ (HSx.out _ HBe5.out) (fun hHeld => ?_)
                clear hK K hown hbx HOA4 HOB4 HN4
                (try simp only [Act.put, List.setIfInBounds_toArray, List.set_cons_zero, List.set_cons_succ])
                refine wpAnyH_ready (rs := [11]) (by kernel_rfl) (by simp) ?_
                refine AllReadyH.cons rfl (fun K hK => ?_) ?_
                · have n0 := HN5.out.cell 0
                  have n1 := HN5.out.cell 1
                  have n2 := HN5.out.cell 2
                  have n3 := HN5.out.cell 3
                  simp at n0 n1 n2 n3
                  have hnf := HN5.out.free
                  have hnl := HN5.out.lt
                  go_simp
                  have hgn := HBe0.out.size
                  refine hK.out _ _ (HSx.out _ (four_bel HBe5.out hgn _ _ _ _)) (fun hHeld => ?_)
                  clear hK K
                  (try simp only [Act.put, List.setIfInBounds_toArray, List.set_cons_zero, List.set_cons_succ])
                  refine wpAnyH_done (by kernel_rfl) ?_ _
                  clear n0 n1 n2 n3 hnf hHeld hwq
                  go_wp2_with fail
                  go_meet
                  have hs0 := HBe0.out.size
                  have hs1 := HSz1.out
                  have hs2 := HSz2.out
                  have hs3 := HSz3.out
                  have hs4 := HSz4.out
                  have hs5 := HSz5.out
                  refine ⟨wz0.heap.size, sC, cC, rfl, by omega, four_row HN5.out _ _ _ _, ?_, ?_, four_bel (HB2.out.trans (HBe5.out.mono HB2.out.size)) (by omega) _ _ _ _⟩
                  · exact fun w' hz' hk' => made_bin (own_same HC5.out (fun r hr => (hk' r (by have := HCl.out r hr; omega) (by rw [four_size]; exact (HC5.out.lt r hr).2) (by have := HCl.out r hr; omega) (by have := HCl.out r hr; omega)).trans (four_far _ _ _ (by have := HCl.out r hr; omega) _ _ _ _ _ _ _ _))) (HOA5.out.keep (fun b h1 h2 h3 => (hk' b (by omega) (by rw [four_size]; exact h3) (by omega) (by omega)).trans (four_far _ _ _ (by omega) _ _ _ _ _ _ _ _))).rd (HOB5.out.keep (fun b h1 h2 h3 => (hk' b (by omega) (by rw [four_size]; exact h3) (by omega) (by omega)).trans (four_far _ _ _ (by omega) _ _ _ _ _ _ _ _))).rd
                  · exact row_four (HZ2.out.below HBe5.out HZ2.out.lt) (by omega) _ _ _ _
                exact AllReadyH.nil
              exact AllReadyH.nil
            exact AllReadyH.nil
          exact AllReadyH.nil
        refine AllReadyH.cons rfl (fun K hK => ?_) ?_
        · go_simp
          go_at_call 64
          refine (HCb.out _ HBe2.out).mono ?_
          rintro e wz3 ⟨sB, cB, rfl, hown, hbx⟩
          simp only
          have HBe3 := hid (HBe2.out.trans (hbx.mono HBe2.out.size))
          have HSz3 := hid hbx.size
          have HOA3 := hid (HOA2.out.on hbx)
          have HN3 := hid (HN2.out.on hbx)
          have HOB3 := hid hown
          refine hK.out _ _ (HSx.out _ HBe3.out) (fun hHeld => ?_)
          clear hK K hown hbx HOA2 HN2
          (try simp only [Act.put, List.setIfInBounds_toArray, List.set_cons_zero, List.set_cons_succ])
          refine wpAnyH_ready (rs := [0]) (by kernel_rfl) (by simp) ?_
          refine AllReadyH.cons rfl (fun K hK => ?_) ?_
          · go_simp
            refine hK.out _ _ (HSx.out _ (HBe3.out.alloc HBe3.out.size _)) (fun hHeld => ?_)
            clear hK K
            (try simp only [Act.put, List.setIfInBounds_toArray, List.set_cons_zero, List.set_cons_succ])
            have hal := (Below.refl wz3.heap.size wz3).alloc (Nat.le_refl _) (.cells #[.string ⟨#[61, 61]⟩, .string ⟨#[60]⟩, .string ⟨#[60, 60]⟩] 9)
            have HBe4 := hid (HBe3.out.trans (hal.mono HBe3.out.size))
            have HSz4 := hid (show wz3.heap.size < (wz3.alloc (.cells #[.string ⟨#[61, 61]⟩, .string ⟨#[60]⟩, .string ⟨#[60, 60]⟩] 9)).heap.size by simp)
            have HOA4 := hid (HOA3.out.on hal)
            have HOB4 := hid (HOB3.out.on hal)
            have HN4 := hid (HN3.out.on hal)
            have kl4 := lit_cell wz3 q s HLit.out
            have hgl4 : wz3.heap.size < (wz3.alloc (.cells #[.string ⟨#[61, 61]⟩, .string ⟨#[60]⟩, .string ⟨#[60, 60]⟩] 9)).heap.size := by simp
            clear hal HOA3 HOB3 HN3
            generalize wz3.alloc (.cells #[.string ⟨#[61, 61]⟩, .string ⟨#[60]⟩, .string ⟨#[60, 60]⟩] 9) = wz4 at HBe4 HOA4 HOB4 kl4 hgl4 HN4 HSz4 hHeld ⊢
            refine wpAnyH_take (i := 3) (v := _) rfl (by kernel_rfl) (by kernel_rfl) (by kernel_rfl) (fun _ _ _ h => h) (Or.inl ⟨by rfl, by (intro w hSw; go_simp; first | done | with_reducible rfl)⟩) hHeld ?_
            (try simp only [Act.put, List.setIfInBounds_toArray, List.set_cons_zero, List.set_cons_succ])
            refine wpAnyH_ready (rs := [4]) (by kernel_rfl) (by simp) ?_
            refine AllReadyH.cons rfl (fun K hK => ?_) ?_
            · go_simp
              refine hK.out _ _ hHeld (fun _ => ?_)
              clear hK K kl4 hgl4
              (try simp only [Act.put, List.setIfInBounds_toArray, List.set_cons_zero, List.set_cons_succ])
              refine wpAnyH_ready (rs := [9]) (by kernel_rfl) (by simp) ?_
              refine AllReadyH.cons rfl (fun K hK => ?_) ?_
              · go_simp
                go_at_call 63
                refine (bin_v HP.out HQ.out _ _ _ _).mono ?_
                rintro e wz5 ⟨sC, cC, rfl, hown, hbx⟩
                simp only
                have HBe5 := hid (HBe4.out.trans (hbx.mono HBe4.out.size))
                have HSz5 := hid hbx.size
                have HOA5 := hid (HOA4.out.on hbx)
                have HOB5 := hid (HOB4.out.on hbx)
                have HN5 := hid (HN4.out.on hbx)
                have HC5 := hid hown
                have HCl := hid (fun r hr => hown.lt r hr)
                refine hK.out _ _ (HSx.out _ HBe5.out) (fun hHeld => ?_)
                clear hK K hown hbx HOA4 HOB4 HN4
                (try simp only [Act.put, List.setIfInBounds_toArray, List.set_cons_zero, List.set_cons_succ])
                refine wpAnyH_ready (rs := [11]) (by kernel_rfl) (by simp) ?_
                refine AllReadyH.cons rfl (fun K hK => ?_) ?_
                · have n0 := HN5.out.cell 0
                  have n1 := HN5.out.cell 1
                  have n2 := HN5.out.cell 2
                  have n3 := HN5.out.cell 3
                  simp at n0 n1 n2 n3
                  have hnf := HN5.out.free
                  have hnl := HN5.out.lt
                  go_simp
                  have hgn := HBe0.out.size
                  refine hK.out _ _ (HSx.out _ (four_bel HBe5.out hgn _ _ _ _)) (fun hHeld => ?_)
                  clear hK K
                  (try simp only [Act.put, List.setIfInBounds_toArray, List.set_cons_zero, List.set_cons_succ])
                  refine wpAnyH_done (by kernel_rfl) ?_ _
                  clear n0 n1 n2 n3 hnf hHeld hwq
                  go_wp2_with fail
                  go_meet
                  have hs0 := HBe0.out.size
                  have hs1 := HSz1.out
                  have hs2 := HSz2.out
                  have hs3 := HSz3.out
                  have hs4 := HSz4.out
                  have hs5 := HSz5.out
                  refine ⟨wz0.heap.size, sC, cC, rfl, by omega, four_row HN5.out _ _ _ _, ?_, ?_, four_bel (HB2.out.trans (HBe5.out.mono HB2.out.size)) (by omega) _ _ _ _⟩
                  · exact fun w' hz' hk' => made_bin (own_same HC5.out (fun r hr => (hk' r (by have := HCl.out r hr; omega) (by rw [four_size]; exact (HC5.out.lt r hr).2) (by have := HCl.out r hr; omega) (by have := HCl.out r hr; omega)).trans (four_far _ _ _ (by have := HCl.out r hr; omega) _ _ _ _ _ _ _ _))) (HOA5.out.keep (fun b h1 h2 h3 => (hk' b (by omega) (by rw [four_size]; exact h3) (by omega) (by omega)).trans (four_far _ _ _ (by omega) _ _ _ _ _ _ _ _))).rd (HOB5.out.keep (fun b h1 h2 h3 => (hk' b (by omega) (by rw [four_size]; exact h3) (by omega) (by omega)).trans (four_far _ _ _ (by omega) _ _ _ _ _ _ _ _))).rd
                  · exact row_four (HZ2.out.below HBe5.out HZ2.out.lt) (by omega) _ _ _ _
                exact AllReadyH.nil
              exact AllReadyH.nil
            exact AllReadyH.nil
          exact AllReadyH.nil
        exact AllReadyH.nil
      exact AllReadyH.nil
    exact AllReadyH.nil
  case rest =>
    obtain ⟨g, sv, cv, rfl, hgw, hrg, hst, hrz, hbel⟩ := hcut
    generalize wc = w3 at hrg hst hrz hbel ⊢
    have HG := hid hrg
    have HSt := hid hst
    have HZ3 := hid hrz
    have HB3 := hid hbel
    have hgl := hrg.lt
    have hzl := hrz.lt
    have HCa2 := hid (cond_at hq3 (a := a) (b := b))
    rw [HS.out] at HCa2
    have HSs := hid (cond_size q)
    rw [HS.out] at HSs
    clear hrg hst hrz hbel
    have n0 := HG.out.cell 0
    have n1 := HG.out.cell 1
    have n2 := HG.out.cell 2
    have n3 := HG.out.cell 3
    simp at n0 n1 n2 n3
    have hgf := HG.out.free
    have HP3 := hid (show Pt (binT a s b) 2 0 s 2 from ⟨rfl, rfl, rfl, rfl⟩)
    have HK3 := hid (HSt.out w3 (Nat.le_refl _) (fun k _ _ _ _ => rfl))
    have HW3 := hid (show (binT a s b).wide ≤ 10000 by have := ok_wide HOa.out; have := ok_wide HOb.out; have := HSs.out; rw [binT_wide]; omega)
    have hr01 : r = 0 ∨ r = 1 := by omega
    rcases hr01 with rfl | rfl
    · have HE := hid (show condT c a b = some (binT a s b) by rw [HCq.out]; simpa using HCa2.out.1)
      have hOk : condOk c a b = termOk (binT a s b) := by unfold condOk; rw [HE.out]
      have hR : condR c a b = if termOk (binT a s b) then binT a s b else tz := by unfold condR; rw [HE.out]
      cases hto : termOk (binT a s b)
      · have HTo := hid hto
        have HNo := hid (hOk.trans hto)
        clear hto hOk hR
        go_wp2_with fail
        refine (validTerm_v HP3.out HK3.out (by have := HW3.out; omega) HTo.out).mono ?_
        rintro e w4 ⟨rfl, hb4⟩
        have HB4 := hid (HB3.out.trans (hb4.mono HB3.out.size))
        have HZ4 := hid (HZ3.out.on hb4)
        clear hb4 n0 n1 n2 n3 hgf
        have r0 := HZ4.out.cell 0
        have r1 := HZ4.out.cell 1
        have r2 := HZ4.out.cell 2
        have r3 := HZ4.out.cell 3
        simp at r0 r1 r2 r3
        have hfr := HZ4.out.free
        go_wp2_with fail
        clear r0 r1 r2 r3 hfr
        refine bodyPost_ret (v := .tuple #[.agg #[.int .i64 0, .int .i64 0, .string ⟨#[]⟩, .slice none 0 0], .bool false]) ?_ rfl ?_
        · exact results_cell_tmp Tryd.results25 _ _ (w.heap.size + 1 + 1) _ _ rfl (four_row HZ4.out (.int .i64 0) (.int .i64 0) (.string ⟨#[]⟩) (.slice none 0 0)) Tryd.underlying25 size_term
        · exact csPost_no HNo.out (four_bel HB4.out (show w.heap.size ≤ w.heap.size + 1 + 1 by omega) _ _ _ _)
      · have HTo := hid hto
        rw [hto] at hR
        have HOk := hid (hOk.trans hto)
        have HR := hid (show condR c a b = binT a s b from hR)
        clear hto hOk hR
        go_wp2_with fail
        refine (validTerm_v HP3.out HK3.out (by have := HW3.out; omega) HTo.out).mono ?_
        rintro e w4 ⟨rfl, hb4⟩
        have HB4 := hid (HB3.out.trans (hb4.mono HB3.out.size))
        have HZ4 := hid (HZ3.out.on hb4)
        have HG4 := hid (HG.out.on hb4)
        have HBl := hid hb4
        have hzl4 := HZ4.out.lt
        have hgl4 := HG4.out.lt
        clear hb4 n0 n1 n2 n3 hgf
        have n0 := HG4.out.cell 0
        have n1 := HG4.out.cell 1
        have n2 := HG4.out.cell 2
        have n3 := HG4.out.cell 3
        have r0 := HZ4.out.cell 0
        have r1 := HZ4.out.cell 1
        have r2 := HZ4.out.cell 2
        have r3 := HZ4.out.cell 3
        simp at n0 n1 n2 n3 r0 r1 r2 r3
        have hfr := HZ4.out.free
        go_wp2_with fail
        clear n0 n1 n2 n3 r0 r1 r2 r3 hfr
        refine bodyPost_ret (v := .tuple #[.agg #[.int .i64 2, .int .i64 0, .string s, .slice sv 2 cv], .bool true]) ?_ rfl ?_
        · exact results_cell_tmp Tryd.results25 _ _ (w.heap.size + 1 + 1) _ _ rfl (four_row HZ4.out (.int .i64 2) (.int .i64 0) (.string s) (.slice sv 2 cv)) Tryd.underlying25 size_term
        · refine ⟨.slice sv 2 cv, by rw [HR.out, HOk.out]; rfl, ?_, four_bel HB4.out (show w.heap.size ≤ w.heap.size + 1 + 1 by omega) _ _ _ _⟩
          rw [HR.out]
          intro x hxz hxk
          rw [four_size] at hxz
          refine KRd.mono (n := n + 1) (HSt.out x (Nat.le_trans HBl.out.size hxz) (fun k h0 h1 h2 h3 => ?_)) (by omega)
          rw [hxk k h0 (by rw [four_size]; exact Nat.lt_of_lt_of_le h1 HBl.out.size), four_far _ _ _ h3]
          exact HBl.out.block k h1
    · have HE := hid (show condT c a b = some (notT (binT a s b)) by rw [HCq.out]; simpa using HCa2.out.2)
      have hOk : condOk c a b = termOk (notT (binT a s b)) := by unfold condOk; rw [HE.out]
      have hR : condR c a b = if termOk (notT (binT a s b)) then notT (binT a s b) else tz := by unfold condR; rw [HE.out]
      have HOk0 := hid hOk
      have HR0 := hid hR
      clear hOk hR
      go_wp2_with fail
      refine (not_v HP3.out _ _).mono ?_
      rintro e w4 ⟨s4, c4, rfl, hrow4, hb4⟩
      have HRow4 := hid hrow4
      have HB4 := hid (HB3.out.trans (hb4.mono HB3.out.size))
      have HZ4 := hid (HZ3.out.on hb4)
      have HG4 := hid (HG.out.on hb4)
      have HBl := hid hb4
      have hzl4 := HZ4.out.lt
      have hgl4 := HG4.out.lt
      clear hb4 hrow4 n0 n1 n2 n3 hgf
      have n0 := HG4.out.cell 0
      have n1 := HG4.out.cell 1
      have n2 := HG4.out.cell 2
      have n3 := HG4.out.cell 3
      simp at n0 n1 n2 n3
      have hgf := HG4.out.free
      have HG5 := hid (four_row HG4.out (.int .i64 3) (.int .i64 0) (.string ⟨#[]⟩) (.slice s4 1 c4))
      have HZ5 := hid (row_four HZ4.out (show w.heap.size + 1 + 1 ≠ g by omega) (.int .i64 3) (.int .i64 0) (.string ⟨#[]⟩) (.slice s4 1 c4))
      have HB5 := hid (four_bel HB4.out (show w.heap.size ≤ g by omega) (.int .i64 3) (.int .i64 0) (.string ⟨#[]⟩) (.slice s4 1 c4))
      have HRow5 := hid (own_four HRow4.out (show g < w3.heap.size by omega) (.int .i64 3) (.int .i64 0) (.string ⟨#[]⟩) (.slice s4 1 c4))
      have HF5 := hid (fun (k : Nat) (h1 : k < w3.heap.size) (h2 : k ≠ g) => (four_far w4 g k h2 (.int .i64 3) (.int .i64 0) (.string ⟨#[]⟩) (.slice s4 1 c4) 0 1 2 3).trans (HBl.out.block k h1))
      have HZs := hid (show w3.heap.size ≤ ((((w4.setCell ⟨g, 0, none⟩ (.int .i64 3)).setCell ⟨g, 1, none⟩ (.int .i64 0)).setCell ⟨g, 2, none⟩ (.string ⟨#[]⟩)).setCell ⟨g, 3, none⟩ (.slice s4 1 c4)).heap.size by rw [four_size]; exact HBl.out.size)
      go_upto_region 6 with fail
      clear n0 n1 n2 n3 hgf
      generalize ((((w4.setCell ⟨g, 0, none⟩ (.int .i64 3)).setCell ⟨g, 1, none⟩ (.int .i64 0)).setCell ⟨g, 2, none⟩ (.string ⟨#[]⟩)).setCell ⟨g, 3, none⟩ (.slice s4 1 c4)) = w5 at HG5 HZ5 HB5 HRow5 HF5 HZs ⊢
      have HK5 := hid (made_not HRow5.out (HSt.out w5 HZs.out (fun k _ h1 h2 _ => HF5.out k h1 h2)))
      have HP5 := hid (show Pt (notT (binT a s b)) 3 0 ⟨#[]⟩ 1 from ⟨rfl, rfl, rfl, rfl⟩)
      have HW5 := hid (show (notT (binT a s b)).wide ≤ 1048576 by have := HW3.out; rw [notT_wide]; omega)
      have n0 := HG5.out.cell 0
      have n1 := HG5.out.cell 1
      have n2 := HG5.out.cell 2
      have n3 := HG5.out.cell 3
      simp at n0 n1 n2 n3
      have hgl5 := HG5.out.lt
      have hzl5 := HZ5.out.lt
      cases hto : termOk (notT (binT a s b))
      · have HTo := hid hto
        clear hto
        go_wp2_with fail
        refine (validTerm_v HP5.out HK5.out HW5.out HTo.out).mono ?_
        rintro e w6 ⟨rfl, hb6⟩
        have HB6 := hid (HB5.out.trans (hb6.mono HB5.out.size))
        have HZ6 := hid (HZ5.out.on hb6)
        clear hb6 n0 n1 n2 n3
        have r0 := HZ6.out.cell 0
        have r1 := HZ6.out.cell 1
        have r2 := HZ6.out.cell 2
        have r3 := HZ6.out.cell 3
        simp at r0 r1 r2 r3
        have hfr := HZ6.out.free
        go_wp2_with fail
        clear r0 r1 r2 r3 hfr
        refine bodyPost_ret (v := .tuple #[.agg #[.int .i64 0, .int .i64 0, .string ⟨#[]⟩, .slice none 0 0], .bool false]) ?_ rfl ?_
        · exact results_cell_tmp Tryd.results25 _ _ (w.heap.size + 1 + 1) _ _ rfl (four_row HZ6.out (.int .i64 0) (.int .i64 0) (.string ⟨#[]⟩) (.slice none 0 0)) Tryd.underlying25 size_term
        · exact csPost_no (by rw [HOk0.out, HTo.out]) (four_bel HB6.out (show w.heap.size ≤ w.heap.size + 1 + 1 by omega) _ _ _ _)
      · have HTo := hid hto
        clear hto
        go_wp2_with fail
        refine (validTerm_v HP5.out HK5.out HW5.out HTo.out).mono ?_
        rintro e w6 ⟨rfl, hb6⟩
        have HB6 := hid (HB5.out.trans (hb6.mono HB5.out.size))
        have HZ6 := hid (HZ5.out.on hb6)
        have HG6 := hid (HG5.out.on hb6)
        have HRow6 := hid (own_on HRow5.out hb6)
        have HBl6 := hid hb6
        have hzl6 := HZ6.out.lt
        have hgl6 := HG6.out.lt
        clear hb6 n0 n1 n2 n3
        have n0 := HG6.out.cell 0
        have n1 := HG6.out.cell 1
        have n2 := HG6.out.cell 2
        have n3 := HG6.out.cell 3
        have r0 := HZ6.out.cell 0
        have r1 := HZ6.out.cell 1
        have r2 := HZ6.out.cell 2
        have r3 := HZ6.out.cell 3
        simp at n0 n1 n2 n3 r0 r1 r2 r3
        have hfr := HZ6.out.free
        go_wp2_with fail
        clear n0 n1 n2 n3 r0 r1 r2 r3 hfr
        refine bodyPost_ret (v := .tuple #[.agg #[.int .i64 3, .int .i64 0, .string ⟨#[]⟩, .slice s4 1 c4], .bool true]) ?_ rfl ?_
        · exact results_cell_tmp Tryd.results25 _ _ (w.heap.size + 1 + 1) _ _ rfl (four_row HZ6.out (.int .i64 3) (.int .i64 0) (.string ⟨#[]⟩) (.slice s4 1 c4)) Tryd.underlying25 size_term
        · have hR : condR c a b = notT (binT a s b) := by rw [HR0.out, HTo.out]; rfl
          have hO : condOk c a b = true := by rw [HOk0.out, HTo.out]
          refine ⟨.slice s4 1 c4, by rw [hR, hO]; rfl, ?_, four_bel HB6.out (show w.heap.size ≤ w.heap.size + 1 + 1 by omega) _ _ _ _⟩
          rw [hR]
          intro x hxz hxk
          rw [four_size] at hxz
          have hzs := HZs.out
          have hz6 := HBl6.out.size
          refine made_not (own_same HRow6.out (fun r hr => ?_)) (HSt.out x (by omega) (fun k h0 h1 h2 h3 => ?_))
          · have hlt := HRow6.out.lt r hr
            have hb3 := HB3.out.size
            rw [hxk r (by omega) (by rw [four_size]; exact hlt.2), four_far _ _ _ (by omega)]
          · rw [hxk k h0 (by rw [four_size]; omega), four_far _ _ _ h3]
            exact (HBl6.out.block k (by omega)).trans (HF5.out k h1 h2)
end Go.Proofs.YtgenojpdjplccaaDoor.Um
