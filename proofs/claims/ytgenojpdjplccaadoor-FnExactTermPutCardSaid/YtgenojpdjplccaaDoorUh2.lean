/- The laws' own helpers over terms: toTerm, eqTerm. -/
import Derived.Test.YtgenojpdjplccaaDoorUh
set_option linter.unusedSimpArgs false
set_option linter.unusedVariables false
namespace Go.Proofs.YtgenojpdjplccaaDoor.Um
open Go.RowKit Pl Ft Mm In C2 Im

theorem KOwn.empty {w : World} {n lo hi : Nat} {v : Value} (hle : lo ≤ hi) (h : w.ownsRow lo 25 4 v 0 []) (hr : ∀ r, v.ownBlock = some r → r < hi) : KOwn w n lo hi v [] := by
  cases n with
  | zero => exact ⟨rfl, hle, h, hr⟩
  | succ n => exact ⟨[], fun _ => 0, fun _ => 0, rfl, hle, h, fun r he => ⟨hr r he, fun j hj => by simp at hj⟩, fun j hj => by simp at hj⟩
theorem getD_snoc {us : List Value} {u : Value} {i k : Nat} (h : us.length = k) : (us ++ [u]).getD i vz = if i < k then us.getD i vz else if i = k then u else vz := by
  subst h
  rw [List.getD_eq_getElem?_getD, List.getElem?_append]
  by_cases h1 : i < us.length
  · rw [if_pos h1, if_pos h1, List.getD_eq_getElem?_getD]
  · rw [if_neg h1, if_neg h1]
    by_cases h2 : i = us.length
    · subst h2; simp
    · rw [if_neg h2, List.getElem?_eq_none (by simp; omega)]
      rfl
theorem set_four (L Z : List Value) (p : Nat) (hp : p = L.length) (hz : p + 3 < Z.length) (a b c d : Value) :
    ((((L ++ Z.drop p).set p a).set (p + 1) b).set (p + 2) c).set (p + 3) d = (L ++ [a, b, c, d]) ++ Z.drop (p + 4) := by
  have e0 : Z.drop p = Z[p] :: Z[p + 1] :: Z[p + 2] :: Z[p + 3] :: Z.drop (p + 4) := by
    rw [List.drop_eq_getElem_cons (by omega : p < Z.length), List.drop_eq_getElem_cons (by omega : p + 1 < Z.length), List.drop_eq_getElem_cons (by omega : p + 1 + 1 < Z.length), List.drop_eq_getElem_cons (by omega : p + 1 + 1 + 1 < Z.length)]
  rw [e0]
  subst hp
  have h1 : L.length + 1 - L.length = 1 := by omega
  have h2 : L.length + 2 - L.length = 2 := by omega
  have h3 : L.length + 3 - L.length = 3 := by omega
  rw [List.set_append_right _ _ (by omega), Nat.sub_self, List.set_append_right _ _ (by omega), h1, List.set_append_right _ _ (by omega), h2, List.set_append_right _ _ (by omega), h3, List.append_assoc]
  rfl
theorem row_step (ks : List Tm) (Z us : List Value) (k : Nat) (hk : k < ks.length) (hu : us.length = k) (hz : Z.length = ks.length * 4) (u : Value) :
    ((((tCells (ks.take k) us ++ Z.drop (k * 4)).set (k * 4) (.int .i64 (ks.getD k tz).kind)).set (k * 4 + 1) (.int .i64 (ks.getD k tz).num)).set (k * 4 + 2) (.string (ks.getD k tz).text)).set (k * 4 + 3) u = tCells (ks.take (k + 1)) (us ++ [u]) ++ Z.drop ((k + 1) * 4) := by
  have hl : (tCells (ks.take k) us).length = k * 4 := by rw [tCells_len, List.length_take]; omega
  rw [set_four _ Z (k * 4) hl.symm (by omega), take_snoc ks k hk, tCells_snoc _ _ _ _ (by rw [hu, List.length_take]; omega), show (k + 1) * 4 = k * 4 + 4 by omega]
  rfl
theorem info_term : (Tryd.prog.info? 25).map (fun i => (i.zero, i.size, i.bytes)) = some (some (.agg #[.int .i64 0, .int .i64 0, .string ⟨#[]⟩, .slice none 0 0]), 4, 56) := by kernel_rfl
theorem size_term : (Tryd.prog.info? 25).map (·.size) = some 4 := by kernel_rfl
theorem four_row {w : World} {g : Nat} {t : TypeId} {x0 x1 x2 x3 : Value} (h : Row w g t #[x0, x1, x2, x3]) (y0 y1 y2 y3 : Value) :
    Row ((((w.setCell ⟨g, 0, none⟩ y0).setCell ⟨g, 1, none⟩ y1).setCell ⟨g, 2, none⟩ y2).setCell ⟨g, 3, none⟩ y3) g t #[y0, y1, y2, y3] := (((h.set 0 _).set 1 _).set 2 _).set 3 _
theorem four_bel {B : Nat} {w w' : World} {g : Nat} (h : Below B w w') (hg : B ≤ g) (y0 y1 y2 y3 : Value) : Below B w ((((w'.setCell ⟨g, 0, none⟩ y0).setCell ⟨g, 1, none⟩ y1).setCell ⟨g, 2, none⟩ y2).setCell ⟨g, 3, none⟩ y3) := by
  have h0 := h.setCell (p := ⟨g, 0, none⟩) hg y0
  have h1 := h0.setCell (p := ⟨g, 1, none⟩) hg y1
  have h2 := h1.setCell (p := ⟨g, 2, none⟩) hg y2
  exact h2.setCell (p := ⟨g, 3, none⟩) hg y3
theorem four_size (w : World) (g : Nat) (y0 y1 y2 y3 : Value) (p0 p1 p2 p3 : Nat) : ((((w.setCell ⟨g, p0, none⟩ y0).setCell ⟨g, p1, none⟩ y1).setCell ⟨g, p2, none⟩ y2).setCell ⟨g, p3, none⟩ y3).heap.size = w.heap.size := by simp [World.size_setCell]
theorem four_far (w : World) (g b : Nat) (hb : b ≠ g) (y0 y1 y2 y3 : Value) (p0 p1 p2 p3 : Nat) : ((((w.setCell ⟨g, p0, none⟩ y0).setCell ⟨g, p1, none⟩ y1).setCell ⟨g, p2, none⟩ y2).setCell ⟨g, p3, none⟩ y3).heap[b]? = w.heap[b]? := by
  rw [Below.heap_setCell _ _ _ _ (by simpa using hb), Below.heap_setCell _ _ _ _ (by simpa using hb), Below.heap_setCell _ _ _ _ (by simpa using hb), Below.heap_setCell _ _ _ _ (by simpa using hb)]
/-- What a copy is: a row of its own, in new blocks. -/
def CpPost (n : Nat) (ks : List Tm) (w : World) (e : Ending) (w' : World) : Prop := ∃ v', e = .returned v' ∧ KOwn w' n w.heap.size w'.heap.size v' ks ∧ Below w.heap.size w w'
def CpPost1 (n : Nat) (t : Tm) (w : World) (e : Ending) (w' : World) : Prop := ∃ v', e = .returned (tmVal t v') ∧ KOwn w' n w.heap.size w'.heap.size v' t.kids ∧ Below w.heap.size w w'
set_option maxHeartbeats 1000000 in
theorem toTerm_of (n : Nat) (ih : ∀ (ks : List Tm) (v : Value) (w : World), KRd w n v ks → ks.length + wides ks ≤ 1048576 → Calls Tryd.prog 70 #[v] w (CpPost n ks w))
    (t : Tm) (kv : Value) (w : World) (hr : KRd w n kv t.kids) (hw : t.wide ≤ 1048576) : Calls Tryd.prog 30 #[tmVal t kv] w (CpPost1 n t w) := by
  have hW := wide_eq t
  obtain ⟨a, cap, rfl⟩ := hr.slice
  have HR := hid hr
  clear hr
  unfold CpPost1
  obtain ⟨k, m, s, ks⟩ := t
  unfold tmVal
  simp only [Tm.kind, Tm.num, Tm.text, Tm.kids] at *
  have ha1 := (Below.refl w.heap.size w).alloc (Nat.le_refl _) (.cells #[.int .i64 k, .int .i64 m, .string s, .slice a ks.length cap] 54)
  have ha2 := ha1.alloc ha1.size (.cells #[.int .i64 0, .int .i64 0, .string ⟨#[]⟩, .slice none 0 0] 25)
  have HB0 := hid (ha2.alloc ha2.size (.cells #[.int .i64 k, .int .i64 m, .string s, .slice none 0 0] 25))
  have HX0 := hid (((Row.new w 54 #[.int .i64 k, .int .i64 m, .string s, .slice a ks.length cap]).alloc (.cells #[.int .i64 0, .int .i64 0, .string ⟨#[]⟩, .slice none 0 0] 25)).alloc (.cells #[.int .i64 k, .int .i64 m, .string s, .slice none 0 0] 25))
  have HR0 := hid ((Row.new (w.alloc (.cells #[.int .i64 k, .int .i64 m, .string s, .slice a ks.length cap] 54)) 25 #[.int .i64 0, .int .i64 0, .string ⟨#[]⟩, .slice none 0 0]).alloc (.cells #[.int .i64 k, .int .i64 m, .string s, .slice none 0 0] 25))
  have HO0 := hid (Row.new ((w.alloc (.cells #[.int .i64 k, .int .i64 m, .string s, .slice a ks.length cap] 54)).alloc (.cells #[.int .i64 0, .int .i64 0, .string ⟨#[]⟩, .slice none 0 0] 25)) 25 #[.int .i64 k, .int .i64 m, .string s, .slice none 0 0])
  simp only [World.size_alloc] at HR0 HO0
  clear ha1 ha2
  go_enter Tryd.func30, Tryd.ntmps30
  go_wp2_with fail
  refine (ih ks _ _ (HR.out.on HB0.out) (by omega)).mono ?_
  rintro e w1 ⟨v1, rfl, hown1, hb1⟩
  obtain ⟨s1, c1, rfl⟩ := hown1.slice
  have HOwn1 := hid hown1
  simp only [World.size_alloc] at HOwn1
  have HR1 := hid (HR0.out.on hb1)
  have HO1 := hid (HO0.out.on hb1)
  have HB1 := hid (HB0.out.trans (hb1.mono HB0.out.size))
  have hz1 := hb1.size
  simp only [World.size_alloc] at hz1
  clear hown1 hb1
  have o0 := HO1.out.cell 0
  have o1 := HO1.out.cell 1
  have o2 := HO1.out.cell 2
  have o3 := HO1.out.cell 3
  have r0 := HR1.out.cell 0
  have r1 := HR1.out.cell 1
  have r2 := HR1.out.cell 2
  have r3 := HR1.out.cell 3
  simp at o0 o1 o2 o3 r0 r1 r2 r3
  have hfo := HO1.out.free
  have hfr := HR1.out.free
  go_wp2_with fail
  clear o0 o1 o2 o3 r0 r1 r2 r3 hfo hfr
  have hr5 := HR1.out.far (p := ⟨w.heap.size + 1 + 1, 3, none⟩) (by first | (simp; done) | (simp; omega)) (.slice s1 ks.length c1)
  have HB6 := hid (HB1.out.setCell (p := ⟨w.heap.size + 1 + 1, 3, none⟩) (by first | (simp; done) | (simp; omega)) (.slice s1 ks.length c1))
  have HR6 := hid (four_row hr5 (.int .i64 k) (.int .i64 m) (.string s) (.slice s1 ks.length c1))
  refine bodyPost_ret (v := .agg #[.int .i64 k, .int .i64 m, .string s, .slice s1 ks.length c1])
    (results_cell_row Tryd.results30 _ _ (w.heap.size + 1) 25 #[.int .i64 k, .int .i64 m, .string s, .slice s1 ks.length c1] (0, 0) _ rfl HR6.out Tryd.underlying25 rfl size_term) rfl ?_
  refine ⟨_, rfl, ?_, four_bel HB6.out (by omega) _ _ _ _⟩
  rw [four_size, World.size_setCell]
  refine (HOwn1.out.keep (fun b h1 h2 h3 => ?_)).widen (by omega) (Nat.le_refl _)
  rw [four_far _ _ _ (by omega), Below.heap_setCell _ _ _ _ (by simp; omega)]
/-- How the copy stands after k terms. -/
structure TcRel (w : World) (n : Nat) (ks : List Tm) (Z : List Value) (k : Nat) (us : List Value) (f g : Nat → Nat) (wr : World) : Prop where
  len : us.length = k
  row : wr.ownsRow w.heap.size 25 4 (.slice (some ⟨w.heap.size, 0, none⟩) ks.length ks.length) ks.length (tCells (ks.take k) us ++ Z.drop (k * 4))
  kids : ∀ j, j < k → w.heap.size < f j ∧ g j ≤ wr.heap.size ∧ (∀ i, i < j → g i ≤ f j) ∧ ∀ m, n = m + 1 → KOwn wr m (f j) (g j) (us.getD j vz) (ks.getD j tz).kids
  bel : Below w.heap.size w wr
set_option maxHeartbeats 2000000 in
theorem toTermS_c (n : Nat) : ∀ (ks : List Tm) (v : Value) (w : World), KRd w n v ks → ks.length + wides ks ≤ 1048576 → Calls Tryd.prog 70 #[v] w (CpPost n ks w) := by
  induction n using Nat.strongRecOn with
  | _ n ih =>
  intro ks v w hr hw
  obtain ⟨a, cap, rfl⟩ := hr.slice
  have HR := hid hr
  have HI := hid ih
  clear hr ih
  unfold CpPost
  obtain ⟨i0, hi, hz0, hz1, hz2⟩ := info_parts info_term
  have H0 := hid hz0
  have H1 := hid hz1
  have H2 := hid hz2
  have HI0 := hid hi
  clear hz0 hz1 hz2 hi
  go_enter Tryd.func70, Tryd.ntmps70
  go_wp2_with (refine wpList_make_full _ rfl _ _ 23 rfl w.heap.size 25 i0 (.agg #[.int .i64 0, .int .i64 0, .string ⟨#[]⟩, .slice none 0 0]) 4 Tryd.underlying23 HI0.out H0.out H1.out .i64 .i64 _ _ ks.length rfl rfl rfl rfl (by rw [H2.out]; omega) (by simp only [maxLen]; omega) (Nat.le_refl _) ?_; intro w1 hown1 hg1)
  obtain ⟨Z, hZ⟩ : ∃ Z, (madeCells (Value.cells (.agg #[.int .i64 0, .int .i64 0, .string ⟨#[]⟩, .slice none 0 0])) (ks.length * 4)).toList = Z := ⟨_, rfl⟩
  rw [hZ] at hown1
  have HZ := hid hown1.1
  have HO := hid hown1
  have HB1 := hid ((Below.refl w.heap.size w).grown hg1 (Nat.le_refl _) (by simp))
  clear hown1 hg1 hZ
  go_loopw [4] (fun c wr => ∃ (k : Nat) (us : List Value) (f g : Nat → Nat), c = .int .i64 k ∧ k ≤ ks.length ∧ TcRel w n ks Z k us f g wr) (fun c _ => ks.length - (intOf c).toNat)
  case atStart => exact ⟨0, [], fun _ => 0, fun _ => 0, rfl, by omega, ⟨rfl, by simpa [tCells] using HO.out, fun j hj => by omega, HB1.out⟩⟩
  case round =>
    obtain ⟨k, us, f, g, rfl, hk, hrel⟩ := hrel
    have HRel := hid hrel
    have hbel := hrel.bel
    have hz := hbel.size
    clear hrel
    by_cases hlt : k < ks.length
    · obtain ⟨m, b, o, cap', rfl, hv, hg, hc⟩ := HR.out.cells (by omega)
      simp only [Value.slice.injEq, true_and] at hv
      obtain ⟨rfl, rfl⟩ := hv
      obtain ⟨u, c0, c1, c2, c3, hru⟩ := hc k hlt
      have q0 := (hbel.cell (p := ⟨b, o + k * 4, none⟩) hg).trans c0
      have q1 := (hbel.cell (p := ⟨b, o + k * 4 + 1, none⟩) hg).trans c1
      have q2 := (hbel.cell (p := ⟨b, o + k * 4 + 2, none⟩) hg).trans c2
      have q3 := (hbel.cell (p := ⟨b, o + k * 4 + 3, none⟩) hg).trans c3
      have HStep := hid (row_step ks Z us k hlt HRel.out.len HZ.out)
      have hwk := wides_at ks k hlt
      obtain ⟨t, ht⟩ : ∃ t, ks.getD k tz = t := ⟨_, rfl⟩
      rw [ht] at q0 q1 q2 hru hwk HStep
      have HT := hid ht
      have HRu := hid (hru.on hbel)
      clear hc c0 c1 c2 c3 hru ht
      obtain ⟨x0, hx0⟩ : ∃ x, t.kind = x := ⟨_, rfl⟩
      obtain ⟨x1, hx1⟩ : ∃ x, t.num = x := ⟨_, rfl⟩
      obtain ⟨x2, hx2⟩ : ∃ x, t.text = x := ⟨_, rfl⟩
      have HV := hid (show ∀ u, tmVal t u = .agg #[.int .i64 x0, .int .i64 x1, .string x2, u] by intro u; rw [tmVal, hx0, hx1, hx2])
      rw [hx0] at q0 HStep
      rw [hx1] at q1 HStep
      rw [hx2] at q2 HStep
      clear hx0 hx1 hx2 hbel
      go_wp2_with fail
      rw [← HV.out]
      refine (toTerm_of m (HI.out m (by omega)) t u _ HRu.out (by omega)).mono ?_
      rintro e w2 ⟨v2, rfl, hown2, hb2⟩
      rw [HV.out]
      obtain ⟨s2, c2, rfl⟩ := hown2.slice
      have HO2 := hid hown2
      have HB2 := hid (HRel.out.bel.trans (hb2.mono hz))
      have HBw := hid hb2
      have hz2 := hb2.size
      have hrow := own_on HRel.out.row hb2
      have HRow := hid hrow
      have hlen : k * 4 + 3 < (tCells (ks.take k) us ++ Z.drop (k * 4)).length := by have := HZ.out; rw [List.length_append, tCells_len, List.length_take, List.length_drop]; omega
      have hc0 := hrow.cellAt (k * 4) (by omega)
      have hc1 := hrow.cellAt (k * 4 + 1) (by omega)
      have hc2 := hrow.cellAt (k * 4 + 2) (by omega)
      have hc3 := hrow.cellAt (k * 4 + 3) (by omega)
      rw [List.getElem?_eq_getElem (by omega)] at hc0 hc1 hc2
      rw [List.getElem?_eq_getElem hlen] at hc3
      have hf0 := hrow.frozenAt (k * 4)
      have hf1 := hrow.frozenAt (k * 4 + 1)
      have hf2 := hrow.frozenAt (k * 4 + 2)
      have hf3 := hrow.frozenAt (k * 4 + 3)
      have hst := ((((hrow.stored (k * 4) (.int .i64 x0)).1.stored (k * 4 + 1) (.int .i64 x1)).1.stored (k * 4 + 2) (.string x2)).1.stored (k * 4 + 3) (.slice s2 t.kids.length c2)).1
      rw [HStep.out] at hst
      have HS := hid hst
      have HB3 := hid ((((HB2.out.setCell (p := ⟨w.heap.size, k * 4, none⟩) (Nat.le_refl _) (.int .i64 x0)).setCell (p := ⟨w.heap.size, k * 4 + 1, none⟩) (Nat.le_refl _) (.int .i64 x1)).setCell (p := ⟨w.heap.size, k * 4 + 2, none⟩) (Nat.le_refl _) (.string x2)).setCell (p := ⟨w.heap.size, k * 4 + 3, none⟩) (Nat.le_refl _) (.slice s2 t.kids.length c2))
      obtain ⟨u0, hu0⟩ : ∃ u, (tCells (ks.take k) us ++ Z.drop (k * 4))[k * 4]'(by omega) = u := ⟨_, rfl⟩
      obtain ⟨u1, hu1⟩ : ∃ u, (tCells (ks.take k) us ++ Z.drop (k * 4))[k * 4 + 1]'(by omega) = u := ⟨_, rfl⟩
      obtain ⟨u2, hu2⟩ : ∃ u, (tCells (ks.take k) us ++ Z.drop (k * 4))[k * 4 + 2]'(by omega) = u := ⟨_, rfl⟩
      obtain ⟨u3, hu3⟩ : ∃ u, (tCells (ks.take k) us ++ Z.drop (k * 4))[k * 4 + 3]'hlen = u := ⟨_, rfl⟩
      rw [hu0] at hc0
      rw [hu1] at hc1
      rw [hu2] at hc2
      rw [hu3] at hc3
      have hlw : w.heap.size < wr.heap.size := (HRel.out.row.lt w.heap.size rfl).2
      clear hst hrow hlen hu0 hu1 hu2 hu3 q0 q1 q2 q3 hown2 hb2
      go_wp2_with fail
      go_roundw
      case rel =>
        have hfar : ∀ {m' lo hi : Nat} {v : Value} {l : List Tm}, KOwn w2 m' lo hi v l → w.heap.size < lo → KOwn ((((w2.setCell ⟨w.heap.size, k * 4, none⟩ (.int .i64 x0)).setCell ⟨w.heap.size, k * 4 + 1, none⟩ (.int .i64 x1)).setCell ⟨w.heap.size, k * 4 + 2, none⟩ (.string x2)).setCell ⟨w.heap.size, k * 4 + 3, none⟩ (.slice s2 t.kids.length c2)) m' lo hi v l := by
          intro m' lo hi v l h hlo
          exact h.keep (fun b h1 _ _ => four_far _ _ _ (by omega) _ _ _ _ _ _ _ _)
        refine ⟨k + 1, us ++ [.slice s2 t.kids.length c2], (fun j => if j = k then wr.heap.size else f j), (fun j => if j = k then w2.heap.size else g j), by go_num, by omega, ⟨by simp [HRel.out.len], HS.out, fun j hj => ?_, HB3.out⟩⟩
        rw [four_size]
        by_cases hjk : j = k
        · subst hjk
          simp only [if_true]
          refine ⟨hlw, Nat.le_refl _, fun i hi => ?_, fun m' hm => ?_⟩
          · rw [if_neg (by omega)]
            exact (HRel.out.kids i hi).2.1
          · obtain rfl : m = m' := by omega
            rw [getD_snoc HRel.out.len, if_neg (by omega), if_pos rfl, HT.out]
            exact hfar HO2.out hlw
        · simp only [if_neg hjk]
          obtain ⟨k1, k2, k3, k4⟩ := HRel.out.kids j (by omega)
          refine ⟨k1, by omega, fun i hi => ?_, fun m' hm => ?_⟩
          · rw [if_neg (by omega)]
            exact k3 i hi
          · rw [getD_snoc HRel.out.len, if_pos (by omega)]
            exact hfar ((k4 m' hm).on HBw.out) k1
      case measure => simp [intOf]; omega
    · obtain rfl : k = ks.length := by omega
      clear hbel
      go_wp2_with fail
      go_ret
      have hrow := HRel.out.row
      rw [List.drop_of_length_le (by rw [HZ.out]; exact Nat.le_refl _), List.append_nil, List.take_length] at hrow
      have hlw := (hrow.lt w.heap.size rfl).2
      refine ⟨_, rfl, ?_, HRel.out.bel⟩
      cases n with
      | zero =>
        obtain ⟨rfl, _⟩ := HR.out
        exact KOwn.empty (by omega) (by simpa [tCells] using hrow) (fun r hr => by simp [Value.ownBlock] at hr; omega)
      | succ m =>
        refine ⟨us, f, g, HRel.out.len, by omega, hrow, fun r hr => ?_, fun j hj => ?_⟩
        · obtain rfl : w.heap.size = r := by simpa [Value.ownBlock] using hr
          exact ⟨hlw, fun j hj => .inl (HRel.out.kids j hj).1⟩
        · obtain ⟨k1, k2, k3, k4⟩ := HRel.out.kids j hj
          exact ⟨by omega, k2, fun i hi => .inl (k3 i hi), k4 m rfl⟩
theorem toTerm_c (n : Nat) (t : Tm) (kv : Value) (w : World) (hr : KRd w n kv t.kids) (hw : t.wide ≤ 1048576) : Calls Tryd.prog 30 #[tmVal t kv] w (CpPost1 n t w) := toTerm_of n (toTermS_c n) t kv w hr hw
set_option maxHeartbeats 1000000 in
theorem eqTerm_of (n : Nat) (ih : ∀ (ks : List Tm) (va vb : Value) (w : World), KRd w n va ks → KRd w n vb ks → ks.length + wides ks ≤ 1048576 → Calls Tryd.prog 72 #[va, vb] w fun e w' => e = .returned (.bool true) ∧ Below w.heap.size w w')
    (t : Tm) (va vb : Value) (w : World) (ha : KRd w n va t.kids) (hb : KRd w n vb t.kids) (hw : t.wide ≤ 1048576) :
    Calls Tryd.prog 32 #[tmVal t va, tmVal t vb] w fun e w' => e = .returned (.bool true) ∧ Below w.heap.size w w' := by
  have hW := wide_eq t
  obtain ⟨a, ca, rfl⟩ := ha.slice
  obtain ⟨b, cb, rfl⟩ := hb.slice
  have HA := hid ha
  have HB := hid hb
  clear ha hb
  obtain ⟨k, m, s, ks⟩ := t
  unfold tmVal
  simp only [Tm.kind, Tm.num, Tm.text, Tm.kids] at *
  have ha1 := (Below.refl w.heap.size w).alloc (Nat.le_refl _) (.cells #[.int .i64 k, .int .i64 m, .string s, .slice a ks.length ca] 25)
  have HB0 := hid (ha1.alloc ha1.size (.cells #[.int .i64 k, .int .i64 m, .string s, .slice b ks.length cb] 25))
  clear ha1
  go_enter Tryd.func32, Tryd.ntmps32
  go_wp2_with fail
  refine (ih ks _ _ _ (HA.out.on HB0.out) (HB.out.on HB0.out) (by omega)).mono ?_
  rintro e w1 ⟨rfl, hb1⟩
  have HB1 := hid (HB0.out.trans (hb1.mono HB0.out.size))
  clear hb1
  go_wp2_with fail
  go_ret
  exact ⟨rfl, HB1.out⟩
set_option maxHeartbeats 2000000 in
theorem eqTermS_c (n : Nat) : ∀ (ks : List Tm) (va vb : Value) (w : World), KRd w n va ks → KRd w n vb ks → ks.length + wides ks ≤ 1048576 → Calls Tryd.prog 72 #[va, vb] w fun e w' => e = .returned (.bool true) ∧ Below w.heap.size w w' := by
  induction n using Nat.strongRecOn with
  | _ n ih =>
  intro ks va vb w ha hb hw
  obtain ⟨a, ca, rfl⟩ := ha.slice
  obtain ⟨b, cb, rfl⟩ := hb.slice
  have HA := hid ha
  have HB := hid hb
  have HI := hid ih
  clear ha hb ih
  go_enter Tryd.func72, Tryd.ntmps72
  go_wp2_with fail
  go_loopw [5] (fun c wr => ∃ k : Nat, c = .int .i64 k ∧ k ≤ ks.length ∧ Below w.heap.size w wr) (fun c _ => ks.length - (intOf c).toNat)
  case atStart => exact ⟨0, rfl, by omega, Below.refl _ _⟩
  case round =>
    obtain ⟨k, rfl, hk, hbel⟩ := hrel
    have HBe := hid hbel
    have hz := hbel.size
    clear hbel
    by_cases hlt : k < ks.length
    · obtain ⟨m, g1, o1, cap1, rfl, hv1, hg1, hc1⟩ := HA.out.cells (by omega)
      obtain ⟨m2, g2, o2, cap2, hm2, hv2, hg2, hc2⟩ := HB.out.cells (by omega)
      obtain rfl : m = m2 := by omega
      simp only [Value.slice.injEq, true_and] at hv1 hv2
      obtain ⟨rfl, rfl⟩ := hv1
      obtain ⟨rfl, rfl⟩ := hv2
      obtain ⟨u1, c0, c1, c2, c3, hru1⟩ := hc1 k hlt
      obtain ⟨u2, d0, d1, d2, d3, hru2⟩ := hc2 k hlt
      have q0 := (HBe.out.cell (p := ⟨g1, o1 + k * 4, none⟩) hg1).trans c0
      have q1 := (HBe.out.cell (p := ⟨g1, o1 + k * 4 + 1, none⟩) hg1).trans c1
      have q2 := (HBe.out.cell (p := ⟨g1, o1 + k * 4 + 2, none⟩) hg1).trans c2
      have q3 := (HBe.out.cell (p := ⟨g1, o1 + k * 4 + 3, none⟩) hg1).trans c3
      have r0 := (HBe.out.cell (p := ⟨g2, o2 + k * 4, none⟩) hg2).trans d0
      have r1 := (HBe.out.cell (p := ⟨g2, o2 + k * 4 + 1, none⟩) hg2).trans d1
      have r2 := (HBe.out.cell (p := ⟨g2, o2 + k * 4 + 2, none⟩) hg2).trans d2
      have r3 := (HBe.out.cell (p := ⟨g2, o2 + k * 4 + 3, none⟩) hg2).trans d3
      have hwk := wides_at ks k hlt
      obtain ⟨t, ht⟩ : ∃ t, ks.getD k tz = t := ⟨_, rfl⟩
      rw [ht] at q0 q1 q2 r0 r1 r2 hru1 hru2 hwk
      have HR1 := hid (hru1.on HBe.out)
      have HR2 := hid (hru2.on HBe.out)
      clear hc1 hc2 c0 c1 c2 c3 d0 d1 d2 d3 hru1 hru2 ht hm2
      obtain ⟨x0, hx0⟩ : ∃ x, t.kind = x := ⟨_, rfl⟩
      obtain ⟨x1, hx1⟩ : ∃ x, t.num = x := ⟨_, rfl⟩
      obtain ⟨x2, hx2⟩ : ∃ x, t.text = x := ⟨_, rfl⟩
      have HV := hid (show ∀ u, tmVal t u = .agg #[.int .i64 x0, .int .i64 x1, .string x2, u] by intro u; rw [tmVal, hx0, hx1, hx2])
      rw [hx0] at q0 r0
      rw [hx1] at q1 r1
      rw [hx2] at q2 r2
      clear hx0 hx1 hx2
      have hk1 : (k : Int) < ks.length := by omega
      have hk0 : 0 ≤ (k : Int) := by omega
      go_wp2_with fail
      go_region_with (go_at_call 32; rw [← HV.out, ← HV.out]; refine (eqTerm_of m (HI.out m (by omega)) t _ _ _ (HR1.out.on ((Below.refl _ _).drew)) (HR2.out.on ((Below.refl _ _).drew)) (by omega)).mono ?_; rintro e w1 ⟨rfl, hb1⟩)
      all_goals
        have HB1 := hid (HBe.out.drew.trans (hb1.mono hz))
        clear hb1 q0 q1 q2 q3 r0 r1 r2 r3
        go_wp2_with fail
        go_roundw
        case rel => exact ⟨k + 1, by go_num, by omega, HB1.out⟩
        case measure => simp [intOf]; omega
    · obtain rfl : k = ks.length := by omega
      go_wp2_with fail
      go_ret
      exact ⟨rfl, HBe.out⟩
theorem eqTerm_c (n : Nat) (t : Tm) (va vb : Value) (w : World) (ha : KRd w n va t.kids) (hb : KRd w n vb t.kids) (hw : t.wide ≤ 1048576) :
    Calls Tryd.prog 32 #[tmVal t va, tmVal t vb] w fun e w' => e = .returned (.bool true) ∧ Below w.heap.size w w' := eqTerm_of n (eqTermS_c n) t va vb w ha hb hw
end Go.Proofs.YtgenojpdjplccaaDoor.Um
