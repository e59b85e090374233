/- The laws' own helpers over lines of a listing: szLineS, toLine, toLineS; lines that came in · The laws' own helpers over lines of a listing: toLineS; lines that came in · Lines that came in. -/
import Derived.Test.YtihhpgklpichgabSwH
import Derived.Test.YtihhpgklpichgabHarn
import Derived.Test.YtihhpgklpichgabSw2
set_option linter.unusedSimpArgs false
set_option linter.unusedVariables false
namespace Go.Proofs.Ytihhpgklpichgab.Sw
open Go.RowKit Pl Ft Mm In C2 Im

theorem szLineS_c (a : Option Addr) (n c : Nat) (left : Int) (w : World) (h0 : 0 ≤ left) (h1 : left ≤ 1048576) (hn : n ≤ 9223372036854775807) :
    Calls Try.prog 48 #[.slice a n c, .int .i64 left] w (SzPost left ((n : Int) ≤ left) w) := by
  by_cases h : (n : Int) ≤ left
  · have HP := hid h
    go_enter Try.func48, Try.ntmps48
    go_wp2_with fail
    go_ret
    exact ⟨left - n, rfl, by omega, by omega, fun _ => HP.out, Below.refl _ _⟩
  · go_enter Try.func48, Try.ntmps48
    go_wp2_with fail
    go_ret
    exact ⟨-1, rfl, by omega, by omega, fun h => by omega, Below.refl _ _⟩
set_option maxRecDepth 100000 in
set_option maxHeartbeats 1000000 in
theorem toLine_c (l : ILine) (w : World) : Calls Try.prog 99 #[.agg (lnArr l)] w fun e w' => e = .returned (.agg (lnArr l)) ∧ Below w.heap.size w w' := by
  obtain ⟨at_, is, ⟨op, a, b, n⟩, byte⟩ := l
  unfold lnArr
  simp only
  have ha1 := (Below.refl w.heap.size w).alloc (Nat.le_refl _) (.cells #[.int .i64 at_, .bool is, .int .i64 op, .int .i64 a, .int .i64 b, .int .i64 n, .int .i64 byte] 117)
  have ha2 := ha1.alloc ha1.size (.cells #[.int .i64 0, .bool false, .int .i64 0, .int .i64 0, .int .i64 0, .int .i64 0, .int .i64 0] 110)
  have HB0 := hid (ha2.alloc ha2.size (.cells #[.int .i64 at_, .bool is, .int .i64 0, .int .i64 0, .int .i64 0, .int .i64 0, .int .i64 0] 110))
  have HX0 := hid (((Row.new w 117 #[.int .i64 at_, .bool is, .int .i64 op, .int .i64 a, .int .i64 b, .int .i64 n, .int .i64 byte]).alloc (.cells #[.int .i64 0, .bool false, .int .i64 0, .int .i64 0, .int .i64 0, .int .i64 0, .int .i64 0] 110)).alloc (.cells #[.int .i64 at_, .bool is, .int .i64 0, .int .i64 0, .int .i64 0, .int .i64 0, .int .i64 0] 110))
  have HR0 := hid ((Row.new (w.alloc (.cells #[.int .i64 at_, .bool is, .int .i64 op, .int .i64 a, .int .i64 b, .int .i64 n, .int .i64 byte] 117)) 110 #[.int .i64 0, .bool false, .int .i64 0, .int .i64 0, .int .i64 0, .int .i64 0, .int .i64 0]).alloc (.cells #[.int .i64 at_, .bool is, .int .i64 0, .int .i64 0, .int .i64 0, .int .i64 0, .int .i64 0] 110))
  have HT0 := hid (Row.new ((w.alloc (.cells #[.int .i64 at_, .bool is, .int .i64 op, .int .i64 a, .int .i64 b, .int .i64 n, .int .i64 byte] 117)).alloc (.cells #[.int .i64 0, .bool false, .int .i64 0, .int .i64 0, .int .i64 0, .int .i64 0, .int .i64 0] 110)) 110 #[.int .i64 at_, .bool is, .int .i64 0, .int .i64 0, .int .i64 0, .int .i64 0, .int .i64 0])
  simp only [World.size_alloc] at HR0 HT0
  clear ha1 ha2
  go_enter Try.func99, Try.ntmps99
  go_wp2_with fail
  refine (toIns_c ⟨op, a, b, n⟩ _).mono ?_
  rintro e w1 ⟨rfl, hb1⟩
  have HX1 := hid (HX0.out.on hb1)
  have HR1 := hid (HR0.out.on hb1)
  have HT1 := hid (HT0.out.on hb1)
  have HB1 := hid (HB0.out.trans (hb1.mono HB0.out.size))
  have hz1 := hb1.size
  simp only [World.size_alloc] at hz1
  clear hb1
  unfold IIns.val
  simp only
  obtain ⟨g1, hg1⟩ : ∃ g, w.heap.size + 1 = g := ⟨_, rfl⟩
  simp only [hg1] at HR1 HT1 hz1 ⊢
  obtain ⟨g2, hg2⟩ : ∃ g, g1 + 1 = g := ⟨_, rfl⟩
  simp only [hg2] at HT1 hz1 ⊢
  have hn0 : w.heap.size ≠ g1 := by omega
  have hn1 : w.heap.size ≠ g2 := by omega
  have hn2 : g1 ≠ g2 := by omega
  have hle1 : w.heap.size ≤ g1 := by omega
  have hle2 : w.heap.size ≤ g2 := by omega
  clear hg1 hg2
  have x6 := HX1.out.cell 6
  have r0 := HR1.out.cell 0
  have r1 := HR1.out.cell 1
  have r2 := HR1.out.cell 2
  have r3 := HR1.out.cell 3
  have r4 := HR1.out.cell 4
  have r5 := HR1.out.cell 5
  have r6 := HR1.out.cell 6
  have t0 := HT1.out.cell 0
  have t1 := HT1.out.cell 1
  have t2 := HT1.out.cell 2
  have t3 := HT1.out.cell 3
  have t4 := HT1.out.cell 4
  have t5 := HT1.out.cell 5
  have t6 := HT1.out.cell 6
  simp at x6 r0 r1 r2 r3 r4 r5 r6 t0 t1 t2 t3 t4 t5 t6
  have hfr := HR1.out.free
  have hft := HT1.out.free
  have hlr := HR1.out.lt
  have hlt := HT1.out.lt
  go_upto_region 5 with fail
  have hT2 : Row ((((w1.setCell ⟨g2, 2, none⟩ (.int .i64 op)).setCell ⟨g2, 3, none⟩ (.int .i64 a)).setCell ⟨g2, 4, none⟩ (.int .i64 b)).setCell ⟨g2, 5, none⟩ (.int .i64 n)) g2 110 #[.int .i64 at_, .bool is, .int .i64 op, .int .i64 a, .int .i64 b, .int .i64 n, .int .i64 0] := by
    have h0 : Row _ g2 110 #[.int .i64 at_, .bool is, .int .i64 op, .int .i64 0, .int .i64 0, .int .i64 0, .int .i64 0] := HT1.out.set 2 (.int .i64 op)
    have h1 : Row _ g2 110 #[.int .i64 at_, .bool is, .int .i64 op, .int .i64 a, .int .i64 0, .int .i64 0, .int .i64 0] := h0.set 3 (.int .i64 a)
    have h2 : Row _ g2 110 #[.int .i64 at_, .bool is, .int .i64 op, .int .i64 a, .int .i64 b, .int .i64 0, .int .i64 0] := h1.set 4 (.int .i64 b)
    exact h2.set 5 (.int .i64 n)
  have hX2 : Row ((((w1.setCell ⟨g2, 2, none⟩ (.int .i64 op)).setCell ⟨g2, 3, none⟩ (.int .i64 a)).setCell ⟨g2, 4, none⟩ (.int .i64 b)).setCell ⟨g2, 5, none⟩ (.int .i64 n)) w.heap.size 117 #[.int .i64 at_, .bool is, .int .i64 op, .int .i64 a, .int .i64 b, .int .i64 n, .int .i64 byte] := (((HX1.out.far hn1 _).far hn1 _).far hn1 _).far hn1 _
  have hR2 : Row ((((w1.setCell ⟨g2, 2, none⟩ (.int .i64 op)).setCell ⟨g2, 3, none⟩ (.int .i64 a)).setCell ⟨g2, 4, none⟩ (.int .i64 b)).setCell ⟨g2, 5, none⟩ (.int .i64 n)) g1 110 #[.int .i64 0, .bool false, .int .i64 0, .int .i64 0, .int .i64 0, .int .i64 0, .int .i64 0] := (((HR1.out.far hn2 _).far hn2 _).far hn2 _).far hn2 _
  have hB2 : Below w.heap.size w ((((w1.setCell ⟨g2, 2, none⟩ (.int .i64 op)).setCell ⟨g2, 3, none⟩ (.int .i64 a)).setCell ⟨g2, 4, none⟩ (.int .i64 b)).setCell ⟨g2, 5, none⟩ (.int .i64 n)) := (((HB1.out.setCell (p := ⟨g2, 2, none⟩) hle2 _).setCell (p := ⟨g2, 3, none⟩) hle2 _).setCell (p := ⟨g2, 4, none⟩) hle2 _).setCell (p := ⟨g2, 5, none⟩) hle2 _
  have HT2 := hid hT2
  have HX2 := hid hX2
  have HR2 := hid hR2
  have HB2 := hid hB2
  clear x6 r0 r1 r2 r3 r4 r5 r6 t0 t1 t2 t3 t4 t5 t6 hfr hft hlr hlt hT2 hX2 hR2 hB2 HT1 HX1 HR1 HB1
  generalize (((w1.setCell ⟨g2, 2, none⟩ (.int .i64 op)).setCell ⟨g2, 3, none⟩ (.int .i64 a)).setCell ⟨g2, 4, none⟩ (.int .i64 b)).setCell ⟨g2, 5, none⟩ (.int .i64 n) = w2 at HT2 HX2 HR2 HB2 ⊢
  have x6 := HX2.out.cell 6
  have t6 := HT2.out.cell 6
  simp at x6 t6
  have hft := HT2.out.free
  go_upto_region 6 with fail
  have HT3 := hid (show Row (w2.setCell ⟨g2, 6, none⟩ (.int .i64 byte)) g2 110 #[.int .i64 at_, .bool is, .int .i64 op, .int .i64 a, .int .i64 b, .int .i64 n, .int .i64 byte] from HT2.out.set 6 (.int .i64 byte))
  have HR3 := hid (HR2.out.far (p := ⟨g2, 6, none⟩) hn2 (.int .i64 byte))
  have HB3 := hid (HB2.out.setCell (p := ⟨g2, 6, none⟩) hle2 (.int .i64 byte))
  clear x6 t6 hft HT2 HX2 HR2 HB2
  generalize w2.setCell ⟨g2, 6, none⟩ (.int .i64 byte) = w3 at HT3 HR3 HB3 ⊢
  have t0 := HT3.out.cell 0
  have t1 := HT3.out.cell 1
  have t2 := HT3.out.cell 2
  have t3 := HT3.out.cell 3
  have t4 := HT3.out.cell 4
  have t5 := HT3.out.cell 5
  have t6 := HT3.out.cell 6
  have r0 := HR3.out.cell 0
  have r1 := HR3.out.cell 1
  have r2 := HR3.out.cell 2
  have r3 := HR3.out.cell 3
  have r4 := HR3.out.cell 4
  have r5 := HR3.out.cell 5
  have r6 := HR3.out.cell 6
  simp at t0 t1 t2 t3 t4 t5 t6 r0 r1 r2 r3 r4 r5 r6
  have hfr := HR3.out.free
  go_wp2_with fail
  clear r0 r1 r2 r3 r4 r5 r6 t0 t1 t2 t3 t4 t5 t6 hfr
  refine bodyPost_ret (v := .agg (lnArr ⟨at_, is, ⟨op, a, b, n⟩, byte⟩)) ?_ rfl ⟨rfl, seven_bel HB3.out hle1 _ _ _ _ _ _ _⟩
  exact results_cell_row rfl _ _ g1 110 _ (0, 0) _ rfl (seven_row HR3.out ⟨at_, is, ⟨op, a, b, n⟩, byte⟩) Try.underlying110 rfl rfl
end Go.Proofs.Ytihhpgklpichgab.Sw
namespace Go.Proofs.Ytihhpgklpichgab.Sw
open Go.RowKit Pl Ft Mm In C2 Im
open Go.ChangeShapes Go.WideShapes Go.Deep

theorem drop7 (Z : List Value) (n : Nat) (h : n + 6 < Z.length) : ∃ a0 a1 a2 a3 a4 a5 a6, Z.drop n = a0 :: a1 :: a2 :: a3 :: a4 :: a5 :: a6 :: Z.drop (n + 7) := by
  refine ⟨Z[n], Z[n + 1], Z[n + 2], Z[n + 3], Z[n + 4], Z[n + 5], Z[n + 6], ?_⟩
  rw [List.drop_eq_getElem_cons (by omega : n < Z.length), List.drop_eq_getElem_cons (by omega : n + 1 < Z.length), List.drop_eq_getElem_cons (by omega : n + 1 + 1 < Z.length), List.drop_eq_getElem_cons (by omega : n + 1 + 1 + 1 < Z.length), List.drop_eq_getElem_cons (by omega : n + 1 + 1 + 1 + 1 < Z.length), List.drop_eq_getElem_cons (by omega : n + 1 + 1 + 1 + 1 + 1 < Z.length), List.drop_eq_getElem_cons (by omega : n + 1 + 1 + 1 + 1 + 1 + 1 < Z.length)]
theorem ln_step (l : List ILine) (Z : List Value) (k : Nat) (x : ILine) (h : k < l.length) (hx : l.getD k .none = x) (hz : Z.length = l.length * 7) :
    (((((((lnCells (l.take k) ++ Z.drop (k * 7)).set (k * 7) (.int .i64 x.at_)).set (k * 7 + 1) (.bool x.is)).set (k * 7 + 2) (.int .i64 x.ins.op)).set (k * 7 + 3) (.int .i64 x.ins.a)).set (k * 7 + 4) (.int .i64 x.ins.b)).set (k * 7 + 5) (.int .i64 x.ins.n)).set (k * 7 + 6) (.int .i64 x.byte) = lnCells (l.take (k + 1)) ++ Z.drop ((k + 1) * 7) := by
  have e2 : l.take (k + 1) = l.take k ++ [x] := by rw [List.take_succ_eq_append_getElem h, ← hx]; simp [h]
  have hl : (lnCells (l.take k)).length = k * 7 := by rw [lnCells_len, List.length_take]; omega
  have e3 : lnCells (l.take k ++ [x]) = lnCells (l.take k) ++ [.int .i64 x.at_, .bool x.is, .int .i64 x.ins.op, .int .i64 x.ins.a, .int .i64 x.ins.b, .int .i64 x.ins.n, .int .i64 x.byte] := by
    simp only [lnCells, List.flatMap_append, List.flatMap_cons, List.flatMap_nil, List.append_nil, ILine.cells]
  obtain ⟨a0, a1, a2, a3, a4, a5, a6, e4⟩ := drop7 Z (k * 7) (by omega)
  have e5 : (k + 1) * 7 = k * 7 + 7 := by omega
  rw [e4, e2, e3, e5, sets7 hl, List.append_assoc]
  rfl
set_option maxRecDepth 100000 in
set_option maxHeartbeats 2000000 in
theorem toLineS_c (l : List ILine) (v : Value) (w : World) (ha : CRd w v l.length (lnCells l)) (hl : l.length ≤ 1048576) :
    Calls Try.prog 50 #[v] w fun e w' => ∃ v', e = .returned v' ∧ w'.ownsRow w.heap.size 110 7 v' l.length (lnCells l) ∧ Below w.heap.size w w' := by
  obtain ⟨a, cap, rfl, ha⟩ := ha
  have HA := hid ha
  clear ha
  obtain ⟨i0, hi, hz0, hz1, hz2⟩ := info_parts info_line
  have H0 := hid hz0
  have H1 := hid hz1
  have H2 := hid hz2
  have HI := hid hi
  clear hz0 hz1 hz2 hi
  go_enter Try.func50, Try.ntmps50
  go_wp2_with (refine wpList_make_full _ rfl _ _ 59 rfl w.heap.size 110 i0 (.agg #[.int .i64 0, .bool false, .int .i64 0, .int .i64 0, .int .i64 0, .int .i64 0, .int .i64 0]) 7 Try.underlying59 HI.out H0.out H1.out .i64 .i64 _ _ l.length rfl rfl rfl rfl (by rw [H2.out]; omega) (by simp only [maxLen]; omega) (Nat.le_refl _) ?_; intro w1 hown1 hg1)
  obtain ⟨Z, hZ⟩ : ∃ Z, (madeCells (Value.cells (.agg #[.int .i64 0, .bool false, .int .i64 0, .int .i64 0, .int .i64 0, .int .i64 0, .int .i64 0])) (l.length * 7)).toList = Z := ⟨_, rfl⟩
  rw [hZ] at hown1
  have HZ := hid hown1.1
  have HO := hid hown1
  have HB1 := hid ((Below.refl w.heap.size w).grown hg1 (Nat.le_refl _) (by simp))
  clear hown1 hg1 hZ
  go_loopw [4] (fun c wr => ∃ k : Nat, c = .int .i64 k ∧ k ≤ l.length ∧ wr.ownsRow w.heap.size 110 7 (.slice (some ⟨w.heap.size, 0, none⟩) l.length l.length) l.length (lnCells (l.take k) ++ Z.drop (k * 7)) ∧ Below w.heap.size w wr) (fun c _ => l.length - (intOf c).toNat)
  case atStart => exact ⟨0, rfl, by omega, by simpa [lnCells] using HO.out, HB1.out⟩
  case round =>
    obtain ⟨k, rfl, hk, hown, hbel⟩ := hrel
    by_cases hlt : k < l.length
    · rcases HA.out with h | ⟨g, o, rfl, hg, hc⟩
      · omega
      obtain ⟨c0, c1, c2, c3, c4, c5, c6⟩ := lnCells_get l k hlt
      have q0 := (hbel.cell (p := ⟨g, o + (k * 7), none⟩) hg).trans (hc _ _ c0)
      have q1 := (hbel.cell (p := ⟨g, o + (k * 7 + 1), none⟩) hg).trans (hc _ _ c1)
      have q2 := (hbel.cell (p := ⟨g, o + (k * 7 + 2), none⟩) hg).trans (hc _ _ c2)
      have q3 := (hbel.cell (p := ⟨g, o + (k * 7 + 3), none⟩) hg).trans (hc _ _ c3)
      have q4 := (hbel.cell (p := ⟨g, o + (k * 7 + 4), none⟩) hg).trans (hc _ _ c4)
      have q5 := (hbel.cell (p := ⟨g, o + (k * 7 + 5), none⟩) hg).trans (hc _ _ c5)
      have q6 := (hbel.cell (p := ⟨g, o + (k * 7 + 6), none⟩) hg).trans (hc _ _ c6)
      obtain ⟨⟨at_, is, ⟨op, ia, ib, n⟩, byte⟩, hx⟩ : ∃ x, l.getD k .none = x := ⟨_, rfl⟩
      rw [hx] at q0 q1 q2 q3 q4 q5 q6
      simp only [← Nat.add_assoc] at q0 q1 q2 q3 q4 q5 q6
      have HX := hid hx
      have HOw := hid hown
      have HBe := hid hbel
      clear hown hbel hc c0 c1 c2 c3 c4 c5 c6 hx
      go_wp2_with fail
      refine (toLine_c ⟨at_, is, ⟨op, ia, ib, n⟩, byte⟩ _).mono ?_
      rintro e w2 ⟨rfl, hb2⟩
      have hown := own_on HOw.out hb2
      have HB2 := hid (HBe.out.trans (hb2.mono HBe.out.size))
      have hz2 := hown.lt w.heap.size rfl
      clear hb2 q0 q1 q2 q3 q4 q5 q6
      have hlen : k * 7 + 6 < (lnCells (l.take k) ++ Z.drop (k * 7)).length := by have := HZ.out; rw [List.length_append, lnCells_len, List.length_take, List.length_drop]; omega
      have hc0 := hown.cellAt (k * 7) (by omega)
      have hc1 := hown.cellAt (k * 7 + 1) (by omega)
      have hc2 := hown.cellAt (k * 7 + 2) (by omega)
      have hc3 := hown.cellAt (k * 7 + 3) (by omega)
      have hc4 := hown.cellAt (k * 7 + 4) (by omega)
      have hc5 := hown.cellAt (k * 7 + 5) (by omega)
      have hc6 := hown.cellAt (k * 7 + 6) (by omega)
      have hsome : ∀ j, j ≤ 6 → ∃ u, (lnCells (l.take k) ++ Z.drop (k * 7))[k * 7 + j]? = some u := fun j hj => ⟨_, List.getElem?_eq_getElem (by omega)⟩
      obtain ⟨u0, hu0⟩ := hsome 0 (by omega)
      obtain ⟨u1, hu1⟩ := hsome 1 (by omega)
      obtain ⟨u2, hu2⟩ := hsome 2 (by omega)
      obtain ⟨u3, hu3⟩ := hsome 3 (by omega)
      obtain ⟨u4, hu4⟩ := hsome 4 (by omega)
      obtain ⟨u5, hu5⟩ := hsome 5 (by omega)
      obtain ⟨u6, hu6⟩ := hsome 6 (by omega)
      rw [Nat.add_zero] at hu0
      rw [hu0] at hc0
      rw [hu1] at hc1
      rw [hu2] at hc2
      rw [hu3] at hc3
      rw [hu4] at hc4
      rw [hu5] at hc5
      rw [hu6] at hc6
      have hf0 := hown.frozenAt (k * 7)
      have hf1 := hown.frozenAt (k * 7 + 1)
      have hf2 := hown.frozenAt (k * 7 + 2)
      have hf3 := hown.frozenAt (k * 7 + 3)
      have hf4 := hown.frozenAt (k * 7 + 4)
      have hf5 := hown.frozenAt (k * 7 + 5)
      have hf6 := hown.frozenAt (k * 7 + 6)
      have hst := ((((((hown.stored (k * 7) (.int .i64 at_)).1.stored (k * 7 + 1) (.bool is)).1.stored (k * 7 + 2) (.int .i64 op)).1.stored (k * 7 + 3) (.int .i64 ia)).1.stored (k * 7 + 4) (.int .i64 ib)).1.stored (k * 7 + 5) (.int .i64 n)).1.stored (k * 7 + 6) (.int .i64 byte)
      have hstep := ln_step l Z k ⟨at_, is, ⟨op, ia, ib, n⟩, byte⟩ hlt HX.out HZ.out
      simp only at hstep
      rw [hstep] at hst
      have HS := hid hst.1
      have HB3 := hid (((((((HB2.out.setCell (p := ⟨w.heap.size, k * 7, none⟩) (Nat.le_refl _) (.int .i64 at_)).setCell (p := ⟨w.heap.size, k * 7 + 1, none⟩) (Nat.le_refl _) (.bool is)).setCell (p := ⟨w.heap.size, k * 7 + 2, none⟩) (Nat.le_refl _) (.int .i64 op)).setCell (p := ⟨w.heap.size, k * 7 + 3, none⟩) (Nat.le_refl _) (.int .i64 ia)).setCell (p := ⟨w.heap.size, k * 7 + 4, none⟩) (Nat.le_refl _) (.int .i64 ib)).setCell (p := ⟨w.heap.size, k * 7 + 5, none⟩) (Nat.le_refl _) (.int .i64 n)).setCell (p := ⟨w.heap.size, k * 7 + 6, none⟩) (Nat.le_refl _) (.int .i64 byte))
      unfold lnArr
      simp only
      clear hst hown hstep hlen hu0 hu1 hu2 hu3 hu4 hu5 hu6 hsome
      go_wp2_with fail
      go_roundw
      case rel =>
        refine ⟨k + 1, by go_num, by omega, ?_, ?_⟩
        · first | with_reducible exact HS.out | (trace_state; sorry)
        · first | with_reducible exact HB3.out | sorry
      case measure => simp [intOf]; omega
    · obtain rfl : k = l.length := by omega
      have HO2 := hid hown
      have HB2 := hid hbel
      clear hown hbel
      go_wp2_with fail
      go_ret
      exact ⟨_, rfl, by have := HO2.out; rwa [List.take_length, List.drop_of_length_le (by rw [HZ.out]; exact Nat.le_refl _), List.append_nil] at this, HB2.out⟩
end Go.Proofs.Ytihhpgklpichgab.Sw
namespace Go.Proofs.Ytihhpgklpichgab.Sw
open Go.RowKit Pl Ft Mm In C2 Im
open Go.ChangeShapes Go.WideShapes Go.Deep

theorem cells_lln : Try.prog.cellsOf 117 = 7 := by kernel_rfl
theorem cells_lin : Try.prog.cellsOf 115 = 4 := by kernel_rfl
theorem cells_bool : Try.prog.cellsOf 4 = 1 := by kernel_rfl
theorem cells_i : Try.prog.cellsOf 3 = 1 := by kernel_rfl
set_option maxRecDepth 100000 in
/-- The cells of a line that came in. -/
theorem line_of {H : Type} {enc : TypeId × Value → H} {w : World} {base : Nat} {spare : Nat → Bool} {held : Bool} {fuel : Nat} {cs : List Value} {x : DataW H × List MemPlace}
    (h : DataW.trod enc Try.prog w base spare held fuel 117 cs = some x) : ∃ l : ILine, cs = l.cells := by
  obtain ⟨ys, k, _, _, hl, hyl, hf⟩ := DataW.trod_struct Try.underlying117 h
  rw [cells_lln] at hl
  match cs, hl with
  | [u0, u1, u2, u3, u4, u5, u6], _ =>
    have g0 : DataW.trod enc Try.prog w base spare held k 3 (([u0, u1, u2, u3, u4, u5, u6].drop 0).take (Try.prog.cellsOf 3)) = ys[0]? := hf 0 _ rfl
    have g1 : DataW.trod enc Try.prog w base spare held k 4 (([u0, u1, u2, u3, u4, u5, u6].drop 1).take (Try.prog.cellsOf 4)) = ys[1]? := hf 1 _ rfl
    have g2 : DataW.trod enc Try.prog w base spare held k 115 (([u0, u1, u2, u3, u4, u5, u6].drop 2).take (Try.prog.cellsOf 115)) = ys[2]? := hf 2 _ rfl
    have g3 : DataW.trod enc Try.prog w base spare held k 3 (([u0, u1, u2, u3, u4, u5, u6].drop 6).take (Try.prog.cellsOf 3)) = ys[3]? := hf 3 _ rfl
    rw [cells_i] at g0 g3
    rw [cells_bool] at g1
    rw [cells_lin] at g2
    rw [List.getElem?_eq_getElem (by rw [hyl]; simp)] at g0 g1 g2 g3
    simp only [List.drop_zero, List.drop_succ_cons, List.take_succ_cons, List.take_zero] at g0 g1 g2 g3
    obtain ⟨z0, e0, _, _⟩ := DataW.trod_int Try.underlying3 g0
    obtain ⟨b1, e1, _⟩ := DataW.trod_bool Try.underlying4 g1
    obtain ⟨z6, e6, _, _⟩ := DataW.trod_int Try.underlying3 g3
    obtain ⟨ys2, k2, _, _, hl2, hyl2, hf2⟩ := DataW.trod_struct Try.underlying115 g2
    have d0 : DataW.trod enc Try.prog w base spare held k2 3 (([u2, u3, u4, u5].drop 0).take (Try.prog.cellsOf 3)) = ys2[0]? := hf2 0 _ rfl
    have d1 : DataW.trod enc Try.prog w base spare held k2 3 (([u2, u3, u4, u5].drop 1).take (Try.prog.cellsOf 3)) = ys2[1]? := hf2 1 _ rfl
    have d2 : DataW.trod enc Try.prog w base spare held k2 3 (([u2, u3, u4, u5].drop 2).take (Try.prog.cellsOf 3)) = ys2[2]? := hf2 2 _ rfl
    have d3 : DataW.trod enc Try.prog w base spare held k2 3 (([u2, u3, u4, u5].drop 3).take (Try.prog.cellsOf 3)) = ys2[3]? := hf2 3 _ rfl
    rw [cells_i] at d0 d1 d2 d3
    rw [List.getElem?_eq_getElem (by rw [hyl2]; simp)] at d0 d1 d2 d3
    simp only [List.drop_zero, List.drop_succ_cons, List.take_succ_cons, List.take_zero] at d0 d1 d2 d3
    obtain ⟨z2, e2, _, _⟩ := DataW.trod_int Try.underlying3 d0
    obtain ⟨z3, e3, _, _⟩ := DataW.trod_int Try.underlying3 d1
    obtain ⟨z4, e4, _, _⟩ := DataW.trod_int Try.underlying3 d2
    obtain ⟨z5, e5, _, _⟩ := DataW.trod_int Try.underlying3 d3
    simp only [List.cons.injEq, and_true] at e0 e1 e2 e3 e4 e5 e6
    subst e0 e1 e2 e3 e4 e5 e6
    exact ⟨⟨z0, b1, ⟨z2, z3, z4, z5⟩, z6⟩, rfl⟩
theorem add_add (a : Addr) (m j : Nat) : (a.add m).add j = a.add (m + j) := by
  unfold Addr.add
  by_cases h1 : m = 0 <;> by_cases h2 : j = 0 <;> simp [h1, h2] <;> omega
theorem flat_at (l : List ILine) (j : Nat) (u : Value) (h : (lnCells l)[j]? = some u) : j / 7 < l.length ∧ (l.getD (j / 7) .none).cells[j % 7]? = some u := by
  have hj : j < (lnCells l).length := (List.getElem?_eq_some_iff.1 h).1
  rw [lnCells_len] at hj
  have h1 : j / 7 < l.length := by omega
  refine ⟨h1, ?_⟩
  have h2 := flat_get ILine.cells 7 (fun _ => rfl) .none l (j / 7) (j % 7) h1 (by omega)
  rw [← h2, show j / 7 * 7 + j % 7 = j by omega]
  exact h
theorem lines_of {H : Type} {enc : TypeId × Value → H} {w : World} {base : Nat} {spare : Nat → Bool} {held : Bool} {fuel : Nat} {u : Value} {x : DataW H × List MemPlace}
    (h : DataW.trod enc Try.prog w base spare held fuel 63 [u] = some x) : ∃ l : List ILine, CRd w u l.length (lnCells l) ∧ l.length ≤ maxLen := by
  rcases open_slice Try.underlying63 h with ⟨hcs, _⟩ | ⟨a, len, cap, m, n, D, Pl, hcs, _, hl, hm, hmm, _, hi⟩
  · simp only [List.cons.injEq, and_true] at hcs
    subst hcs
    exact ⟨[], ⟨none, 0, rfl, .inl rfl⟩, Nat.zero_le _⟩
  · simp only [List.cons.injEq, and_true] at hcs
    subst hcs
    have hlm : len ≤ m := by rw [hmm]; split <;> omega
    have each : ∀ i, ∃ q : ILine, i < len → ∀ j v, q.cells[j]? = some v → w.cell? (a.add (i * 7 + j)) = some v := by
      intro i
      by_cases hil : i < len
      · obtain ⟨cs', hc, htr⟩ := hi i (by omega)
        rw [cells_lln] at hc
        obtain ⟨_, hcl, hat⟩ := World.cells?_some hc
        obtain ⟨q, rfl⟩ := line_of htr
        refine ⟨q, fun _ j v hv => ?_⟩
        have hj : j < 7 := (List.getElem?_eq_some_iff.1 hv).1
        rw [← add_add]
        have := hat j (by omega)
        rw [hv] at this
        exact this
      · exact ⟨.none, fun hlt => absurd hlt hil⟩
    obtain ⟨f, hf⟩ := Classical.skolem.1 each
    have hlen : ((List.range len).map f).length = len := by simp
    have hget : ∀ j, j < len → ((List.range len).map f).getD j .none = f j := by
      intro j hj
      simp [hj]
    refine ⟨(List.range len).map f, ?_, by omega⟩
    rw [hlen]
    refine ⟨some a, cap, rfl, ?_⟩
    by_cases h0 : len = 0
    · exact .inl h0
    have hfl := fun j u hu => flat_at ((List.range len).map f) j u hu
    rw [hlen] at hfl
    have hcell : ∀ j u, (lnCells ((List.range len).map f))[j]? = some u → w.cell? (a.add j) = some u := by
      intro j u hu
      obtain ⟨h1, h2⟩ := hfl j u hu
      rw [hget _ h1] at h2
      have := hf (j / 7) h1 (j % 7) u h2
      rwa [show j / 7 * 7 + j % 7 = j by omega] at this
    have hc0 := hcell 0 _ (lnCells_get ((List.range len).map f) 0 (by rw [hlen]; omega)).1
    have e : a.add 0 = a := rfl
    rw [e] at hc0
    have hs := cell_spot hc0
    refine .inr ⟨a.block, a.off, by rw [← hs], cell_lt hc0, fun j u hu => ?_⟩
    rw [← add_none, ← hs]
    exact hcell j u hu
end Go.Proofs.Ytihhpgklpichgab.Sw
