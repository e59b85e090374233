/- Simpler terms: a term with an operator and a word behind it, by the program: two numbers. -/
import Derived.Test.YtffibmlgdacafaaDoorWf1
set_option linter.unusedSimpArgs false
set_option linter.unusedVariables false
namespace Go.Proofs.YtffibmlgdacafaaDoor.Um
open Go.RowKit Pl Ft Mm In C2 Im

def numAdded (a : Tm) : Bool := a.kind == 2 && (opIs a.text [[43]] && (a.kids.getD 1 tz).kind == 0)
theorem numAdded_iff (a : Tm) : numAdded a = true ↔ (a.kind = 2 ∧ opIs a.text [[43]] = true ∧ (a.kids.getD 1 tz).kind = 0) := by simp [numAdded]
theorem isNumber_v {t : Tm} {x0 x1 : Int} {x2 : ByteArray} {lk : Nat} (hp : Pt t x0 x1 x2 lk) (kv : Value) (w : World) : Calls Tryd.prog 149 #[.agg #[.int .i64 x0, .int .i64 x1, .string x2, kv]] w fun e w' => e = .returned (.bool (x0 == 0)) ∧ Below w.heap.size w w' := by
  have := isNumber_c t kv w
  rwa [hp.val, hp.k] at this
set_option maxRecDepth 100000 in
set_option maxHeartbeats 4000000 in
theorem isNumberAdded_c (h n : Nat) (a : Tm) (va : Value) (w : World) (hs : shape h a = true) (hr : KRd w n va a.kids) :
    Calls Tryd.prog 167 #[tmVal a va] w fun e w' => e = .returned (.bool (numAdded a)) ∧ Below w.heap.size w w' := by
  obtain ⟨sa, ca, rfl⟩ := hr.slice
  have HR := hid hr
  obtain ⟨g, rfl⟩ : ∃ g, h = g + 1 := by
    cases h with
    | zero => simp [shape] at hs
    | succ g => exact ⟨g, rfl⟩
  have hf := (shape_at hs).1
  clear hr hs
  have HBf := hid (fun hk => bin_form hf hk)
  clear hf
  obtain ⟨x0, x1, x2, la, hp⟩ := Pt.of a
  have HP := hid hp
  have HNa := hid (show numAdded a = (x0 == 2 && (opIs x2 [[43]] && (a.kids.getD 1 tz).kind == 0)) by rw [numAdded, hp.k, hp.s])
  rw [hp.val]
  rw [hp.l] at HR ⊢
  clear hp
  have HB0 := hid ((Below.refl w.heap.size w).alloc (Nat.le_refl _) (.cells #[.int .i64 x0, .int .i64 x1, .string x2, .slice sa la ca] 28))
  by_cases h2 : x0 = 2
  case neg =>
    have hb : (x0 == 2) = false := by simpa using h2
    go_enter Tryd.func167, Tryd.ntmps167
    go_wp2_with fail
    go_ret
    exact ⟨bool_eq (by rw [HNa.out, hb]; rfl), HB0.out⟩
  obtain ⟨hl, ho, _⟩ := HBf.out (HP.out.k.trans h2)
  have hla : la = 2 := HP.out.l.symm.trans hl
  subst h2 hla
  rw [HP.out.s] at ho
  obtain ⟨m', b, o, cap', rfl, hv, hg, hc⟩ := HR.out.cells (by omega)
  rw [hl] at hv
  simp only [Value.slice.injEq, true_and] at hv
  obtain ⟨rfl, rfl⟩ := hv
  obtain ⟨u, c0, c1, c2, c3, _⟩ := hc 1 (by omega)
  obtain ⟨k1, hk1⟩ : ∃ t, a.kids.getD 1 tz = t := ⟨_, rfl⟩
  rw [hk1] at c0 c1 c2 HNa
  obtain ⟨y0, y1, y2, ly, hq⟩ := Pt.of k1
  have HQ := hid hq
  rw [hq.k] at c0 HNa
  rw [hq.n] at c1
  rw [hq.s] at c2
  have q0 := (HB0.out.cell (p := ⟨b, o + 1 * 4, none⟩) hg).trans c0
  have q1 := (HB0.out.cell (p := ⟨b, o + 1 * 4 + 1, none⟩) hg).trans c1
  have q2 := (HB0.out.cell (p := ⟨b, o + 1 * 4 + 2, none⟩) hg).trans c2
  have q3 := (HB0.out.cell (p := ⟨b, o + 1 * 4 + 3, none⟩) hg).trans c3
  simp only [Nat.one_mul] at q0 q1 q2 q3
  clear hc c0 c1 c2 c3 hl hk1 hq
  rcases op_lit ho with rfl | rfl | rfl | rfl | rfl | rfl | rfl | rfl | rfl
  all_goals clear ho
  · go_enter Tryd.func167, Tryd.ntmps167
    go_wp2_with fail
    refine (isNumber_v HQ.out u _).mono ?_
    rintro e w1 ⟨rfl, hb1⟩
    have HB1 := hid (HB0.out.trans (hb1.mono HB0.out.size))
    clear hb1
    go_wp2_with fail
    go_ret
    exact ⟨bool_eq (by rw [HNa.out]; simp [opIs]), HB1.out⟩
  all_goals
    go_enter Tryd.func167, Tryd.ntmps167
    go_wp2_with fail
    go_ret
    exact ⟨bool_eq (by rw [HNa.out]; simp [opIs]), HB0.out⟩
set_option maxRecDepth 100000 in
set_option maxHeartbeats 8000000 in
theorem ahead_add_n (m lo f0 g0 G h : Nat) (a : Tm) (va : Value) (n : Int) (hn : 0 ≤ n ∧ n ≤ 65535) (hn0 : ¬ n = 0) (w : World) (hs : shape h a = true) (ha : KOwn w m f0 g0 va a.kids) (hlo : lo ≤ f0) (hhi : g0 ≤ G) (hG : G ≤ w.heap.size) (hT : Tabs w) :
    Calls Tryd.prog 151 #[tmVal a va, .string ⟨#[43]⟩, .int .i64 n] w (FoldPost (m + 1) lo G (rightT a ⟨#[43]⟩ n) w) := by
  have HN := hid hn
  clear hn
  obtain ⟨sa, ca, rfl⟩ := ha.slice
  have HLw := hid (show lo ≤ w.heap.size by have := ha.le; omega)
  have HA := hid ha
  have HLo := hid hlo
  have HHi := hid hhi
  have HG := hid hG
  have HT := hid hT
  have HSh := hid hs
  clear ha hlo hhi hT hs hG
  obtain ⟨x0, x1, x2, la, hp⟩ := Pt.of a
  have HP := hid hp
  rw [hp.val]
  rw [hp.l] at HA ⊢
  clear hp
  have HB00 := hid ((Below.refl w.heap.size w).alloc (Nat.le_refl _) (.cells #[.int .i64 x0, .int .i64 x1, .string x2, .slice sa la ca] 28))
  have HB0 := hid (HB00.out.alloc HB00.out.size (.cells #[.int .i64 0, .int .i64 0, .string ⟨#[]⟩, .slice none 0 0] 28))
  have HZ0 := hid (Row.new (w.alloc (.cells #[.int .i64 x0, .int .i64 x1, .string x2, .slice sa la ca] 28)) 28 #[.int .i64 0, .int .i64 0, .string ⟨#[]⟩, .slice none 0 0])
  have HX0 := hid ((Row.new w 28 #[.int .i64 x0, .int .i64 x1, .string x2, .slice sa la ca]).alloc (.cells #[.int .i64 0, .int .i64 0, .string ⟨#[]⟩, .slice none 0 0] 28))
  have HBa := hid (HB00.out.alloc HB00.out.size (.cells #[.int .i64 x0, .int .i64 x1, .string x2, .slice sa la ca] 28))
  have HZa := hid (Row.new (w.alloc (.cells #[.int .i64 x0, .int .i64 x1, .string x2, .slice sa la ca] 28)) 28 #[.int .i64 x0, .int .i64 x1, .string x2, .slice sa la ca])
  simp only [World.size_alloc] at HZ0 HZa
  have q0 := eql_wb ⟨#[43]⟩ ⟨#[43]⟩ n 0 (b := false) (by simp [hn0])
  have q1 := eql_wb ⟨#[43]⟩ ⟨#[45]⟩ n 0 (b := false) (by rw [Bool.and_eq_false_iff]; exact .inl (by decide))
  have q2 := eql_wb ⟨#[43]⟩ ⟨#[124]⟩ n 0 (b := false) (by rw [Bool.and_eq_false_iff]; exact .inl (by decide))
  have q3 := eql_wb ⟨#[43]⟩ ⟨#[94]⟩ n 0 (b := false) (by rw [Bool.and_eq_false_iff]; exact .inl (by decide))
  have q4 := eql_wb ⟨#[43]⟩ ⟨#[42]⟩ n 1 (b := false) (by rw [Bool.and_eq_false_iff]; exact .inl (by decide))
  have q5 := eql_wb ⟨#[43]⟩ ⟨#[38]⟩ n 65535 (b := false) (by rw [Bool.and_eq_false_iff]; exact .inl (by decide))
  have q6 := eql_wb ⟨#[43]⟩ ⟨#[42]⟩ n 0 (b := false) (by rw [Bool.and_eq_false_iff]; exact .inl (by decide))
  have q7 := eql_wb ⟨#[43]⟩ ⟨#[38]⟩ n 0 (b := false) (by rw [Bool.and_eq_false_iff]; exact .inl (by decide))
  have q8 := eql_wb ⟨#[43]⟩ ⟨#[60, 60]⟩ n 0 (b := false) (by rw [Bool.and_eq_false_iff]; exact .inl (by decide))
  have q9 := eql_wb ⟨#[43]⟩ ⟨#[124]⟩ n 65535 (b := false) (by rw [Bool.and_eq_false_iff]; exact .inl (by decide))
  have q10 := eql_wb ⟨#[43]⟩ ⟨#[61, 61]⟩ n 0 (b := false) (by rw [Bool.and_eq_false_iff]; exact .inl (by decide))
  have q11 := eql_wb ⟨#[43]⟩ ⟨#[61, 61]⟩ n 1 (b := false) (by rw [Bool.and_eq_false_iff]; exact .inl (by decide))
  have hgd := fun op a b ys => guard_wb op a b #[.string ⟨#[43]⟩, .int .i64 n] ys
  have HRt := hid (show rightT a ⟨#[43]⟩ n = if a.kind = 2 ∧ opIs a.text [[43]] = true ∧ (a.kids.getD 1 tz).kind = 0 then some (binT (a.kids.getD 0 tz) ⟨#[43]⟩ (nT (((a.kids.getD 1 tz).num + n) % 65536))) else none from by simp [rightT, opIs, hn0])
  clear hn0
  go_enter Tryd.func151, Tryd.ntmps151
  obtain ⟨b, hb⟩ : ∃ b, numAdded a = b := ⟨_, rfl⟩
  have HAd := hid (fun (wx : World) (hbx : Below w.heap.size w wx) => (show Calls Tryd.prog 167 #[.agg #[.int .i64 x0, .int .i64 x1, .string x2, .slice sa la ca]] wx (fun e w' => e = .returned (.bool b) ∧ Below wx.heap.size wx w') from hb ▸ HP.out.val (.slice sa la ca) ▸ isNumberAdded_c h m a (.slice sa la ca) wx HSh.out (HA.out.on hbx).rd))
  have HBb := hid hb
  clear hb
  go_wp2_with fail
  refine (HAd.out _ HB0.out).mono ?_
  rintro e w0 ⟨rfl, hb1⟩
  have HX9 := hid (HX0.out.on hb1)
  have HZ9 := hid (HZ0.out.on hb1)
  have HB9 := hid (HB0.out.trans (hb1.mono HB0.out.size))
  clear hb1 HAd HB00 HBa HZa HX0 HZ0 HB0
  have HX0 := HX9
  have HZ0 := HZ9
  have HB0 := HB9
  clear HX9 HZ9 HB9
  cases b
  · have hno : rightT a ⟨#[43]⟩ n = none := by rw [HRt.out, if_neg (fun h => by rw [← numAdded_iff, HBb.out] at h; cases h)]
    have HNo := hid hno
    clear hno
    have r0 := HZ0.out.cell 0
    have r1 := HZ0.out.cell 1
    have r2 := HZ0.out.cell 2
    have r3 := HZ0.out.cell 3
    simp at r0 r1 r2 r3
    have hfr := HZ0.out.free
    go_wp2_with fail
    clear r0 r1 r2 r3 hfr
    refine bodyPost_ret (v := .tuple #[.agg #[.int .i64 0, .int .i64 0, .string ⟨#[]⟩, .slice none 0 0], .bool false]) ?_ rfl ?_
    · exact results_cell_tmp Tryd.results151 _ _ (w.heap.size + 1) _ _ rfl (four_row HZ0.out (.int .i64 0) (.int .i64 0) (.string ⟨#[]⟩) (.slice none 0 0)) Tryd.underlying28 size_term
    · rw [HNo.out]
      exact fold_end (t := tz) (a := none) (c := 0) rfl (fun r hr => by cases hr) (four_bel HB0.out (show w.heap.size ≤ w.heap.size + 1 by omega) _ _ _ _) rfl
  have hyes := (numAdded_iff a).1 HBb.out
  have hf := HSh.out
  obtain ⟨g9, rfl⟩ : ∃ g, h = g + 1 := by
    cases h with
    | zero => simp [shape] at hf
    | succ g => exact ⟨g, rfl⟩
  obtain ⟨hl2, _, _⟩ := bin_form (shape_at hf).1 hyes.1
  have hw1 := num_of ((shape_at hf).2 1 (by omega)) hyes.2.2
  obtain ⟨r, cap, n', f2, g2, u0, rfl, hv, hrl, hrlo, c0, c1, c2, c3, p1, p2, p4⟩ := HA.out.part (j := 0) (by omega)
  obtain ⟨r', cap', n2, f3, g3, u1, hn2, hv', _, _, e0, e1, e2, e3, _, _, _⟩ := HA.out.part (j := 1) (by omega)
  rw [hl2] at hv hv'
  obtain ⟨hsa, hca⟩ : sa = some ⟨r, 0, none⟩ ∧ la = 2 := by cases hv; exact ⟨rfl, rfl⟩
  subst hsa hca
  obtain rfl : r = r' := by simp only [Value.slice.injEq, Option.some.injEq, Addr.mk.injEq] at hv'; exact hv'.1.1
  have HRt := hid (show rightT a ⟨#[43]⟩ n = some (binT (a.kids.getD 0 tz) ⟨#[43]⟩ (nT (((a.kids.getD 1 tz).num + n) % 65536))) by rw [HRt.out, if_pos hyes])
  obtain ⟨k0, hk0⟩ : ∃ t, a.kids.getD 0 tz = t := ⟨_, rfl⟩
  obtain ⟨k1, hk1⟩ : ∃ t, a.kids.getD 1 tz = t := ⟨_, rfl⟩
  rw [hk0] at c0 c1 c2 p4 HRt
  rw [hk1] at e0 e1 e2 HRt hw1
  obtain ⟨sz, cz, rfl⟩ := p4.slice
  obtain ⟨z0, z1, z2, lz, hq0⟩ := Pt.of k0
  obtain ⟨y0, y1, y2, ly, hq1⟩ := Pt.of k1
  have HQ0 := hid hq0
  rw [hq0.k] at c0
  rw [hq0.n] at c1
  rw [hq0.s] at c2
  rw [hq0.l] at c3 p4
  rw [hq1.k] at e0
  rw [hq1.n] at e1 HRt hw1
  rw [hq1.s] at e2
  have HK4 := hid p4
  have HP12 := hid (And.intro p1 p2)
  have HRl := hid (And.intro hrl hrlo)
  simp only [Nat.zero_mul, Nat.one_mul, Nat.zero_add, Nat.reduceAdd] at c0 c1 c2 c3 e0 e1 e2 e3
  have HPc := hid (fun (wx : World) (hb : Below w.heap.size w wx) => (show wx.cell? ⟨r, 0, none⟩ = some (.int .i64 z0) ∧ wx.cell? ⟨r, 1, none⟩ = some (.int .i64 z1) ∧ wx.cell? ⟨r, 2, none⟩ = some (.string z2) ∧ wx.cell? ⟨r, 3, none⟩ = some (.slice sz lz cz) ∧ wx.cell? ⟨r, 4, none⟩ = some (.int .i64 y0) ∧ wx.cell? ⟨r, 5, none⟩ = some (.int .i64 y1) ∧ wx.cell? ⟨r, 6, none⟩ = some (.string y2) ∧ wx.cell? ⟨r, 7, none⟩ = some u1 from ⟨(hb.cell (p := ⟨r, 0, none⟩) hrl).trans c0, (hb.cell (p := ⟨r, 1, none⟩) hrl).trans c1, (hb.cell (p := ⟨r, 2, none⟩) hrl).trans c2, (hb.cell (p := ⟨r, 3, none⟩) hrl).trans c3, (hb.cell (p := ⟨r, 4, none⟩) hrl).trans e0, (hb.cell (p := ⟨r, 5, none⟩) hrl).trans e1, (hb.cell (p := ⟨r, 6, none⟩) hrl).trans e2, (hb.cell (p := ⟨r, 7, none⟩) hrl).trans e3⟩))
  have hn := HN.out
  have hng : IntKind.wrap .i64 (y1 + n) = y1 + n := IntWalk.i64_in _ (by omega)
  have HBn := hid (fun (wx : World) => (show Calls Tryd.prog 99 #[.agg #[.int .i64 z0, .int .i64 z1, .string z2, .slice sz lz cz], .string ⟨#[43]⟩, .agg #[.int .i64 0, .int .i64 ((y1 + n) % 65536), .string ⟨#[]⟩, .slice none 0 0]] wx (MadePost (binT k0 ⟨#[43]⟩ (nT ((y1 + n) % 65536))) [.slice sz lz cz, .slice none 0 0] wx) from HQ0.out.val (.slice sz lz cz) ▸ binTerm_c ⟨#[43]⟩ k0 (nT ((y1 + n) % 65536)) (.slice sz lz cz) (.slice none 0 0) wx))
  clear hyes hf hl2 hv hv' c0 c1 c2 c3 e0 e1 e2 e3 p1 p2 p4 hk0 hk1 hq0 hq1 hn2 hrl hrlo hw1
  go_upto_region 22 with fail
  skip
  have HBe0 := hid (HB0.out.drew)
  have HZe0 := hid (HZ0.out.drew)
  have hx0 := HZ0.out.lt
  have HSx := hid (fun (wx : World) (hbx : Below (w.heap.size + 1) w0 wx) => (show wx.cell? ⟨w.heap.size, 0, none⟩ = some (.int .i64 x0) ∧ wx.cell? ⟨w.heap.size, 1, none⟩ = some (.int .i64 x1) ∧ wx.cell? ⟨w.heap.size, 2, none⟩ = some (.string x2) ∧ wx.cell? ⟨w.heap.size, 3, none⟩ = some (.slice (some ⟨r, 0, none⟩) 2 ca) ∧ wx.cell? ⟨r, 0, none⟩ = some (.int .i64 z0) ∧ wx.cell? ⟨r, 1, none⟩ = some (.int .i64 z1) ∧ wx.cell? ⟨r, 2, none⟩ = some (.string z2) ∧ wx.cell? ⟨r, 3, none⟩ = some (.slice sz lz cz) ∧ wx.cell? ⟨r, 4, none⟩ = some (.int .i64 y0) ∧ wx.cell? ⟨r, 5, none⟩ = some (.int .i64 y1) ∧ wx.cell? ⟨r, 6, none⟩ = some (.string y2) ∧ wx.cell? ⟨r, 7, none⟩ = some u1 from by
    have c0 := (HX0.out.below hbx (Nat.lt_succ_self _)).cell 0
    have c1 := (HX0.out.below hbx (Nat.lt_succ_self _)).cell 1
    have c2 := (HX0.out.below hbx (Nat.lt_succ_self _)).cell 2
    have c3 := (HX0.out.below hbx (Nat.lt_succ_self _)).cell 3
    obtain ⟨p0, p1, p2, p3, p4, p5, p6, p7⟩ := HPc.out wx (HB0.out.trans (hbx.mono (by have := HB0.out.size; omega)))
    exact ⟨c0, c1, c2, c3, p0, p1, p2, p3, p4, p5, p6, p7⟩))
  have HD0 := hid (show Below (w.heap.size + 1) w0 w0.drew from (Below.refl w0.heap.size w0).drew.mono (by omega))
  refine wp_region_held_drew (S := fun w' => w'.cell? ⟨w.heap.size, 0, none⟩ = some (.int .i64 x0) ∧ w'.cell? ⟨w.heap.size, 1, none⟩ = some (.int .i64 x1) ∧ w'.cell? ⟨w.heap.size, 2, none⟩ = some (.string x2) ∧ w'.cell? ⟨w.heap.size, 3, none⟩ = some (.slice (some ⟨r, 0, none⟩) 2 ca) ∧ w'.cell? ⟨r, 0, none⟩ = some (.int .i64 z0) ∧ w'.cell? ⟨r, 1, none⟩ = some (.int .i64 z1) ∧ w'.cell? ⟨r, 2, none⟩ = some (.string z2) ∧ w'.cell? ⟨r, 3, none⟩ = some (.slice sz lz cz) ∧ w'.cell? ⟨r, 4, none⟩ = some (.int .i64 y0) ∧ w'.cell? ⟨r, 5, none⟩ = some (.int .i64 y1) ∧ w'.cell? ⟨r, 6, none⟩ = some (.string y2) ∧ w'.cell? ⟨r, 7, none⟩ = some u1) (by kernel_rfl) (HSx.out _ HD0.out) (fun hHeld => ?_)
  refine wpAnyH_take (i := 0) (v := _) rfl (by kernel_rfl) (by kernel_rfl) (by kernel_rfl) (fun _ _ _ h => h) (Or.inl ⟨by rfl, by (intro w hSw; (try dsimp only at hSw); go_simp; first | done | with_reducible rfl)⟩) hHeld ?_
  (try simp only [Act.put, List.setIfInBounds_toArray, List.set_cons_zero, List.set_cons_succ])
  refine wpAnyH_take (i := 1) (v := _) rfl (by kernel_rfl) (by kernel_rfl) (by kernel_rfl) (fun _ _ _ h => h) (Or.inl ⟨by rfl, by (intro w hSw; (try dsimp only at hSw); go_simp; first | done | with_reducible rfl)⟩) hHeld ?_
  (try simp only [Act.put, List.setIfInBounds_toArray, List.set_cons_zero, List.set_cons_succ])
  refine wpAnyH_take (i := 2) (v := _) rfl (by kernel_rfl) (by kernel_rfl) (by kernel_rfl) (fun _ _ _ h => h) (Or.inl ⟨by rfl, by (intro w hSw; (try dsimp only at hSw); go_simp; first | done | with_reducible rfl)⟩) hHeld ?_
  (try simp only [Act.put, List.setIfInBounds_toArray, List.set_cons_zero, List.set_cons_succ])
  refine wpAnyH_take (i := 3) (v := _) rfl (by kernel_rfl) (by kernel_rfl) (by kernel_rfl) (fun _ _ _ h => h) (Or.inl ⟨by rfl, by (intro w hSw; (try dsimp only at hSw); go_simp; first | done | with_reducible rfl)⟩) hHeld ?_
  (try simp only [Act.put, List.setIfInBounds_toArray, List.set_cons_zero, List.set_cons_succ])
  refine wpAnyH_take (i := 4) (v := _) rfl (by kernel_rfl) (by kernel_rfl) (by kernel_rfl) (fun _ _ _ h => h) (Or.inl ⟨by rfl, by (intro w hSw; (try dsimp only at hSw); go_simp; first | done | with_reducible rfl)⟩) hHeld ?_
  (try simp only [Act.put, List.setIfInBounds_toArray, List.set_cons_zero, List.set_cons_succ])
  refine wpAnyH_take (i := 5) (v := _) rfl (by kernel_rfl) (by kernel_rfl) (by kernel_rfl) (fun _ _ _ h => h) (Or.inl ⟨by rfl, by (intro w hSw; (try dsimp only at hSw); go_simp; first | done | with_reducible rfl)⟩) hHeld ?_
  (try simp only [Act.put, List.setIfInBounds_toArray, List.set_cons_zero, List.set_cons_succ])
  refine wpAnyH_take (i := 6) (v := _) rfl (by kernel_rfl) (by kernel_rfl) (by kernel_rfl) (fun _ _ _ h => h) (Or.inl ⟨by rfl, by (intro w hSw; (try dsimp only at hSw); go_simp; first | done | with_reducible rfl)⟩) hHeld ?_
  (try simp only [Act.put, List.setIfInBounds_toArray, List.set_cons_zero, List.set_cons_succ])
  refine wpAnyH_take (i := 7) (v := _) rfl (by kernel_rfl) (by kernel_rfl) (by kernel_rfl) (fun _ _ _ h => h) (Or.inl ⟨by rfl, by (intro w hSw; (try dsimp only at hSw); go_simp; first | done | with_reducible rfl)⟩) hHeld ?_
  (try simp only [Act.put, List.setIfInBounds_toArray, List.set_cons_zero, List.set_cons_succ])
  refine wpAnyH_take (i := 8) (v := _) rfl (by kernel_rfl) (by kernel_rfl) (by kernel_rfl) (fun _ _ _ h => h) (Or.inl ⟨by rfl, by (intro w hSw; (try dsimp only at hSw); go_simp; first | done | with_reducible rfl)⟩) hHeld ?_
  (try simp only [Act.put, List.setIfInBounds_toArray, List.set_cons_zero, List.set_cons_succ])
  refine wpAnyH_take (i := 9) (v := _) rfl (by kernel_rfl) (by kernel_rfl) (by kernel_rfl) (fun _ _ _ h => h) (Or.inl ⟨by rfl, by (intro w hSw; (try dsimp only at hSw); go_simp; first | done | with_reducible rfl)⟩) hHeld ?_
  (try simp only [Act.put, List.setIfInBounds_toArray, List.set_cons_zero, List.set_cons_succ])
  refine wpAnyH_take (i := 10) (v := _) rfl (by kernel_rfl) (by kernel_rfl) (by kernel_rfl) (fun _ _ _ h => h) (Or.inl ⟨by rfl, by (intro w hSw; (try dsimp only at hSw); go_simp; first | done | with_reducible rfl)⟩) hHeld ?_
  (try simp only [Act.put, List.setIfInBounds_toArray, List.set_cons_zero, List.set_cons_succ])
  generalize w0.drew = v0 at HBe0 HZe0 HD0 hHeld ⊢
  refine wpAnyH_ready (rs := [11]) (by kernel_rfl) (by simp) ?_
  refine AllReadyH.cons rfl (fun K hK => ?_) AllReadyH.nil
  go_simp
  go_at_call 163
  refine (C1.wordOf_c _ _).mono ?_
  rintro e v1 ⟨rfl, hw1⟩
  (try rw [hng])
  have hbx : Below v0.heap.size v0 v1 := hw1 ▸ Below.refl v0.heap.size v0
  clear hw1
  simp only
  have HBe1 := hid (HBe0.out.trans (hbx.mono HBe0.out.size))
  have HZe1 := hid (HZe0.out.on hbx)
  have HD1 := hid (HD0.out.trans (hbx.mono (by have := HD0.out.size; omega)))
  refine hK.out _ _ (HSx.out _ HD1.out) (fun hHeld => ?_)
  clear hK K
  (try simp only [Act.put, List.setIfInBounds_toArray, List.set_cons_zero, List.set_cons_succ])
  refine wpAnyH_ready (rs := [12]) (by kernel_rfl) (by simp) ?_
  refine AllReadyH.cons rfl (fun K hK => ?_) AllReadyH.nil
  go_simp
  go_at_call 131
  refine (numberTerm_c _ _).mono ?_
  rintro e v2 ⟨rfl, hbx⟩
  rw [nT_val]
  simp only
  have HBe2 := hid (HBe1.out.trans (hbx.mono HBe1.out.size))
  have HZe2 := hid (HZe1.out.on hbx)
  have HD2 := hid (HD1.out.trans (hbx.mono (by have := HD1.out.size; omega)))
  refine hK.out _ _ (HSx.out _ HD2.out) (fun hHeld => ?_)
  clear hK K
  (try simp only [Act.put, List.setIfInBounds_toArray, List.set_cons_zero, List.set_cons_succ])
  refine wpAnyH_ready (rs := [13]) (by kernel_rfl) (by simp) ?_
  refine AllReadyH.cons rfl (fun K hK => ?_) AllReadyH.nil
  go_simp
  go_at_call 99
  refine (HBn.out _).mono ?_
  rintro e v3 ⟨sN, cN, rfl, hrowN, hbx⟩
  rw [show tmVal (binT k0 ⟨#[43]⟩ (nT ((y1 + n) % 65536))) (.slice sN (binT k0 ⟨#[43]⟩ (nT ((y1 + n) % 65536))).kids.length cN) = .agg #[.int .i64 2, .int .i64 0, .string ⟨#[43]⟩, .slice sN 2 cN] from rfl]
  have HRowN := hid (show v3.ownsRow v2.heap.size 28 4 (.slice sN 2 cN) 2 (tCells [k0, nT ((y1 + n) % 65536)] [.slice sz lz cz, .slice none 0 0]) from hrowN)
  have HB23 := hid hbx
  clear hrowN
  simp only
  have HBe3 := hid (HBe2.out.trans (hbx.mono HBe2.out.size))
  have HZe3 := hid (HZe2.out.on hbx)
  have HD3 := hid (HD2.out.trans (hbx.mono (by have := HD2.out.size; omega)))
  refine hK.out _ _ (HSx.out _ HD3.out) (fun hHeld => ?_)
  clear hK K
  (try simp only [Act.put, List.setIfInBounds_toArray, List.set_cons_zero, List.set_cons_succ])
  refine wpAnyH_ready (rs := [14]) (by kernel_rfl) (by simp) ?_
  refine AllReadyH.cons rfl (fun K hK => ?_) AllReadyH.nil
  have r0 := HZe3.out.cell 0
  have r1 := HZe3.out.cell 1
  have r2 := HZe3.out.cell 2
  have r3 := HZe3.out.cell 3
  simp at r0 r1 r2 r3
  have hfr := HZe3.out.free
  have hlz := HZe3.out.lt
  go_simp
  refine hK.out _ _ (HSx.out _ (four_bel HD3.out (Nat.le_refl _) _ _ _ _)) (fun hHeld => ?_)
  clear hK K r0 r1 r2 r3 hfr
  (try simp only [Act.put, List.setIfInBounds_toArray, List.set_cons_zero, List.set_cons_succ])
  refine wpAnyH_ready (rs := [15]) (by kernel_rfl) (by simp) ?_
  refine AllReadyH.cons rfl (fun K hK => ?_) AllReadyH.nil
  go_simp
  refine hK.out _ _ hHeld (fun _ => ?_)
  clear hK K
  (try simp only [Act.put, List.setIfInBounds_toArray, List.set_cons_zero, List.set_cons_succ])
  refine wpAnyH_done (by kernel_rfl) ?_ _
  go_wp2_with fail
  refine bodyPost_ret (v := .tuple #[.agg #[.int .i64 2, .int .i64 0, .string ⟨#[43]⟩, .slice sN 2 cN], .bool true]) ?_ rfl ?_
  · exact results_cell_tmp Tryd.results151 _ _ (w.heap.size + 1) _ _ rfl (four_row HZe3.out (.int .i64 2) (.int .i64 0) (.string ⟨#[43]⟩) (.slice sN 2 cN)) Tryd.underlying28 size_term
  have hbf := four_bel HBe3.out (show w.heap.size ≤ w.heap.size + 1 by omega) (.int .i64 2) (.int .i64 0) (.string ⟨#[43]⟩) (.slice sN 2 cN)
  rw [HRt.out]
  have hz0 := HZe2.out.lt
  have hz2 := HB23.out.size
  have hlo := HLo.out
  have hhi := HHi.out
  have hlw := HLw.out
  obtain ⟨p1, p2⟩ := HP12.out
  have hrw := own_four HRowN.out hz0 (.int .i64 2) (.int .i64 0) (.string ⟨#[43]⟩) (.slice sN 2 cN)
  refine fold_end (t := binT k0 ⟨#[43]⟩ (nT ((y1 + n) % 65536))) (a := sN) (c := cN) rfl (fun r hr => ?_) hbf rfl
  obtain rfl : binT k0 ⟨#[43]⟩ (nT ((y1 + n) % 65536)) = r := Option.some.inj hr
  have hbs := HBe2.out.size
  have hgg := HG.out
  exact ⟨rfl, fun x hx hk => KOwn.mono (own_bin (f1 := v2.heap.size) (g1 := v2.heap.size) (own_same hrw (fun g hg => hk g (.inr (by have := (hrw.lt g hg).1; omega)) ((hrw.lt g hg).2))) (keep_old HK4.out (show _ ≤ G by omega) HG.out hbf x hk) (KOwn.empty (Nat.le_refl _) ⟨by simp, .inl ⟨rfl, rfl⟩⟩ (fun r h => by cases h)) (by omega) (by omega) (by omega) (by omega) (.inl (by omega)) (by omega) (by rw [four_size] at hx; omega)) (by omega)⟩
end Go.Proofs.YtffibmlgdacafaaDoor.Um
