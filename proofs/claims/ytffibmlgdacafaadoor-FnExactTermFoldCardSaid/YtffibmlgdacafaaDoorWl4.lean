/- Simpler terms: a term with an operator and a word behind it, by the model: two numbers. -/
import Derived.Test.YtffibmlgdacafaaDoorWl1
set_option linter.unusedSimpArgs false
set_option linter.unusedVariables false
namespace Go.Proofs.YtffibmlgdacafaaDoor.Um
open Go.RowKit Pl Ft Mm In C2 Im

set_option maxRecDepth 100000 in
set_option maxHeartbeats 10000000 in
theorem right_add_1 (m h : Nat) (P : Nat → Prop) (a : Tm) (va : Value) (w : World) (hs : shape h a = true) (ha : KP P w m va a.kids) :
    Calls Tryd.prog 145 #[.string ⟨#[43]⟩, tmVal a va, .int .i64 1] w (FoldR (m + 1) P (rightT a ⟨#[43]⟩ 1) w) := by
  obtain ⟨sa, ca, rfl⟩ := ha.slice
  have HA := hid ha
  have HSh := hid hs
  clear ha hs
  obtain ⟨x0, x1, x2, la, hp⟩ := Pt.of a
  have HP := hid hp
  rw [hp.val]
  rw [hp.l] at HA ⊢
  clear hp
  have HB00 := hid ((Below.refl w.heap.size w).alloc (Nat.le_refl _) (.cells #[.int .i64 x0, .int .i64 x1, .string x2, .slice sa la ca] 28))
  have HB0 := hid (HB00.out.alloc HB00.out.size (.cells #[.int .i64 0, .int .i64 0, .string ⟨#[]⟩, .slice none 0 0] 28))
  have HZ0 := hid (Row.new (w.alloc (.cells #[.int .i64 x0, .int .i64 x1, .string x2, .slice sa la ca] 28)) 28 #[.int .i64 0, .int .i64 0, .string ⟨#[]⟩, .slice none 0 0])
  have HX0 := hid ((Row.new w 28 #[.int .i64 x0, .int .i64 x1, .string x2, .slice sa la ca]).alloc (.cells #[.int .i64 0, .int .i64 0, .string ⟨#[]⟩, .slice none 0 0] 28))
  have HBa := hid (HB00.out.alloc HB00.out.size (.cells #[.int .i64 x0, .int .i64 x1, .string x2, .slice sa la ca] 28))
  have HZa := hid (Row.new (w.alloc (.cells #[.int .i64 x0, .int .i64 x1, .string x2, .slice sa la ca] 28)) 28 #[.int .i64 x0, .int .i64 x1, .string x2, .slice sa la ca])
  simp only [World.size_alloc] at HZ0 HZa
  have HRn := hid (show rightT a ⟨#[43]⟩ 1 = if a.kind = 2 ∧ opIs a.text [[43]] = true ∧ (a.kids.getD 1 tz).kind = 0 then some (binT (a.kids.getD 0 tz) ⟨#[43]⟩ (nT (((a.kids.getD 1 tz).num + 1) % 65536))) else none by simp [rightT, opIs])
  by_cases h2 : x0 = 2
  case neg =>
    have HNo := hid (show ¬ (a.kind = 2 ∧ opIs a.text [[43]] = true ∧ (a.kids.getD 1 tz).kind = 0) from fun h => h2 (HP.out.k.symm.trans h.1))
    have HRt := hid (show rightT a ⟨#[43]⟩ 1 = none by rw [HRn.out, if_neg (fun h => HNo.out h)])
    have hb2 : (x0 == 2) = false := by simpa using h2
    go_enter Tryd.func145, Tryd.ntmps145
    go_wp2_with fail
    refine bodyPost_ret (v := .tuple #[.agg #[.int .i64 0, .int .i64 0, .string ⟨#[]⟩, .slice none 0 0], .bool false]) ?_ rfl ?_
    · exact results_cell_tmp Tryd.results145 _ _ (w.heap.size + 1) _ _ rfl HZ0.out Tryd.underlying28 size_term
    · rw [HRt.out]
      exact foldr_end (t := tz) (a := none) (c := 0) rfl (fun r hr => by cases hr) HB0.out rfl
  have hf := shape_form_of HSh.out
  obtain ⟨hl2, ho, _⟩ := bin_form hf (HP.out.k.trans h2)
  rw [HP.out.s] at ho
  have hla : la = 2 := HP.out.l.symm.trans hl2
  subst h2 hla
  obtain ⟨m', r, o, cap', rfl, hv, hg, hc⟩ := HA.out.part (by omega)
  rw [hl2] at hv
  simp only [Value.slice.injEq, true_and] at hv
  obtain ⟨rfl, rfl⟩ := hv
  obtain ⟨u0, c0, c1, c2, c3, k4⟩ := hc 0 (by omega)
  obtain ⟨u1, e0, e1, e2, e3, _⟩ := hc 1 (by omega)
  simp only [Nat.zero_mul, Nat.one_mul, Nat.add_zero] at c0 c1 c2 c3 e0 e1 e2 e3
  have hks := (fun j hj => HSh.out |> fun hs => (shape_kids hs j hj))
  have hs1 := hks 1 (by omega)
  obtain ⟨k0, hk0⟩ : ∃ t, a.kids.getD 0 tz = t := ⟨_, rfl⟩
  obtain ⟨k1, hk1⟩ : ∃ t, a.kids.getD 1 tz = t := ⟨_, rfl⟩
  rw [hk0] at c0 c1 c2 k4 HRn
  rw [hk1] at e0 e1 e2 HRn hs1
  obtain ⟨su, cu, rfl⟩ := k4.slice
  obtain ⟨z0, z1, z2, lz, hq0⟩ := Pt.of k0
  obtain ⟨y0, y1, y2, ly, hq1⟩ := Pt.of k1
  have HQ0 := hid hq0
  have HQ1 := hid hq1
  rw [hq0.k] at c0
  rw [hq0.n] at c1
  rw [hq0.s] at c2
  rw [hq0.l] at c3 k4
  rw [hq1.k] at e0
  rw [hq1.n] at e1 HRn
  rw [hq1.s] at e2
  have HRn2 := hid (show rightT a ⟨#[43]⟩ 1 = if x2.data.toList = [43] ∧ y0 = 0 then some (binT k0 ⟨#[43]⟩ (nT ((y1 + 1) % 65536))) else none by rw [HRn.out, HP.out.k, HP.out.s, HQ1.out.k]; simp [opIs])
  have HY1 := hid (show y0 = 0 → 0 ≤ y1 ∧ y1 ≤ 65535 from fun h => by have := num_of hs1 (by rw [hq1.k]; exact h); rwa [hq1.n] at this)
  have HK4 := hid k4
  have HPc := hid (fun (wx : World) (hb : Below w.heap.size w wx) => (show wx.cell? ⟨r, o, none⟩ = some (.int .i64 z0) ∧ wx.cell? ⟨r, o + 1, none⟩ = some (.int .i64 z1) ∧ wx.cell? ⟨r, o + 2, none⟩ = some (.string z2) ∧ wx.cell? ⟨r, o + 3, none⟩ = some (.slice su lz cu) ∧ wx.cell? ⟨r, o + 4, none⟩ = some (.int .i64 y0) ∧ wx.cell? ⟨r, o + 4 + 1, none⟩ = some (.int .i64 y1) ∧ wx.cell? ⟨r, o + 4 + 2, none⟩ = some (.string y2) ∧ wx.cell? ⟨r, o + 4 + 3, none⟩ = some u1 from ⟨(hb.cell (p := ⟨r, o, none⟩) hg).trans c0, (hb.cell (p := ⟨r, o + 1, none⟩) hg).trans c1, (hb.cell (p := ⟨r, o + 2, none⟩) hg).trans c2, (hb.cell (p := ⟨r, o + 3, none⟩) hg).trans c3, (hb.cell (p := ⟨r, o + 4, none⟩) hg).trans e0, (hb.cell (p := ⟨r, o + 4 + 1, none⟩) hg).trans e1, (hb.cell (p := ⟨r, o + 4 + 2, none⟩) hg).trans e2, (hb.cell (p := ⟨r, o + 4 + 3, none⟩) hg).trans e3⟩))
  have HBn := hid (fun (wx : World) => (show Calls Tryd.prog 54 #[.string ⟨#[43]⟩, .agg #[.int .i64 z0, .int .i64 z1, .string z2, .slice su lz cu], .agg #[.int .i64 0, .int .i64 ((y1 + 1) % 65536), .string ⟨#[]⟩, .slice none 0 0]] wx (MadePost (binT k0 ⟨#[43]⟩ (nT ((y1 + 1) % 65536))) [.slice su lz cu, .slice none 0 0] wx) from HQ0.out.val (.slice su lz cu) ▸ bin_c ⟨#[43]⟩ k0 (nT ((y1 + 1) % 65536)) (.slice su lz cu) (.slice none 0 0) wx))
  clear hf hl2 hc c0 c1 c2 c3 e0 e1 e2 e3 k4 hks hs1 hk0 hk1 hq0 hq1 HRn
  obtain ⟨q0, q1, q2, q3, q4, q5, q6, q7⟩ := HPc.out _ HB0.out
  rcases op_lit ho with rfl | rfl | rfl | rfl | rfl | rfl | rfl | rfl | rfl
  all_goals clear ho
  case inr.inl | inr.inr.inl | inr.inr.inr.inl | inr.inr.inr.inr.inl | inr.inr.inr.inr.inr.inl | inr.inr.inr.inr.inr.inr.inl | inr.inr.inr.inr.inr.inr.inr.inl | inr.inr.inr.inr.inr.inr.inr.inr =>
    have HRt := hid (show rightT a ⟨#[43]⟩ 1 = none by rw [HRn2.out]; simp)
    go_enter Tryd.func145, Tryd.ntmps145
    go_wp2_with fail
    refine bodyPost_ret (v := .tuple #[.agg #[.int .i64 0, .int .i64 0, .string ⟨#[]⟩, .slice none 0 0], .bool false]) ?_ rfl ?_
    · exact results_cell_tmp Tryd.results145 _ _ (w.heap.size + 1) _ _ rfl HZ0.out Tryd.underlying28 size_term
    · rw [HRt.out]
      exact foldr_end (t := tz) (a := none) (c := 0) rfl (fun r hr => by cases hr) HB0.out rfl
  by_cases hy : y0 = 0
  case neg =>
    have hyb : (y0 == 0) = false := by simpa using hy
    have HRt := hid (show rightT a ⟨#[43]⟩ 1 = none by rw [HRn2.out, if_neg (fun h => hy h.2)])
    go_enter Tryd.func145, Tryd.ntmps145
    go_wp2_with fail
    refine bodyPost_ret (v := .tuple #[.agg #[.int .i64 0, .int .i64 0, .string ⟨#[]⟩, .slice none 0 0], .bool false]) ?_ rfl ?_
    · exact results_cell_tmp Tryd.results145 _ _ (w.heap.size + 1) _ _ rfl HZ0.out Tryd.underlying28 size_term
    · rw [HRt.out]
      exact foldr_end (t := tz) (a := none) (c := 0) rfl (fun r hr => by cases hr) HB0.out rfl
  subst hy
  have hw1 := HY1.out rfl
  have HRt := hid (show rightT a ⟨#[43]⟩ 1 = some (binT k0 ⟨#[43]⟩ (nT ((y1 + 1) % 65536))) by rw [HRn2.out, if_pos ⟨rfl, rfl⟩])
  clear q0 q1 q2 q3 q4 q5 q6 q7
  have hng : IntKind.wrap .i64 (y1 + 1) = y1 + 1 := IntWalk.i64_in _ (by omega)
  go_enter Tryd.func145, Tryd.ntmps145
  obtain ⟨q0, q1, q2, q3, q4, q5, q6, q7⟩ := HPc.out _ HB0.out
  go_upto_region 16 with fail
  clear q0 q1 q2 q3 q4 q5 q6 q7
  generalize ((w.alloc (.cells #[.int .i64 2, .int .i64 x1, .string ⟨#[43]⟩, .slice (some ⟨r, o, none⟩) 2 ca] 28)).alloc (.cells #[.int .i64 0, .int .i64 0, .string ⟨#[]⟩, .slice none 0 0] 28)) = w0 at HB0 HX0 HZ0 ⊢
  have HBe0 := hid (HB0.out.drew)
  have HZe0 := hid (HZ0.out.drew)
  have hx0 := HZ0.out.lt
  have HSx := hid (fun (wx : World) (hbx : Below (w.heap.size + 1) w0 wx) => (show wx.cell? ⟨w.heap.size, 0, none⟩ = some (.int .i64 2) ∧ wx.cell? ⟨w.heap.size, 1, none⟩ = some (.int .i64 x1) ∧ wx.cell? ⟨w.heap.size, 2, none⟩ = some (.string ⟨#[43]⟩) ∧ wx.cell? ⟨w.heap.size, 3, none⟩ = some (.slice (some ⟨r, o, none⟩) 2 ca) ∧ wx.cell? ⟨r, o, none⟩ = some (.int .i64 z0) ∧ wx.cell? ⟨r, o + 1, none⟩ = some (.int .i64 z1) ∧ wx.cell? ⟨r, o + 2, none⟩ = some (.string z2) ∧ wx.cell? ⟨r, o + 3, none⟩ = some (.slice su lz cu) ∧ wx.cell? ⟨r, o + 4, none⟩ = some (.int .i64 0) ∧ wx.cell? ⟨r, o + 4 + 1, none⟩ = some (.int .i64 y1) ∧ wx.cell? ⟨r, o + 4 + 2, none⟩ = some (.string y2) ∧ wx.cell? ⟨r, o + 4 + 3, none⟩ = some u1 from by
    have c0 := (HX0.out.below hbx (Nat.lt_succ_self _)).cell 0
    have c1 := (HX0.out.below hbx (Nat.lt_succ_self _)).cell 1
    have c2 := (HX0.out.below hbx (Nat.lt_succ_self _)).cell 2
    have c3 := (HX0.out.below hbx (Nat.lt_succ_self _)).cell 3
    obtain ⟨p0, p1, p2, p3, p4, p5, p6, p7⟩ := HPc.out wx (HB0.out.trans (hbx.mono (by have := HB0.out.size; omega)))
    exact ⟨c0, c1, c2, c3, p0, p1, p2, p3, p4, p5, p6, p7⟩))
  have HD0 := hid (show Below (w.heap.size + 1) w0 w0.drew from (Below.refl w0.heap.size w0).drew.mono (by omega))
  refine wp_region_held_drew (S := fun w' => w'.cell? ⟨w.heap.size, 0, none⟩ = some (.int .i64 2) ∧ w'.cell? ⟨w.heap.size, 1, none⟩ = some (.int .i64 x1) ∧ w'.cell? ⟨w.heap.size, 2, none⟩ = some (.string ⟨#[43]⟩) ∧ w'.cell? ⟨w.heap.size, 3, none⟩ = some (.slice (some ⟨r, o, none⟩) 2 ca) ∧ w'.cell? ⟨r, o, none⟩ = some (.int .i64 z0) ∧ w'.cell? ⟨r, o + 1, none⟩ = some (.int .i64 z1) ∧ w'.cell? ⟨r, o + 2, none⟩ = some (.string z2) ∧ w'.cell? ⟨r, o + 3, none⟩ = some (.slice su lz cu) ∧ w'.cell? ⟨r, o + 4, none⟩ = some (.int .i64 0) ∧ w'.cell? ⟨r, o + 4 + 1, none⟩ = some (.int .i64 y1) ∧ w'.cell? ⟨r, o + 4 + 2, none⟩ = some (.string y2) ∧ w'.cell? ⟨r, o + 4 + 3, none⟩ = some u1) (by kernel_rfl) (HSx.out _ HD0.out) (fun hHeld => ?_)
  refine wpAnyH_take (i := 0) (v := _) rfl (by kernel_rfl) (by kernel_rfl) (by kernel_rfl) (fun _ _ _ h => h) (Or.inl ⟨by rfl, by (intro w hSw; (try dsimp only at hSw); go_simp; first | done | with_reducible rfl)⟩) hHeld ?_
  (try simp only [Act.put, List.setIfInBounds_toArray, List.set_cons_zero, List.set_cons_succ])
  refine wpAnyH_take (i := 1) (v := _) rfl (by kernel_rfl) (by kernel_rfl) (by kernel_rfl) (fun _ _ _ h => h) (Or.inl ⟨by rfl, by (intro w hSw; (try dsimp only at hSw); go_simp; first | done | with_reducible rfl)⟩) hHeld ?_
  (try simp only [Act.put, List.setIfInBounds_toArray, List.set_cons_zero, List.set_cons_succ])
  refine wpAnyH_take (i := 2) (v := _) rfl (by kernel_rfl) (by kernel_rfl) (by kernel_rfl) (fun _ _ _ h => h) (Or.inl ⟨by rfl, by (intro w hSw; (try dsimp only at hSw); go_simp; first | done | with_reducible rfl)⟩) hHeld ?_
  (try simp only [Act.put, List.setIfInBounds_toArray, List.set_cons_zero, List.set_cons_succ])
  refine wpAnyH_take (i := 3) (v := _) rfl (by kernel_rfl) (by kernel_rfl) (by kernel_rfl) (fun _ _ _ h => h) (Or.inl ⟨by rfl, by (intro w hSw; (try dsimp only at hSw); go_simp; first | done | with_reducible rfl)⟩) hHeld ?_
  (try simp only [Act.put, List.setIfInBounds_toArray, List.set_cons_zero, List.set_cons_succ])
  refine wpAnyH_take (i := 4) (v := _) rfl (by kernel_rfl) (by kernel_rfl) (by kernel_rfl) (fun _ _ _ h => h) (Or.inl ⟨by rfl, by (intro w hSw; (try dsimp only at hSw); go_simp; first | done | with_reducible rfl)⟩) hHeld ?_
  (try simp only [Act.put, List.setIfInBounds_toArray, List.set_cons_zero, List.set_cons_succ])
  refine wpAnyH_take (i := 5) (v := _) rfl (by kernel_rfl) (by kernel_rfl) (by kernel_rfl) (fun _ _ _ h => h) (Or.inl ⟨by rfl, by (intro w hSw; (try dsimp only at hSw); go_simp; first | done | with_reducible rfl)⟩) hHeld ?_
  (try simp only [Act.put, List.setIfInBounds_toArray, List.set_cons_zero, List.set_cons_succ])
  refine wpAnyH_take (i := 6) (v := _) rfl (by kernel_rfl) (by kernel_rfl) (by kernel_rfl) (fun _ _ _ h => h) (Or.inl ⟨by rfl, by (intro w hSw; (try dsimp only at hSw); go_simp; first | done | with_reducible rfl)⟩) hHeld ?_
  (try simp only [Act.put, List.setIfInBounds_toArray, List.set_cons_zero, List.set_cons_succ])
  refine wpAnyH_take (i := 7) (v := _) rfl (by kernel_rfl) (by kernel_rfl) (by kernel_rfl) (fun _ _ _ h => h) (Or.inl ⟨by rfl, by (intro w hSw; (try dsimp only at hSw); go_simp; first | done | with_reducible rfl)⟩) hHeld ?_
  (try simp only [Act.put, List.setIfInBounds_toArray, List.set_cons_zero, List.set_cons_succ])
  refine wpAnyH_take (i := 8) (v := _) rfl (by kernel_rfl) (by kernel_rfl) (by kernel_rfl) (fun _ _ _ h => h) (Or.inl ⟨by rfl, by (intro w hSw; (try dsimp only at hSw); go_simp; first | done | with_reducible rfl)⟩) hHeld ?_
  (try simp only [Act.put, List.setIfInBounds_toArray, List.set_cons_zero, List.set_cons_succ])
  refine wpAnyH_take (i := 9) (v := _) rfl (by kernel_rfl) (by kernel_rfl) (by kernel_rfl) (fun _ _ _ h => h) (Or.inl ⟨by rfl, by (intro w hSw; (try dsimp only at hSw); go_simp; first | done | with_reducible rfl)⟩) hHeld ?_
  (try simp only [Act.put, List.setIfInBounds_toArray, List.set_cons_zero, List.set_cons_succ])
  refine wpAnyH_take (i := 10) (v := _) rfl (by kernel_rfl) (by kernel_rfl) (by kernel_rfl) (fun _ _ _ h => h) (Or.inl ⟨by rfl, by (intro w hSw; (try dsimp only at hSw); go_simp; first | done | with_reducible rfl)⟩) hHeld ?_
  (try simp only [Act.put, List.setIfInBounds_toArray, List.set_cons_zero, List.set_cons_succ])
  generalize w0.drew = v0 at HBe0 HZe0 HD0 hHeld ⊢
  refine wpAnyH_ready (rs := [11]) (by kernel_rfl) (by simp) ?_
  refine AllReadyH.cons rfl (fun K hK => ?_) AllReadyH.nil
  go_simp
  go_at_call 93
  refine (num_c _ _).mono ?_
  rintro e v1 ⟨rfl, hbx⟩
  (try rw [hng])
  rw [nT_val]
  simp only
  have HBe1 := hid (HBe0.out.trans (hbx.mono HBe0.out.size))
  have HZe1 := hid (HZe0.out.on hbx)
  have HD1 := hid (HD0.out.trans (hbx.mono (by have := HD0.out.size; omega)))
  refine hK.out _ _ (HSx.out _ HD1.out) (fun hHeld => ?_)
  clear hK K
  (try simp only [Act.put, List.setIfInBounds_toArray, List.set_cons_zero, List.set_cons_succ])
  refine wpAnyH_ready (rs := [12]) (by kernel_rfl) (by simp) ?_
  refine AllReadyH.cons rfl (fun K hK => ?_) AllReadyH.nil
  go_simp
  go_at_call 54
  refine (HBn.out _).mono ?_
  rintro e v2 ⟨sN, cN, rfl, hrowN, hbx⟩
  rw [show tmVal (binT k0 ⟨#[43]⟩ (nT ((y1 + 1) % 65536))) (.slice sN (binT k0 ⟨#[43]⟩ (nT ((y1 + 1) % 65536))).kids.length cN) = .agg #[.int .i64 2, .int .i64 0, .string ⟨#[43]⟩, .slice sN 2 cN] from rfl]
  have HRowN := hid (show v2.ownsRow v1.heap.size 28 4 (.slice sN 2 cN) 2 (tCells [k0, nT ((y1 + 1) % 65536)] [.slice su lz cu, .slice none 0 0]) from hrowN)
  clear hrowN
  simp only
  have HBe2 := hid (HBe1.out.trans (hbx.mono HBe1.out.size))
  have HZe2 := hid (HZe1.out.on hbx)
  have HD2 := hid (HD1.out.trans (hbx.mono (by have := HD1.out.size; omega)))
  refine hK.out _ _ (HSx.out _ HD2.out) (fun hHeld => ?_)
  clear hK K
  (try simp only [Act.put, List.setIfInBounds_toArray, List.set_cons_zero, List.set_cons_succ])
  refine wpAnyH_ready (rs := [13]) (by kernel_rfl) (by simp) ?_
  refine AllReadyH.cons rfl (fun K hK => ?_) AllReadyH.nil
  have r0 := HZe2.out.cell 0
  have r1 := HZe2.out.cell 1
  have r2 := HZe2.out.cell 2
  have r3 := HZe2.out.cell 3
  simp at r0 r1 r2 r3
  have hfr := HZe2.out.free
  have hlz := HZe2.out.lt
  go_simp
  refine hK.out _ _ (HSx.out _ (four_bel HD2.out (Nat.le_refl _) _ _ _ _)) (fun hHeld => ?_)
  clear hK K r0 r1 r2 r3 hfr
  (try simp only [Act.put, List.setIfInBounds_toArray, List.set_cons_zero, List.set_cons_succ])
  refine wpAnyH_ready (rs := [14]) (by kernel_rfl) (by simp) ?_
  refine AllReadyH.cons rfl (fun K hK => ?_) AllReadyH.nil
  go_simp
  refine hK.out _ _ hHeld (fun _ => ?_)
  clear hK K
  (try simp only [Act.put, List.setIfInBounds_toArray, List.set_cons_zero, List.set_cons_succ])
  refine wpAnyH_done (by kernel_rfl) ?_ _
  go_wp2_with fail
  refine bodyPost_ret (v := .tuple #[.agg #[.int .i64 2, .int .i64 0, .string ⟨#[43]⟩, .slice sN 2 cN], .bool true]) ?_ rfl ?_
  · exact results_cell_tmp Tryd.results145 _ _ (w.heap.size + 1) _ _ rfl (four_row HZe2.out (.int .i64 2) (.int .i64 0) (.string ⟨#[43]⟩) (.slice sN 2 cN)) Tryd.underlying28 size_term
  have hbf := four_bel HBe2.out (show w.heap.size ≤ w.heap.size + 1 by omega) (.int .i64 2) (.int .i64 0) (.string ⟨#[43]⟩) (.slice sN 2 cN)
  rw [HRt.out]
  have hz0 := HZe1.out.lt
  have hrw := own_four HRowN.out hz0 (.int .i64 2) (.int .i64 0) (.string ⟨#[43]⟩) (.slice sN 2 cN)
  have hbs := HBe1.out.size
  refine foldr_end (t := binT k0 ⟨#[43]⟩ (nT ((y1 + 1) % 65536))) (a := sN) (c := cN) rfl (fun r hr => ?_) hbf rfl
  obtain rfl : binT k0 ⟨#[43]⟩ (nT ((y1 + 1) % 65536)) = r := Option.some.inj hr
  exact ⟨rfl, KP.mono (kp_bin hrw (fun b hb => .inr (by omega)) (HK4.out.old hbf) (kp_nil m')) (by omega)⟩
set_option maxRecDepth 100000 in
set_option maxHeartbeats 10000000 in
theorem right_add_65535 (m h : Nat) (P : Nat → Prop) (a : Tm) (va : Value) (w : World) (hs : shape h a = true) (ha : KP P w m va a.kids) :
    Calls Tryd.prog 145 #[.string ⟨#[43]⟩, tmVal a va, .int .i64 65535] w (FoldR (m + 1) P (rightT a ⟨#[43]⟩ 65535) w) := by
  obtain ⟨sa, ca, rfl⟩ := ha.slice
  have HA := hid ha
  have HSh := hid hs
  clear ha hs
  obtain ⟨x0, x1, x2, la, hp⟩ := Pt.of a
  have HP := hid hp
  rw [hp.val]
  rw [hp.l] at HA ⊢
  clear hp
  have HB00 := hid ((Below.refl w.heap.size w).alloc (Nat.le_refl _) (.cells #[.int .i64 x0, .int .i64 x1, .string x2, .slice sa la ca] 28))
  have HB0 := hid (HB00.out.alloc HB00.out.size (.cells #[.int .i64 0, .int .i64 0, .string ⟨#[]⟩, .slice none 0 0] 28))
  have HZ0 := hid (Row.new (w.alloc (.cells #[.int .i64 x0, .int .i64 x1, .string x2, .slice sa la ca] 28)) 28 #[.int .i64 0, .int .i64 0, .string ⟨#[]⟩, .slice none 0 0])
  have HX0 := hid ((Row.new w 28 #[.int .i64 x0, .int .i64 x1, .string x2, .slice sa la ca]).alloc (.cells #[.int .i64 0, .int .i64 0, .string ⟨#[]⟩, .slice none 0 0] 28))
  have HBa := hid (HB00.out.alloc HB00.out.size (.cells #[.int .i64 x0, .int .i64 x1, .string x2, .slice sa la ca] 28))
  have HZa := hid (Row.new (w.alloc (.cells #[.int .i64 x0, .int .i64 x1, .string x2, .slice sa la ca] 28)) 28 #[.int .i64 x0, .int .i64 x1, .string x2, .slice sa la ca])
  simp only [World.size_alloc] at HZ0 HZa
  have HRn := hid (show rightT a ⟨#[43]⟩ 65535 = if a.kind = 2 ∧ opIs a.text [[43]] = true ∧ (a.kids.getD 1 tz).kind = 0 then some (binT (a.kids.getD 0 tz) ⟨#[43]⟩ (nT (((a.kids.getD 1 tz).num + 65535) % 65536))) else none by simp [rightT, opIs])
  by_cases h2 : x0 = 2
  case neg =>
    have HNo := hid (show ¬ (a.kind = 2 ∧ opIs a.text [[43]] = true ∧ (a.kids.getD 1 tz).kind = 0) from fun h => h2 (HP.out.k.symm.trans h.1))
    have HRt := hid (show rightT a ⟨#[43]⟩ 65535 = none by rw [HRn.out, if_neg (fun h => HNo.out h)])
    have hb2 : (x0 == 2) = false := by simpa using h2
    go_enter Tryd.func145, Tryd.ntmps145
    go_wp2_with fail
    refine bodyPost_ret (v := .tuple #[.agg #[.int .i64 0, .int .i64 0, .string ⟨#[]⟩, .slice none 0 0], .bool false]) ?_ rfl ?_
    · exact results_cell_tmp Tryd.results145 _ _ (w.heap.size + 1) _ _ rfl HZ0.out Tryd.underlying28 size_term
    · rw [HRt.out]
      exact foldr_end (t := tz) (a := none) (c := 0) rfl (fun r hr => by cases hr) HB0.out rfl
  have hf := shape_form_of HSh.out
  obtain ⟨hl2, ho, _⟩ := bin_form hf (HP.out.k.trans h2)
  rw [HP.out.s] at ho
  have hla : la = 2 := HP.out.l.symm.trans hl2
  subst h2 hla
  obtain ⟨m', r, o, cap', rfl, hv, hg, hc⟩ := HA.out.part (by omega)
  rw [hl2] at hv
  simp only [Value.slice.injEq, true_and] at hv
  obtain ⟨rfl, rfl⟩ := hv
  obtain ⟨u0, c0, c1, c2, c3, k4⟩ := hc 0 (by omega)
  obtain ⟨u1, e0, e1, e2, e3, _⟩ := hc 1 (by omega)
  simp only [Nat.zero_mul, Nat.one_mul, Nat.add_zero] at c0 c1 c2 c3 e0 e1 e2 e3
  have hks := (fun j hj => HSh.out |> fun hs => (shape_kids hs j hj))
  have hs1 := hks 1 (by omega)
  obtain ⟨k0, hk0⟩ : ∃ t, a.kids.getD 0 tz = t := ⟨_, rfl⟩
  obtain ⟨k1, hk1⟩ : ∃ t, a.kids.getD 1 tz = t := ⟨_, rfl⟩
  rw [hk0] at c0 c1 c2 k4 HRn
  rw [hk1] at e0 e1 e2 HRn hs1
  obtain ⟨su, cu, rfl⟩ := k4.slice
  obtain ⟨z0, z1, z2, lz, hq0⟩ := Pt.of k0
  obtain ⟨y0, y1, y2, ly, hq1⟩ := Pt.of k1
  have HQ0 := hid hq0
  have HQ1 := hid hq1
  rw [hq0.k] at c0
  rw [hq0.n] at c1
  rw [hq0.s] at c2
  rw [hq0.l] at c3 k4
  rw [hq1.k] at e0
  rw [hq1.n] at e1 HRn
  rw [hq1.s] at e2
  have HRn2 := hid (show rightT a ⟨#[43]⟩ 65535 = if x2.data.toList = [43] ∧ y0 = 0 then some (binT k0 ⟨#[43]⟩ (nT ((y1 + 65535) % 65536))) else none by rw [HRn.out, HP.out.k, HP.out.s, HQ1.out.k]; simp [opIs])
  have HY1 := hid (show y0 = 0 → 0 ≤ y1 ∧ y1 ≤ 65535 from fun h => by have := num_of hs1 (by rw [hq1.k]; exact h); rwa [hq1.n] at this)
  have HK4 := hid k4
  have HPc := hid (fun (wx : World) (hb : Below w.heap.size w wx) => (show wx.cell? ⟨r, o, none⟩ = some (.int .i64 z0) ∧ wx.cell? ⟨r, o + 1, none⟩ = some (.int .i64 z1) ∧ wx.cell? ⟨r, o + 2, none⟩ = some (.string z2) ∧ wx.cell? ⟨r, o + 3, none⟩ = some (.slice su lz cu) ∧ wx.cell? ⟨r, o + 4, none⟩ = some (.int .i64 y0) ∧ wx.cell? ⟨r, o + 4 + 1, none⟩ = some (.int .i64 y1) ∧ wx.cell? ⟨r, o + 4 + 2, none⟩ = some (.string y2) ∧ wx.cell? ⟨r, o + 4 + 3, none⟩ = some u1 from ⟨(hb.cell (p := ⟨r, o, none⟩) hg).trans c0, (hb.cell (p := ⟨r, o + 1, none⟩) hg).trans c1, (hb.cell (p := ⟨r, o + 2, none⟩) hg).trans c2, (hb.cell (p := ⟨r, o + 3, none⟩) hg).trans c3, (hb.cell (p := ⟨r, o + 4, none⟩) hg).trans e0, (hb.cell (p := ⟨r, o + 4 + 1, none⟩) hg).trans e1, (hb.cell (p := ⟨r, o + 4 + 2, none⟩) hg).trans e2, (hb.cell (p := ⟨r, o + 4 + 3, none⟩) hg).trans e3⟩))
  have HBn := hid (fun (wx : World) => (show Calls Tryd.prog 54 #[.string ⟨#[43]⟩, .agg #[.int .i64 z0, .int .i64 z1, .string z2, .slice su lz cu], .agg #[.int .i64 0, .int .i64 ((y1 + 65535) % 65536), .string ⟨#[]⟩, .slice none 0 0]] wx (MadePost (binT k0 ⟨#[43]⟩ (nT ((y1 + 65535) % 65536))) [.slice su lz cu, .slice none 0 0] wx) from HQ0.out.val (.slice su lz cu) ▸ bin_c ⟨#[43]⟩ k0 (nT ((y1 + 65535) % 65536)) (.slice su lz cu) (.slice none 0 0) wx))
  clear hf hl2 hc c0 c1 c2 c3 e0 e1 e2 e3 k4 hks hs1 hk0 hk1 hq0 hq1 HRn
  obtain ⟨q0, q1, q2, q3, q4, q5, q6, q7⟩ := HPc.out _ HB0.out
  rcases op_lit ho with rfl | rfl | rfl | rfl | rfl | rfl | rfl | rfl | rfl
  all_goals clear ho
  case inr.inl | inr.inr.inl | inr.inr.inr.inl | inr.inr.inr.inr.inl | inr.inr.inr.inr.inr.inl | inr.inr.inr.inr.inr.inr.inl | inr.inr.inr.inr.inr.inr.inr.inl | inr.inr.inr.inr.inr.inr.inr.inr =>
    have HRt := hid (show rightT a ⟨#[43]⟩ 65535 = none by rw [HRn2.out]; simp)
    go_enter Tryd.func145, Tryd.ntmps145
    go_wp2_with fail
    refine bodyPost_ret (v := .tuple #[.agg #[.int .i64 0, .int .i64 0, .string ⟨#[]⟩, .slice none 0 0], .bool false]) ?_ rfl ?_
    · exact results_cell_tmp Tryd.results145 _ _ (w.heap.size + 1) _ _ rfl HZ0.out Tryd.underlying28 size_term
    · rw [HRt.out]
      exact foldr_end (t := tz) (a := none) (c := 0) rfl (fun r hr => by cases hr) HB0.out rfl
  by_cases hy : y0 = 0
  case neg =>
    have hyb : (y0 == 0) = false := by simpa using hy
    have HRt := hid (show rightT a ⟨#[43]⟩ 65535 = none by rw [HRn2.out, if_neg (fun h => hy h.2)])
    go_enter Tryd.func145, Tryd.ntmps145
    go_wp2_with fail
    refine bodyPost_ret (v := .tuple #[.agg #[.int .i64 0, .int .i64 0, .string ⟨#[]⟩, .slice none 0 0], .bool false]) ?_ rfl ?_
    · exact results_cell_tmp Tryd.results145 _ _ (w.heap.size + 1) _ _ rfl HZ0.out Tryd.underlying28 size_term
    · rw [HRt.out]
      exact foldr_end (t := tz) (a := none) (c := 0) rfl (fun r hr => by cases hr) HB0.out rfl
  subst hy
  have hw1 := HY1.out rfl
  have HRt := hid (show rightT a ⟨#[43]⟩ 65535 = some (binT k0 ⟨#[43]⟩ (nT ((y1 + 65535) % 65536))) by rw [HRn2.out, if_pos ⟨rfl, rfl⟩])
  clear q0 q1 q2 q3 q4 q5 q6 q7
  have hng : IntKind.wrap .i64 (y1 + 65535) = y1 + 65535 := IntWalk.i64_in _ (by omega)
  go_enter Tryd.func145, Tryd.ntmps145
  obtain ⟨q0, q1, q2, q3, q4, q5, q6, q7⟩ := HPc.out _ HB0.out
  go_upto_region 16 with fail
  clear q0 q1 q2 q3 q4 q5 q6 q7
  generalize ((w.alloc (.cells #[.int .i64 2, .int .i64 x1, .string ⟨#[43]⟩, .slice (some ⟨r, o, none⟩) 2 ca] 28)).alloc (.cells #[.int .i64 0, .int .i64 0, .string ⟨#[]⟩, .slice none 0 0] 28)) = w0 at HB0 HX0 HZ0 ⊢
  have HBe0 := hid (HB0.out.drew)
  have HZe0 := hid (HZ0.out.drew)
  have hx0 := HZ0.out.lt
  have HSx := hid (fun (wx : World) (hbx : Below (w.heap.size + 1) w0 wx) => (show wx.cell? ⟨w.heap.size, 0, none⟩ = some (.int .i64 2) ∧ wx.cell? ⟨w.heap.size, 1, none⟩ = some (.int .i64 x1) ∧ wx.cell? ⟨w.heap.size, 2, none⟩ = some (.string ⟨#[43]⟩) ∧ wx.cell? ⟨w.heap.size, 3, none⟩ = some (.slice (some ⟨r, o, none⟩) 2 ca) ∧ wx.cell? ⟨r, o, none⟩ = some (.int .i64 z0) ∧ wx.cell? ⟨r, o + 1, none⟩ = some (.int .i64 z1) ∧ wx.cell? ⟨r, o + 2, none⟩ = some (.string z2) ∧ wx.cell? ⟨r, o + 3, none⟩ = some (.slice su lz cu) ∧ wx.cell? ⟨r, o + 4, none⟩ = some (.int .i64 0) ∧ wx.cell? ⟨r, o + 4 + 1, none⟩ = some (.int .i64 y1) ∧ wx.cell? ⟨r, o + 4 + 2, none⟩ = some (.string y2) ∧ wx.cell? ⟨r, o + 4 + 3, none⟩ = some u1 from by
    have c0 := (HX0.out.below hbx (Nat.lt_succ_self _)).cell 0
    have c1 := (HX0.out.below hbx (Nat.lt_succ_self _)).cell 1
    have c2 := (HX0.out.below hbx (Nat.lt_succ_self _)).cell 2
    have c3 := (HX0.out.below hbx (Nat.lt_succ_self _)).cell 3
    obtain ⟨p0, p1, p2, p3, p4, p5, p6, p7⟩ := HPc.out wx (HB0.out.trans (hbx.mono (by have := HB0.out.size; omega)))
    exact ⟨c0, c1, c2, c3, p0, p1, p2, p3, p4, p5, p6, p7⟩))
  have HD0 := hid (show Below (w.heap.size + 1) w0 w0.drew from (Below.refl w0.heap.size w0).drew.mono (by omega))
  refine wp_region_held_drew (S := fun w' => w'.cell? ⟨w.heap.size, 0, none⟩ = some (.int .i64 2) ∧ w'.cell? ⟨w.heap.size, 1, none⟩ = some (.int .i64 x1) ∧ w'.cell? ⟨w.heap.size, 2, none⟩ = some (.string ⟨#[43]⟩) ∧ w'.cell? ⟨w.heap.size, 3, none⟩ = some (.slice (some ⟨r, o, none⟩) 2 ca) ∧ w'.cell? ⟨r, o, none⟩ = some (.int .i64 z0) ∧ w'.cell? ⟨r, o + 1, none⟩ = some (.int .i64 z1) ∧ w'.cell? ⟨r, o + 2, none⟩ = some (.string z2) ∧ w'.cell? ⟨r, o + 3, none⟩ = some (.slice su lz cu) ∧ w'.cell? ⟨r, o + 4, none⟩ = some (.int .i64 0) ∧ w'.cell? ⟨r, o + 4 + 1, none⟩ = some (.int .i64 y1) ∧ w'.cell? ⟨r, o + 4 + 2, none⟩ = some (.string y2) ∧ w'.cell? ⟨r, o + 4 + 3, none⟩ = some u1) (by kernel_rfl) (HSx.out _ HD0.out) (fun hHeld => ?_)
  refine wpAnyH_take (i := 0) (v := _) rfl (by kernel_rfl) (by kernel_rfl) (by kernel_rfl) (fun _ _ _ h => h) (Or.inl ⟨by rfl, by (intro w hSw; (try dsimp only at hSw); go_simp; first | done | with_reducible rfl)⟩) hHeld ?_
  (try simp only [Act.put, List.setIfInBounds_toArray, List.set_cons_zero, List.set_cons_succ])
  refine wpAnyH_take (i := 1) (v := _) rfl (by kernel_rfl) (by kernel_rfl) (by kernel_rfl) (fun _ _ _ h => h) (Or.inl ⟨by rfl, by (intro w hSw; (try dsimp only at hSw); go_simp; first | done | with_reducible rfl)⟩) hHeld ?_
  (try simp only [Act.put, List.setIfInBounds_toArray, List.set_cons_zero, List.set_cons_succ])
  refine wpAnyH_take (i := 2) (v := _) rfl (by kernel_rfl) (by kernel_rfl) (by kernel_rfl) (fun _ _ _ h => h) (Or.inl ⟨by rfl, by (intro w hSw; (try dsimp only at hSw); go_simp; first | done | with_reducible rfl)⟩) hHeld ?_
  (try simp only [Act.put, List.setIfInBounds_toArray, List.set_cons_zero, List.set_cons_succ])
  refine wpAnyH_take (i := 3) (v := _) rfl (by kernel_rfl) (by kernel_rfl) (by kernel_rfl) (fun _ _ _ h => h) (Or.inl ⟨by rfl, by (intro w hSw; (try dsimp only at hSw); go_simp; first | done | with_reducible rfl)⟩) hHeld ?_
  (try simp only [Act.put, List.setIfInBounds_toArray, List.set_cons_zero, List.set_cons_succ])
  refine wpAnyH_take (i := 4) (v := _) rfl (by kernel_rfl) (by kernel_rfl) (by kernel_rfl) (fun _ _ _ h => h) (Or.inl ⟨by rfl, by (intro w hSw; (try dsimp only at hSw); go_simp; first | done | with_reducible rfl)⟩) hHeld ?_
  (try simp only [Act.put, List.setIfInBounds_toArray, List.set_cons_zero, List.set_cons_succ])
  refine wpAnyH_take (i := 5) (v := _) rfl (by kernel_rfl) (by kernel_rfl) (by kernel_rfl) (fun _ _ _ h => h) (Or.inl ⟨by rfl, by (intro w hSw; (try dsimp only at hSw); go_simp; first | done | with_reducible rfl)⟩) hHeld ?_
  (try simp only [Act.put, List.setIfInBounds_toArray, List.set_cons_zero, List.set_cons_succ])
  refine wpAnyH_take (i := 6) (v := _) rfl (by kernel_rfl) (by kernel_rfl) (by kernel_rfl) (fun _ _ _ h => h) (Or.inl ⟨by rfl, by (intro w hSw; (try dsimp only at hSw); go_simp; first | done | with_reducible rfl)⟩) hHeld ?_
  (try simp only [Act.put, List.setIfInBounds_toArray, List.set_cons_zero, List.set_cons_succ])
  refine wpAnyH_take (i := 7) (v := _) rfl (by kernel_rfl) (by kernel_rfl) (by kernel_rfl) (fun _ _ _ h => h) (Or.inl ⟨by rfl, by (intro w hSw; (try dsimp only at hSw); go_simp; first | done | with_reducible rfl)⟩) hHeld ?_
  (try simp only [Act.put, List.setIfInBounds_toArray, List.set_cons_zero, List.set_cons_succ])
  refine wpAnyH_take (i := 8) (v := _) rfl (by kernel_rfl) (by kernel_rfl) (by kernel_rfl) (fun _ _ _ h => h) (Or.inl ⟨by rfl, by (intro w hSw; (try dsimp only at hSw); go_simp; first | done | with_reducible rfl)⟩) hHeld ?_
  (try simp only [Act.put, List.setIfInBounds_toArray, List.set_cons_zero, List.set_cons_succ])
  refine wpAnyH_take (i := 9) (v := _) rfl (by kernel_rfl) (by kernel_rfl) (by kernel_rfl) (fun _ _ _ h => h) (Or.inl ⟨by rfl, by (intro w hSw; (try dsimp only at hSw); go_simp; first | done | with_reducible rfl)⟩) hHeld ?_
  (try simp only [Act.put, List.setIfInBounds_toArray, List.set_cons_zero, List.set_cons_succ])
  refine wpAnyH_take (i := 10) (v := _) rfl (by kernel_rfl) (by kernel_rfl) (by kernel_rfl) (fun _ _ _ h => h) (Or.inl ⟨by rfl, by (intro w hSw; (try dsimp only at hSw); go_simp; first | done | with_reducible rfl)⟩) hHeld ?_
  (try simp only [Act.put, List.setIfInBounds_toArray, List.set_cons_zero, List.set_cons_succ])
  generalize w0.drew = v0 at HBe0 HZe0 HD0 hHeld ⊢
  refine wpAnyH_ready (rs := [11]) (by kernel_rfl) (by simp) ?_
  refine AllReadyH.cons rfl (fun K hK => ?_) AllReadyH.nil
  go_simp
  go_at_call 93
  refine (num_c _ _).mono ?_
  rintro e v1 ⟨rfl, hbx⟩
  (try rw [hng])
  rw [nT_val]
  simp only
  have HBe1 := hid (HBe0.out.trans (hbx.mono HBe0.out.size))
  have HZe1 := hid (HZe0.out.on hbx)
  have HD1 := hid (HD0.out.trans (hbx.mono (by have := HD0.out.size; omega)))
  refine hK.out _ _ (HSx.out _ HD1.out) (fun hHeld => ?_)
  clear hK K
  (try simp only [Act.put, List.setIfInBounds_toArray, List.set_cons_zero, List.set_cons_succ])
  refine wpAnyH_ready (rs := [12]) (by kernel_rfl) (by simp) ?_
  refine AllReadyH.cons rfl (fun K hK => ?_) AllReadyH.nil
  go_simp
  go_at_call 54
  refine (HBn.out _).mono ?_
  rintro e v2 ⟨sN, cN, rfl, hrowN, hbx⟩
  rw [show tmVal (binT k0 ⟨#[43]⟩ (nT ((y1 + 65535) % 65536))) (.slice sN (binT k0 ⟨#[43]⟩ (nT ((y1 + 65535) % 65536))).kids.length cN) = .agg #[.int .i64 2, .int .i64 0, .string ⟨#[43]⟩, .slice sN 2 cN] from rfl]
  have HRowN := hid (show v2.ownsRow v1.heap.size 28 4 (.slice sN 2 cN) 2 (tCells [k0, nT ((y1 + 65535) % 65536)] [.slice su lz cu, .slice none 0 0]) from hrowN)
  clear hrowN
  simp only
  have HBe2 := hid (HBe1.out.trans (hbx.mono HBe1.out.size))
  have HZe2 := hid (HZe1.out.on hbx)
  have HD2 := hid (HD1.out.trans (hbx.mono (by have := HD1.out.size; omega)))
  refine hK.out _ _ (HSx.out _ HD2.out) (fun hHeld => ?_)
  clear hK K
  (try simp only [Act.put, List.setIfInBounds_toArray, List.set_cons_zero, List.set_cons_succ])
  refine wpAnyH_ready (rs := [13]) (by kernel_rfl) (by simp) ?_
  refine AllReadyH.cons rfl (fun K hK => ?_) AllReadyH.nil
  have r0 := HZe2.out.cell 0
  have r1 := HZe2.out.cell 1
  have r2 := HZe2.out.cell 2
  have r3 := HZe2.out.cell 3
  simp at r0 r1 r2 r3
  have hfr := HZe2.out.free
  have hlz := HZe2.out.lt
  go_simp
  refine hK.out _ _ (HSx.out _ (four_bel HD2.out (Nat.le_refl _) _ _ _ _)) (fun hHeld => ?_)
  clear hK K r0 r1 r2 r3 hfr
  (try simp only [Act.put, List.setIfInBounds_toArray, List.set_cons_zero, List.set_cons_succ])
  refine wpAnyH_ready (rs := [14]) (by kernel_rfl) (by simp) ?_
  refine AllReadyH.cons rfl (fun K hK => ?_) AllReadyH.nil
  go_simp
  refine hK.out _ _ hHeld (fun _ => ?_)
  clear hK K
  (try simp only [Act.put, List.setIfInBounds_toArray, List.set_cons_zero, List.set_cons_succ])
  refine wpAnyH_done (by kernel_rfl) ?_ _
  go_wp2_with fail
  refine bodyPost_ret (v := .tuple #[.agg #[.int .i64 2, .int .i64 0, .string ⟨#[43]⟩, .slice sN 2 cN], .bool true]) ?_ rfl ?_
  · exact results_cell_tmp Tryd.results145 _ _ (w.heap.size + 1) _ _ rfl (four_row HZe2.out (.int .i64 2) (.int .i64 0) (.string ⟨#[43]⟩) (.slice sN 2 cN)) Tryd.underlying28 size_term
  have hbf := four_bel HBe2.out (show w.heap.size ≤ w.heap.size + 1 by omega) (.int .i64 2) (.int .i64 0) (.string ⟨#[43]⟩) (.slice sN 2 cN)
  rw [HRt.out]
  have hz0 := HZe1.out.lt
  have hrw := own_four HRowN.out hz0 (.int .i64 2) (.int .i64 0) (.string ⟨#[43]⟩) (.slice sN 2 cN)
  have hbs := HBe1.out.size
  refine foldr_end (t := binT k0 ⟨#[43]⟩ (nT ((y1 + 65535) % 65536))) (a := sN) (c := cN) rfl (fun r hr => ?_) hbf rfl
  obtain rfl : binT k0 ⟨#[43]⟩ (nT ((y1 + 65535) % 65536)) = r := Option.some.inj hr
  exact ⟨rfl, KP.mono (kp_bin hrw (fun b hb => .inr (by omega)) (HK4.out.old hbf) (kp_nil m')) (by omega)⟩
set_option maxRecDepth 100000 in
set_option maxHeartbeats 10000000 in
theorem right_add_n (m h : Nat) (P : Nat → Prop) (a : Tm) (va : Value) (n : Int) (hn : 0 ≤ n ∧ n ≤ 65535) (hn0 : ¬ n = 0) (hn1 : ¬ n = 1) (hn2 : ¬ n = 65535) (w : World) (hs : shape h a = true) (ha : KP P w m va a.kids) :
    Calls Tryd.prog 145 #[.string ⟨#[43]⟩, tmVal a va, .int .i64 n] w (FoldR (m + 1) P (rightT a ⟨#[43]⟩ n) w) := by
  have HN := hid hn
  clear hn
  obtain ⟨sa, ca, rfl⟩ := ha.slice
  have HA := hid ha
  have HSh := hid hs
  clear ha hs
  obtain ⟨x0, x1, x2, la, hp⟩ := Pt.of a
  have HP := hid hp
  rw [hp.val]
  rw [hp.l] at HA ⊢
  clear hp
  have HB00 := hid ((Below.refl w.heap.size w).alloc (Nat.le_refl _) (.cells #[.int .i64 x0, .int .i64 x1, .string x2, .slice sa la ca] 28))
  have HB0 := hid (HB00.out.alloc HB00.out.size (.cells #[.int .i64 0, .int .i64 0, .string ⟨#[]⟩, .slice none 0 0] 28))
  have HZ0 := hid (Row.new (w.alloc (.cells #[.int .i64 x0, .int .i64 x1, .string x2, .slice sa la ca] 28)) 28 #[.int .i64 0, .int .i64 0, .string ⟨#[]⟩, .slice none 0 0])
  have HX0 := hid ((Row.new w 28 #[.int .i64 x0, .int .i64 x1, .string x2, .slice sa la ca]).alloc (.cells #[.int .i64 0, .int .i64 0, .string ⟨#[]⟩, .slice none 0 0] 28))
  have HBa := hid (HB00.out.alloc HB00.out.size (.cells #[.int .i64 x0, .int .i64 x1, .string x2, .slice sa la ca] 28))
  have HZa := hid (Row.new (w.alloc (.cells #[.int .i64 x0, .int .i64 x1, .string x2, .slice sa la ca] 28)) 28 #[.int .i64 x0, .int .i64 x1, .string x2, .slice sa la ca])
  simp only [World.size_alloc] at HZ0 HZa
  have HRn := hid (show rightT a ⟨#[43]⟩ n = if a.kind = 2 ∧ opIs a.text [[43]] = true ∧ (a.kids.getD 1 tz).kind = 0 then some (binT (a.kids.getD 0 tz) ⟨#[43]⟩ (nT (((a.kids.getD 1 tz).num + n) % 65536))) else none by simp [rightT, opIs, hn0, hn1, hn2])
  have hnb0 : (n == 0) = false := by simpa using hn0
  have hnb1 : (n == 1) = false := by simpa using hn1
  have hnb2 : (n == 65535) = false := by simpa using hn2
  clear hn0 hn1 hn2
  by_cases h2 : x0 = 2
  case neg =>
    have HNo := hid (show ¬ (a.kind = 2 ∧ opIs a.text [[43]] = true ∧ (a.kids.getD 1 tz).kind = 0) from fun h => h2 (HP.out.k.symm.trans h.1))
    have HRt := hid (show rightT a ⟨#[43]⟩ n = none by rw [HRn.out, if_neg (fun h => HNo.out h)])
    have hb2 : (x0 == 2) = false := by simpa using h2
    go_enter Tryd.func145, Tryd.ntmps145
    go_wp2_with fail
    refine bodyPost_ret (v := .tuple #[.agg #[.int .i64 0, .int .i64 0, .string ⟨#[]⟩, .slice none 0 0], .bool false]) ?_ rfl ?_
    · exact results_cell_tmp Tryd.results145 _ _ (w.heap.size + 1) _ _ rfl HZ0.out Tryd.underlying28 size_term
    · rw [HRt.out]
      exact foldr_end (t := tz) (a := none) (c := 0) rfl (fun r hr => by cases hr) HB0.out rfl
  have hf := shape_form_of HSh.out
  obtain ⟨hl2, ho, _⟩ := bin_form hf (HP.out.k.trans h2)
  rw [HP.out.s] at ho
  have hla : la = 2 := HP.out.l.symm.trans hl2
  subst h2 hla
  obtain ⟨m', r, o, cap', rfl, hv, hg, hc⟩ := HA.out.part (by omega)
  rw [hl2] at hv
  simp only [Value.slice.injEq, true_and] at hv
  obtain ⟨rfl, rfl⟩ := hv
  obtain ⟨u0, c0, c1, c2, c3, k4⟩ := hc 0 (by omega)
  obtain ⟨u1, e0, e1, e2, e3, _⟩ := hc 1 (by omega)
  simp only [Nat.zero_mul, Nat.one_mul, Nat.add_zero] at c0 c1 c2 c3 e0 e1 e2 e3
  have hks := (fun j hj => HSh.out |> fun hs => (shape_kids hs j hj))
  have hs1 := hks 1 (by omega)
  obtain ⟨k0, hk0⟩ : ∃ t, a.kids.getD 0 tz = t := ⟨_, rfl⟩
  obtain ⟨k1, hk1⟩ : ∃ t, a.kids.getD 1 tz = t := ⟨_, rfl⟩
  rw [hk0] at c0 c1 c2 k4 HRn
  rw [hk1] at e0 e1 e2 HRn hs1
  obtain ⟨su, cu, rfl⟩ := k4.slice
  obtain ⟨z0, z1, z2, lz, hq0⟩ := Pt.of k0
  obtain ⟨y0, y1, y2, ly, hq1⟩ := Pt.of k1
  have HQ0 := hid hq0
  have HQ1 := hid hq1
  rw [hq0.k] at c0
  rw [hq0.n] at c1
  rw [hq0.s] at c2
  rw [hq0.l] at c3 k4
  rw [hq1.k] at e0
  rw [hq1.n] at e1 HRn
  rw [hq1.s] at e2
  have HRn2 := hid (show rightT a ⟨#[43]⟩ n = if x2.data.toList = [43] ∧ y0 = 0 then some (binT k0 ⟨#[43]⟩ (nT ((y1 + n) % 65536))) else none by rw [HRn.out, HP.out.k, HP.out.s, HQ1.out.k]; simp [opIs])
  have HY1 := hid (show y0 = 0 → 0 ≤ y1 ∧ y1 ≤ 65535 from fun h => by have := num_of hs1 (by rw [hq1.k]; exact h); rwa [hq1.n] at this)
  have HK4 := hid k4
  have HPc := hid (fun (wx : World) (hb : Below w.heap.size w wx) => (show wx.cell? ⟨r, o, none⟩ = some (.int .i64 z0) ∧ wx.cell? ⟨r, o + 1, none⟩ = some (.int .i64 z1) ∧ wx.cell? ⟨r, o + 2, none⟩ = some (.string z2) ∧ wx.cell? ⟨r, o + 3, none⟩ = some (.slice su lz cu) ∧ wx.cell? ⟨r, o + 4, none⟩ = some (.int .i64 y0) ∧ wx.cell? ⟨r, o + 4 + 1, none⟩ = some (.int .i64 y1) ∧ wx.cell? ⟨r, o + 4 + 2, none⟩ = some (.string y2) ∧ wx.cell? ⟨r, o + 4 + 3, none⟩ = some u1 from ⟨(hb.cell (p := ⟨r, o, none⟩) hg).trans c0, (hb.cell (p := ⟨r, o + 1, none⟩) hg).trans c1, (hb.cell (p := ⟨r, o + 2, none⟩) hg).trans c2, (hb.cell (p := ⟨r, o + 3, none⟩) hg).trans c3, (hb.cell (p := ⟨r, o + 4, none⟩) hg).trans e0, (hb.cell (p := ⟨r, o + 4 + 1, none⟩) hg).trans e1, (hb.cell (p := ⟨r, o + 4 + 2, none⟩) hg).trans e2, (hb.cell (p := ⟨r, o + 4 + 3, none⟩) hg).trans e3⟩))
  have HBn := hid (fun (wx : World) => (show Calls Tryd.prog 54 #[.string ⟨#[43]⟩, .agg #[.int .i64 z0, .int .i64 z1, .string z2, .slice su lz cu], .agg #[.int .i64 0, .int .i64 ((y1 + n) % 65536), .string ⟨#[]⟩, .slice none 0 0]] wx (MadePost (binT k0 ⟨#[43]⟩ (nT ((y1 + n) % 65536))) [.slice su lz cu, .slice none 0 0] wx) from HQ0.out.val (.slice su lz cu) ▸ bin_c ⟨#[43]⟩ k0 (nT ((y1 + n) % 65536)) (.slice su lz cu) (.slice none 0 0) wx))
  clear hf hl2 hc c0 c1 c2 c3 e0 e1 e2 e3 k4 hks hs1 hk0 hk1 hq0 hq1 HRn
  obtain ⟨q0, q1, q2, q3, q4, q5, q6, q7⟩ := HPc.out _ HB0.out
  rcases op_lit ho with rfl | rfl | rfl | rfl | rfl | rfl | rfl | rfl | rfl
  all_goals clear ho
  case inr.inl | inr.inr.inl | inr.inr.inr.inl | inr.inr.inr.inr.inl | inr.inr.inr.inr.inr.inl | inr.inr.inr.inr.inr.inr.inl | inr.inr.inr.inr.inr.inr.inr.inl | inr.inr.inr.inr.inr.inr.inr.inr =>
    have HRt := hid (show rightT a ⟨#[43]⟩ n = none by rw [HRn2.out]; simp)
    go_enter Tryd.func145, Tryd.ntmps145
    go_wp2_with fail
    refine bodyPost_ret (v := .tuple #[.agg #[.int .i64 0, .int .i64 0, .string ⟨#[]⟩, .slice none 0 0], .bool false]) ?_ rfl ?_
    · exact results_cell_tmp Tryd.results145 _ _ (w.heap.size + 1) _ _ rfl HZ0.out Tryd.underlying28 size_term
    · rw [HRt.out]
      exact foldr_end (t := tz) (a := none) (c := 0) rfl (fun r hr => by cases hr) HB0.out rfl
  by_cases hy : y0 = 0
  case neg =>
    have hyb : (y0 == 0) = false := by simpa using hy
    have HRt := hid (show rightT a ⟨#[43]⟩ n = none by rw [HRn2.out, if_neg (fun h => hy h.2)])
    go_enter Tryd.func145, Tryd.ntmps145
    go_wp2_with fail
    refine bodyPost_ret (v := .tuple #[.agg #[.int .i64 0, .int .i64 0, .string ⟨#[]⟩, .slice none 0 0], .bool false]) ?_ rfl ?_
    · exact results_cell_tmp Tryd.results145 _ _ (w.heap.size + 1) _ _ rfl HZ0.out Tryd.underlying28 size_term
    · rw [HRt.out]
      exact foldr_end (t := tz) (a := none) (c := 0) rfl (fun r hr => by cases hr) HB0.out rfl
  subst hy
  have hw1 := HY1.out rfl
  have HRt := hid (show rightT a ⟨#[43]⟩ n = some (binT k0 ⟨#[43]⟩ (nT ((y1 + n) % 65536))) by rw [HRn2.out, if_pos ⟨rfl, rfl⟩])
  clear q0 q1 q2 q3 q4 q5 q6 q7
  have hn := HN.out
  have hng : IntKind.wrap .i64 (y1 + n) = y1 + n := IntWalk.i64_in _ (by omega)
  go_enter Tryd.func145, Tryd.ntmps145
  obtain ⟨q0, q1, q2, q3, q4, q5, q6, q7⟩ := HPc.out _ HB0.out
  go_upto_region 16 with fail
  clear q0 q1 q2 q3 q4 q5 q6 q7
  generalize ((w.alloc (.cells #[.int .i64 2, .int .i64 x1, .string ⟨#[43]⟩, .slice (some ⟨r, o, none⟩) 2 ca] 28)).alloc (.cells #[.int .i64 0, .int .i64 0, .string ⟨#[]⟩, .slice none 0 0] 28)) = w0 at HB0 HX0 HZ0 ⊢
  have HBe0 := hid (HB0.out.drew)
  have HZe0 := hid (HZ0.out.drew)
  have hx0 := HZ0.out.lt
  have HSx := hid (fun (wx : World) (hbx : Below (w.heap.size + 1) w0 wx) => (show wx.cell? ⟨w.heap.size, 0, none⟩ = some (.int .i64 2) ∧ wx.cell? ⟨w.heap.size, 1, none⟩ = some (.int .i64 x1) ∧ wx.cell? ⟨w.heap.size, 2, none⟩ = some (.string ⟨#[43]⟩) ∧ wx.cell? ⟨w.heap.size, 3, none⟩ = some (.slice (some ⟨r, o, none⟩) 2 ca) ∧ wx.cell? ⟨r, o, none⟩ = some (.int .i64 z0) ∧ wx.cell? ⟨r, o + 1, none⟩ = some (.int .i64 z1) ∧ wx.cell? ⟨r, o + 2, none⟩ = some (.string z2) ∧ wx.cell? ⟨r, o + 3, none⟩ = some (.slice su lz cu) ∧ wx.cell? ⟨r, o + 4, none⟩ = some (.int .i64 0) ∧ wx.cell? ⟨r, o + 4 + 1, none⟩ = some (.int .i64 y1) ∧ wx.cell? ⟨r, o + 4 + 2, none⟩ = some (.string y2) ∧ wx.cell? ⟨r, o + 4 + 3, none⟩ = some u1 from by
    have c0 := (HX0.out.below hbx (Nat.lt_succ_self _)).cell 0
    have c1 := (HX0.out.below hbx (Nat.lt_succ_self _)).cell 1
    have c2 := (HX0.out.below hbx (Nat.lt_succ_self _)).cell 2
    have c3 := (HX0.out.below hbx (Nat.lt_succ_self _)).cell 3
    obtain ⟨p0, p1, p2, p3, p4, p5, p6, p7⟩ := HPc.out wx (HB0.out.trans (hbx.mono (by have := HB0.out.size; omega)))
    exact ⟨c0, c1, c2, c3, p0, p1, p2, p3, p4, p5, p6, p7⟩))
  have HD0 := hid (show Below (w.heap.size + 1) w0 w0.drew from (Below.refl w0.heap.size w0).drew.mono (by omega))
  refine wp_region_held_drew (S := fun w' => w'.cell? ⟨w.heap.size, 0, none⟩ = some (.int .i64 2) ∧ w'.cell? ⟨w.heap.size, 1, none⟩ = some (.int .i64 x1) ∧ w'.cell? ⟨w.heap.size, 2, none⟩ = some (.string ⟨#[43]⟩) ∧ w'.cell? ⟨w.heap.size, 3, none⟩ = some (.slice (some ⟨r, o, none⟩) 2 ca) ∧ w'.cell? ⟨r, o, none⟩ = some (.int .i64 z0) ∧ w'.cell? ⟨r, o + 1, none⟩ = some (.int .i64 z1) ∧ w'.cell? ⟨r, o + 2, none⟩ = some (.string z2) ∧ w'.cell? ⟨r, o + 3, none⟩ = some (.slice su lz cu) ∧ w'.cell? ⟨r, o + 4, none⟩ = some (.int .i64 0) ∧ w'.cell? ⟨r, o + 4 + 1, none⟩ = some (.int .i64 y1) ∧ w'.cell? ⟨r, o + 4 + 2, none⟩ = some (.string y2) ∧ w'.cell? ⟨r, o + 4 + 3, none⟩ = some u1) (by kernel_rfl) (HSx.out _ HD0.out) (fun hHeld => ?_)
  refine wpAnyH_take (i := 0) (v := _) rfl (by kernel_rfl) (by kernel_rfl) (by kernel_rfl) (fun _ _ _ h => h) (Or.inl ⟨by rfl, by (intro w hSw; (try dsimp only at hSw); go_simp; first | done | with_reducible rfl)⟩) hHeld ?_
  (try simp only [Act.put, List.setIfInBounds_toArray, List.set_cons_zero, List.set_cons_succ])
  refine wpAnyH_take (i := 1) (v := _) rfl (by kernel_rfl) (by kernel_rfl) (by kernel_rfl) (fun _ _ _ h => h) (Or.inl ⟨by rfl, by (intro w hSw; (try dsimp only at hSw); go_simp; first | done | with_reducible rfl)⟩) hHeld ?_
  (try simp only [Act.put, List.setIfInBounds_toArray, List.set_cons_zero, List.set_cons_succ])
  refine wpAnyH_take (i := 2) (v := _) rfl (by kernel_rfl) (by kernel_rfl) (by kernel_rfl) (fun _ _ _ h => h) (Or.inl ⟨by rfl, by (intro w hSw; (try dsimp only at hSw); go_simp; first | done | with_reducible rfl)⟩) hHeld ?_
  (try simp only [Act.put, List.setIfInBounds_toArray, List.set_cons_zero, List.set_cons_succ])
  refine wpAnyH_take (i := 3) (v := _) rfl (by kernel_rfl) (by kernel_rfl) (by kernel_rfl) (fun _ _ _ h => h) (Or.inl ⟨by rfl, by (intro w hSw; (try dsimp only at hSw); go_simp; first | done | with_reducible rfl)⟩) hHeld ?_
  (try simp only [Act.put, List.setIfInBounds_toArray, List.set_cons_zero, List.set_cons_succ])
  refine wpAnyH_take (i := 4) (v := _) rfl (by kernel_rfl) (by kernel_rfl) (by kernel_rfl) (fun _ _ _ h => h) (Or.inl ⟨by rfl, by (intro w hSw; (try dsimp only at hSw); go_simp; first | done | with_reducible rfl)⟩) hHeld ?_
  (try simp only [Act.put, List.setIfInBounds_toArray, List.set_cons_zero, List.set_cons_succ])
  refine wpAnyH_take (i := 5) (v := _) rfl (by kernel_rfl) (by kernel_rfl) (by kernel_rfl) (fun _ _ _ h => h) (Or.inl ⟨by rfl, by (intro w hSw; (try dsimp only at hSw); go_simp; first | done | with_reducible rfl)⟩) hHeld ?_
  (try simp only [Act.put, List.setIfInBounds_toArray, List.set_cons_zero, List.set_cons_succ])
  refine wpAnyH_take (i := 6) (v := _) rfl (by kernel_rfl) (by kernel_rfl) (by kernel_rfl) (fun _ _ _ h => h) (Or.inl ⟨by rfl, by (intro w hSw; (try dsimp only at hSw); go_simp; first | done | with_reducible rfl)⟩) hHeld ?_
  (try simp only [Act.put, List.setIfInBounds_toArray, List.set_cons_zero, List.set_cons_succ])
  refine wpAnyH_take (i := 7) (v := _) rfl (by kernel_rfl) (by kernel_rfl) (by kernel_rfl) (fun _ _ _ h => h) (Or.inl ⟨by rfl, by (intro w hSw; (try dsimp only at hSw); go_simp; first | done | with_reducible rfl)⟩) hHeld ?_
  (try simp only [Act.put, List.setIfInBounds_toArray, List.set_cons_zero, List.set_cons_succ])
  refine wpAnyH_take (i := 8) (v := _) rfl (by kernel_rfl) (by kernel_rfl) (by kernel_rfl) (fun _ _ _ h => h) (Or.inl ⟨by rfl, by (intro w hSw; (try dsimp only at hSw); go_simp; first | done | with_reducible rfl)⟩) hHeld ?_
  (try simp only [Act.put, List.setIfInBounds_toArray, List.set_cons_zero, List.set_cons_succ])
  refine wpAnyH_take (i := 9) (v := _) rfl (by kernel_rfl) (by kernel_rfl) (by kernel_rfl) (fun _ _ _ h => h) (Or.inl ⟨by rfl, by (intro w hSw; (try dsimp only at hSw); go_simp; first | done | with_reducible rfl)⟩) hHeld ?_
  (try simp only [Act.put, List.setIfInBounds_toArray, List.set_cons_zero, List.set_cons_succ])
  refine wpAnyH_take (i := 10) (v := _) rfl (by kernel_rfl) (by kernel_rfl) (by kernel_rfl) (fun _ _ _ h => h) (Or.inl ⟨by rfl, by (intro w hSw; (try dsimp only at hSw); go_simp; first | done | with_reducible rfl)⟩) hHeld ?_
  (try simp only [Act.put, List.setIfInBounds_toArray, List.set_cons_zero, List.set_cons_succ])
  generalize w0.drew = v0 at HBe0 HZe0 HD0 hHeld ⊢
  refine wpAnyH_ready (rs := [11]) (by kernel_rfl) (by simp) ?_
  refine AllReadyH.cons rfl (fun K hK => ?_) AllReadyH.nil
  go_simp
  go_at_call 93
  refine (num_c _ _).mono ?_
  rintro e v1 ⟨rfl, hbx⟩
  (try rw [hng])
  rw [nT_val]
  simp only
  have HBe1 := hid (HBe0.out.trans (hbx.mono HBe0.out.size))
  have HZe1 := hid (HZe0.out.on hbx)
  have HD1 := hid (HD0.out.trans (hbx.mono (by have := HD0.out.size; omega)))
  refine hK.out _ _ (HSx.out _ HD1.out) (fun hHeld => ?_)
  clear hK K
  (try simp only [Act.put, List.setIfInBounds_toArray, List.set_cons_zero, List.set_cons_succ])
  refine wpAnyH_ready (rs := [12]) (by kernel_rfl) (by simp) ?_
  refine AllReadyH.cons rfl (fun K hK => ?_) AllReadyH.nil
  go_simp
  go_at_call 54
  refine (HBn.out _).mono ?_
  rintro e v2 ⟨sN, cN, rfl, hrowN, hbx⟩
  rw [show tmVal (binT k0 ⟨#[43]⟩ (nT ((y1 + n) % 65536))) (.slice sN (binT k0 ⟨#[43]⟩ (nT ((y1 + n) % 65536))).kids.length cN) = .agg #[.int .i64 2, .int .i64 0, .string ⟨#[43]⟩, .slice sN 2 cN] from rfl]
  have HRowN := hid (show v2.ownsRow v1.heap.size 28 4 (.slice sN 2 cN) 2 (tCells [k0, nT ((y1 + n) % 65536)] [.slice su lz cu, .slice none 0 0]) from hrowN)
  clear hrowN
  simp only
  have HBe2 := hid (HBe1.out.trans (hbx.mono HBe1.out.size))
  have HZe2 := hid (HZe1.out.on hbx)
  have HD2 := hid (HD1.out.trans (hbx.mono (by have := HD1.out.size; omega)))
  refine hK.out _ _ (HSx.out _ HD2.out) (fun hHeld => ?_)
  clear hK K
  (try simp only [Act.put, List.setIfInBounds_toArray, List.set_cons_zero, List.set_cons_succ])
  refine wpAnyH_ready (rs := [13]) (by kernel_rfl) (by simp) ?_
  refine AllReadyH.cons rfl (fun K hK => ?_) AllReadyH.nil
  have r0 := HZe2.out.cell 0
  have r1 := HZe2.out.cell 1
  have r2 := HZe2.out.cell 2
  have r3 := HZe2.out.cell 3
  simp at r0 r1 r2 r3
  have hfr := HZe2.out.free
  have hlz := HZe2.out.lt
  go_simp
  refine hK.out _ _ (HSx.out _ (four_bel HD2.out (Nat.le_refl _) _ _ _ _)) (fun hHeld => ?_)
  clear hK K r0 r1 r2 r3 hfr
  (try simp only [Act.put, List.setIfInBounds_toArray, List.set_cons_zero, List.set_cons_succ])
  refine wpAnyH_ready (rs := [14]) (by kernel_rfl) (by simp) ?_
  refine AllReadyH.cons rfl (fun K hK => ?_) AllReadyH.nil
  go_simp
  refine hK.out _ _ hHeld (fun _ => ?_)
  clear hK K
  (try simp only [Act.put, List.setIfInBounds_toArray, List.set_cons_zero, List.set_cons_succ])
  refine wpAnyH_done (by kernel_rfl) ?_ _
  go_wp2_with fail
  refine bodyPost_ret (v := .tuple #[.agg #[.int .i64 2, .int .i64 0, .string ⟨#[43]⟩, .slice sN 2 cN], .bool true]) ?_ rfl ?_
  · exact results_cell_tmp Tryd.results145 _ _ (w.heap.size + 1) _ _ rfl (four_row HZe2.out (.int .i64 2) (.int .i64 0) (.string ⟨#[43]⟩) (.slice sN 2 cN)) Tryd.underlying28 size_term
  have hbf := four_bel HBe2.out (show w.heap.size ≤ w.heap.size + 1 by omega) (.int .i64 2) (.int .i64 0) (.string ⟨#[43]⟩) (.slice sN 2 cN)
  rw [HRt.out]
  have hz0 := HZe1.out.lt
  have hrw := own_four HRowN.out hz0 (.int .i64 2) (.int .i64 0) (.string ⟨#[43]⟩) (.slice sN 2 cN)
  have hbs := HBe1.out.size
  refine foldr_end (t := binT k0 ⟨#[43]⟩ (nT ((y1 + n) % 65536))) (a := sN) (c := cN) rfl (fun r hr => ?_) hbf rfl
  obtain rfl : binT k0 ⟨#[43]⟩ (nT ((y1 + n) % 65536)) = r := Option.some.inj hr
  exact ⟨rfl, KP.mono (kp_bin hrw (fun b hb => .inr (by omega)) (HK4.out.old hbf) (kp_nil m')) (by omega)⟩
end Go.Proofs.YtffibmlgdacafaaDoor.Um
