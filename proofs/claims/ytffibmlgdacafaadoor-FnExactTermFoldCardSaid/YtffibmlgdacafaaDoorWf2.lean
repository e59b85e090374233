/- Simpler terms: a term with an operator and a word behind it, by the program: where a number comes of it. -/
import Derived.Test.YtffibmlgdacafaaDoorWf1
set_option linter.unusedSimpArgs false
set_option linter.unusedVariables false
namespace Go.Proofs.YtffibmlgdacafaaDoor.Um
open Go.RowKit Pl Ft Mm In C2 Im

set_option maxRecDepth 100000 in
set_option maxHeartbeats 8000000 in
theorem ahead_mul_0 (m lo f0 g0 G h : Nat) (a : Tm) (va : Value) (w : World) (hs : shape h a = true) (ha : KOwn w m f0 g0 va a.kids) (hlo : lo ≤ f0) (hhi : g0 ≤ G) (hG : G ≤ w.heap.size) (hT : Tabs w) :
    Calls Tryd.prog 151 #[tmVal a va, .string ⟨#[42]⟩, .int .i64 0] w (FoldPost (m + 1) lo G (rightT a ⟨#[42]⟩ 0) w) := by
  obtain ⟨sa, ca, rfl⟩ := ha.slice
  have HLw := hid (show lo ≤ w.heap.size by have := ha.le; omega)
  have HA := hid ha
  have HLo := hid hlo
  have HHi := hid hhi
  have HG := hid hG
  have HT := hid hT
  have HSh := hid hs
  clear ha hlo hhi hT hs hG
  obtain ⟨x0, x1, x2, la, hp⟩ := Pt.of a
  have HP := hid hp
  rw [hp.val]
  rw [hp.l] at HA ⊢
  clear hp
  have HB00 := hid ((Below.refl w.heap.size w).alloc (Nat.le_refl _) (.cells #[.int .i64 x0, .int .i64 x1, .string x2, .slice sa la ca] 28))
  have HB0 := hid (HB00.out.alloc HB00.out.size (.cells #[.int .i64 0, .int .i64 0, .string ⟨#[]⟩, .slice none 0 0] 28))
  have HZ0 := hid (Row.new (w.alloc (.cells #[.int .i64 x0, .int .i64 x1, .string x2, .slice sa la ca] 28)) 28 #[.int .i64 0, .int .i64 0, .string ⟨#[]⟩, .slice none 0 0])
  have HX0 := hid ((Row.new w 28 #[.int .i64 x0, .int .i64 x1, .string x2, .slice sa la ca]).alloc (.cells #[.int .i64 0, .int .i64 0, .string ⟨#[]⟩, .slice none 0 0] 28))
  have HBa := hid (HB00.out.alloc HB00.out.size (.cells #[.int .i64 x0, .int .i64 x1, .string x2, .slice sa la ca] 28))
  have HZa := hid (Row.new (w.alloc (.cells #[.int .i64 x0, .int .i64 x1, .string x2, .slice sa la ca] 28)) 28 #[.int .i64 x0, .int .i64 x1, .string x2, .slice sa la ca])
  simp only [World.size_alloc] at HZ0 HZa
  have q0 := eql_wb ⟨#[42]⟩ ⟨#[43]⟩ 0 0 (b := false) (by decide)
  have q1 := eql_wb ⟨#[42]⟩ ⟨#[45]⟩ 0 0 (b := false) (by decide)
  have q2 := eql_wb ⟨#[42]⟩ ⟨#[124]⟩ 0 0 (b := false) (by decide)
  have q3 := eql_wb ⟨#[42]⟩ ⟨#[94]⟩ 0 0 (b := false) (by decide)
  have q4 := eql_wb ⟨#[42]⟩ ⟨#[42]⟩ 0 1 (b := false) (by decide)
  have q5 := eql_wb ⟨#[42]⟩ ⟨#[38]⟩ 0 65535 (b := false) (by decide)
  have q6 := eql_wb ⟨#[42]⟩ ⟨#[42]⟩ 0 0 (b := true) (by decide)
  have hgd := fun op a b ys => guard_wb op a b #[.string ⟨#[42]⟩, .int .i64 0] ys
  go_enter Tryd.func151, Tryd.ntmps151
  obtain ⟨b, hb⟩ : ∃ b, a.plain = b := ⟨_, rfl⟩
  have HRt := hid (show rightT a ⟨#[42]⟩ 0 = if b = true then some (nT 0) else none by rw [← hb]; simp [rightT, opIs])
  have HPl := hid (fun (wx : World) (n1 : Nat) (u : Value) (hr : KRd wx n1 u a.kids) => (show Calls Tryd.prog 152 #[.agg #[.int .i64 x0, .int .i64 x1, .string x2, u]] wx (fun e w' => e = .returned (.bool b) ∧ Below wx.heap.size wx w') from hb ▸ isPlain_v HP.out HSh.out hr))
  clear hb
  go_upto_region 12 with fail
  generalize ((w.alloc (.cells #[.int .i64 x0, .int .i64 x1, .string x2, .slice sa la ca] 28)).alloc (.cells #[.int .i64 0, .int .i64 0, .string ⟨#[]⟩, .slice none 0 0] 28)) = w0 at HB0 HX0 HZ0 ⊢
  have HBe0 := hid (HB0.out.drew)
  have HZe0 := hid (HZ0.out.drew)
  have hx0 := HZ0.out.lt
  have HSx := hid (fun (wx : World) (hbx : Below (w.heap.size + 1) w0 wx) => (show wx.cell? ⟨w.heap.size, 0, none⟩ = some (.int .i64 x0) ∧ wx.cell? ⟨w.heap.size, 1, none⟩ = some (.int .i64 x1) ∧ wx.cell? ⟨w.heap.size, 2, none⟩ = some (.string x2) ∧ wx.cell? ⟨w.heap.size, 3, none⟩ = some (.slice sa la ca) from by
    have c0 := (HX0.out.below hbx (Nat.lt_succ_self _)).cell 0
    have c1 := (HX0.out.below hbx (Nat.lt_succ_self _)).cell 1
    have c2 := (HX0.out.below hbx (Nat.lt_succ_self _)).cell 2
    have c3 := (HX0.out.below hbx (Nat.lt_succ_self _)).cell 3
    exact ⟨c0, c1, c2, c3⟩))
  have HD0 := hid (show Below (w.heap.size + 1) w0 w0.drew from (Below.refl w0.heap.size w0).drew.mono (by omega))
  refine wp_region_held_drew (S := fun w' => w'.cell? ⟨w.heap.size, 0, none⟩ = some (.int .i64 x0) ∧ w'.cell? ⟨w.heap.size, 1, none⟩ = some (.int .i64 x1) ∧ w'.cell? ⟨w.heap.size, 2, none⟩ = some (.string x2) ∧ w'.cell? ⟨w.heap.size, 3, none⟩ = some (.slice sa la ca)) (by kernel_rfl) (HSx.out _ HD0.out) (fun hHeld => ?_)
  refine wpAnyH_take (i := 1) (v := _) rfl (by kernel_rfl) (by kernel_rfl) (by kernel_rfl) (fun _ _ _ h => h) (Or.inl ⟨by rfl, by (intro w hSw; (try dsimp only at hSw); go_simp; first | done | with_reducible rfl)⟩) hHeld ?_
  (try simp only [Act.put, List.setIfInBounds_toArray, List.set_cons_zero, List.set_cons_succ])
  generalize w0.drew = v0 at HBe0 HZe0 HD0 hHeld ⊢
  refine wpAnyH_ready (rs := [0]) (by kernel_rfl) (by simp) ?_
  refine AllReadyH.cons rfl (fun K hK => ?_) AllReadyH.nil
  go_simp
  go_at_call 131
  refine (numberTerm_c 0 _).mono ?_
  rintro e v1 ⟨rfl, hbx⟩
  rw [nT_val]
  simp only
  have HBe1 := hid (HBe0.out.trans (hbx.mono HBe0.out.size))
  have HZe1 := hid (HZe0.out.on hbx)
  have HD1 := hid (HD0.out.trans (hbx.mono (by have := HD0.out.size; omega)))
  refine hK.out _ _ (HSx.out _ HD1.out) (fun hHeld => ?_)
  clear hK K
  (try simp only [Act.put, List.setIfInBounds_toArray, List.set_cons_zero, List.set_cons_succ])
  refine wpAnyH_ready (rs := [2]) (by kernel_rfl) (by simp) ?_
  refine AllReadyH.cons rfl (fun K hK => ?_) AllReadyH.nil
  go_simp
  go_at_call 152
  refine (HPl.out _ _ _ ((HA.out.on HBe1.out).rd)).mono ?_
  rintro e v2 ⟨rfl, hbx⟩
  simp only
  have HBe2 := hid (HBe1.out.trans (hbx.mono HBe1.out.size))
  have HZe2 := hid (HZe1.out.on hbx)
  have HD2 := hid (HD1.out.trans (hbx.mono (by have := HD1.out.size; omega)))
  refine hK.out _ _ (HSx.out _ HD2.out) (fun hHeld => ?_)
  clear hK K
  (try simp only [Act.put, List.setIfInBounds_toArray, List.set_cons_zero, List.set_cons_succ])
  refine wpAnyH_ready (rs := [3]) (by kernel_rfl) (by simp) ?_
  refine AllReadyH.cons rfl (fun K hK => ?_) AllReadyH.nil
  have r0 := HZe2.out.cell 0
  have r1 := HZe2.out.cell 1
  have r2 := HZe2.out.cell 2
  have r3 := HZe2.out.cell 3
  simp at r0 r1 r2 r3
  have hfr := HZe2.out.free
  have hlz := HZe2.out.lt
  go_simp
  refine hK.out _ _ (HSx.out _ (four_bel HD2.out (Nat.le_refl _) _ _ _ _)) (fun hHeld => ?_)
  clear hK K r0 r1 r2 r3 hfr
  (try simp only [Act.put, List.setIfInBounds_toArray, List.set_cons_zero, List.set_cons_succ])
  refine wpAnyH_ready (rs := [4]) (by kernel_rfl) (by simp) ?_
  refine AllReadyH.cons rfl (fun K hK => ?_) AllReadyH.nil
  go_simp
  refine hK.out _ _ hHeld (fun _ => ?_)
  clear hK K
  (try simp only [Act.put, List.setIfInBounds_toArray, List.set_cons_zero, List.set_cons_succ])
  refine wpAnyH_done (by kernel_rfl) ?_ _
  go_wp2_with fail
  refine bodyPost_ret (v := .tuple #[.agg #[.int .i64 0, .int .i64 0, .string ⟨#[]⟩, .slice none 0 0], .bool b]) ?_ rfl ?_
  · exact results_cell_tmp Tryd.results151 _ _ (w.heap.size + 1) _ _ rfl (four_row HZe2.out (.int .i64 0) (.int .i64 0) (.string ⟨#[]⟩) (.slice none 0 0)) Tryd.underlying28 size_term
  have hbf := four_bel HBe2.out (show w.heap.size ≤ w.heap.size + 1 by omega) (.int .i64 0) (.int .i64 0) (.string ⟨#[]⟩) (.slice none 0 0)
  rw [HRt.out]
  cases b
  · exact fold_end (t := nT 0) (a := none) (c := 0) rfl (fun r hr => by cases hr) hbf rfl
  · exact fold_num rfl hbf (by have := hbf.size; have := HLw.out; omega)
set_option maxRecDepth 100000 in
set_option maxHeartbeats 8000000 in
theorem ahead_and_0 (m lo f0 g0 G h : Nat) (a : Tm) (va : Value) (w : World) (hs : shape h a = true) (ha : KOwn w m f0 g0 va a.kids) (hlo : lo ≤ f0) (hhi : g0 ≤ G) (hG : G ≤ w.heap.size) (hT : Tabs w) :
    Calls Tryd.prog 151 #[tmVal a va, .string ⟨#[38]⟩, .int .i64 0] w (FoldPost (m + 1) lo G (rightT a ⟨#[38]⟩ 0) w) := by
  obtain ⟨sa, ca, rfl⟩ := ha.slice
  have HLw := hid (show lo ≤ w.heap.size by have := ha.le; omega)
  have HA := hid ha
  have HLo := hid hlo
  have HHi := hid hhi
  have HG := hid hG
  have HT := hid hT
  have HSh := hid hs
  clear ha hlo hhi hT hs hG
  obtain ⟨x0, x1, x2, la, hp⟩ := Pt.of a
  have HP := hid hp
  rw [hp.val]
  rw [hp.l] at HA ⊢
  clear hp
  have HB00 := hid ((Below.refl w.heap.size w).alloc (Nat.le_refl _) (.cells #[.int .i64 x0, .int .i64 x1, .string x2, .slice sa la ca] 28))
  have HB0 := hid (HB00.out.alloc HB00.out.size (.cells #[.int .i64 0, .int .i64 0, .string ⟨#[]⟩, .slice none 0 0] 28))
  have HZ0 := hid (Row.new (w.alloc (.cells #[.int .i64 x0, .int .i64 x1, .string x2, .slice sa la ca] 28)) 28 #[.int .i64 0, .int .i64 0, .string ⟨#[]⟩, .slice none 0 0])
  have HX0 := hid ((Row.new w 28 #[.int .i64 x0, .int .i64 x1, .string x2, .slice sa la ca]).alloc (.cells #[.int .i64 0, .int .i64 0, .string ⟨#[]⟩, .slice none 0 0] 28))
  have HBa := hid (HB00.out.alloc HB00.out.size (.cells #[.int .i64 x0, .int .i64 x1, .string x2, .slice sa la ca] 28))
  have HZa := hid (Row.new (w.alloc (.cells #[.int .i64 x0, .int .i64 x1, .string x2, .slice sa la ca] 28)) 28 #[.int .i64 x0, .int .i64 x1, .string x2, .slice sa la ca])
  simp only [World.size_alloc] at HZ0 HZa
  have q0 := eql_wb ⟨#[38]⟩ ⟨#[43]⟩ 0 0 (b := false) (by decide)
  have q1 := eql_wb ⟨#[38]⟩ ⟨#[45]⟩ 0 0 (b := false) (by decide)
  have q2 := eql_wb ⟨#[38]⟩ ⟨#[124]⟩ 0 0 (b := false) (by decide)
  have q3 := eql_wb ⟨#[38]⟩ ⟨#[94]⟩ 0 0 (b := false) (by decide)
  have q4 := eql_wb ⟨#[38]⟩ ⟨#[42]⟩ 0 1 (b := false) (by decide)
  have q5 := eql_wb ⟨#[38]⟩ ⟨#[38]⟩ 0 65535 (b := false) (by decide)
  have q6 := eql_wb ⟨#[38]⟩ ⟨#[42]⟩ 0 0 (b := false) (by decide)
  have q7 := eql_wb ⟨#[38]⟩ ⟨#[38]⟩ 0 0 (b := true) (by decide)
  have hgd := fun op a b ys => guard_wb op a b #[.string ⟨#[38]⟩, .int .i64 0] ys
  go_enter Tryd.func151, Tryd.ntmps151
  obtain ⟨b, hb⟩ : ∃ b, a.plain = b := ⟨_, rfl⟩
  have HRt := hid (show rightT a ⟨#[38]⟩ 0 = if b = true then some (nT 0) else none by rw [← hb]; simp [rightT, opIs])
  have HPl := hid (fun (wx : World) (n1 : Nat) (u : Value) (hr : KRd wx n1 u a.kids) => (show Calls Tryd.prog 152 #[.agg #[.int .i64 x0, .int .i64 x1, .string x2, u]] wx (fun e w' => e = .returned (.bool b) ∧ Below wx.heap.size wx w') from hb ▸ isPlain_v HP.out HSh.out hr))
  clear hb
  go_upto_region 12 with fail
  generalize ((w.alloc (.cells #[.int .i64 x0, .int .i64 x1, .string x2, .slice sa la ca] 28)).alloc (.cells #[.int .i64 0, .int .i64 0, .string ⟨#[]⟩, .slice none 0 0] 28)) = w0 at HB0 HX0 HZ0 ⊢
  have HBe0 := hid (HB0.out.drew)
  have HZe0 := hid (HZ0.out.drew)
  have hx0 := HZ0.out.lt
  have HSx := hid (fun (wx : World) (hbx : Below (w.heap.size + 1) w0 wx) => (show wx.cell? ⟨w.heap.size, 0, none⟩ = some (.int .i64 x0) ∧ wx.cell? ⟨w.heap.size, 1, none⟩ = some (.int .i64 x1) ∧ wx.cell? ⟨w.heap.size, 2, none⟩ = some (.string x2) ∧ wx.cell? ⟨w.heap.size, 3, none⟩ = some (.slice sa la ca) from by
    have c0 := (HX0.out.below hbx (Nat.lt_succ_self _)).cell 0
    have c1 := (HX0.out.below hbx (Nat.lt_succ_self _)).cell 1
    have c2 := (HX0.out.below hbx (Nat.lt_succ_self _)).cell 2
    have c3 := (HX0.out.below hbx (Nat.lt_succ_self _)).cell 3
    exact ⟨c0, c1, c2, c3⟩))
  have HD0 := hid (show Below (w.heap.size + 1) w0 w0.drew from (Below.refl w0.heap.size w0).drew.mono (by omega))
  refine wp_region_held_drew (S := fun w' => w'.cell? ⟨w.heap.size, 0, none⟩ = some (.int .i64 x0) ∧ w'.cell? ⟨w.heap.size, 1, none⟩ = some (.int .i64 x1) ∧ w'.cell? ⟨w.heap.size, 2, none⟩ = some (.string x2) ∧ w'.cell? ⟨w.heap.size, 3, none⟩ = some (.slice sa la ca)) (by kernel_rfl) (HSx.out _ HD0.out) (fun hHeld => ?_)
  refine wpAnyH_take (i := 1) (v := _) rfl (by kernel_rfl) (by kernel_rfl) (by kernel_rfl) (fun _ _ _ h => h) (Or.inl ⟨by rfl, by (intro w hSw; (try dsimp only at hSw); go_simp; first | done | with_reducible rfl)⟩) hHeld ?_
  (try simp only [Act.put, List.setIfInBounds_toArray, List.set_cons_zero, List.set_cons_succ])
  generalize w0.drew = v0 at HBe0 HZe0 HD0 hHeld ⊢
  refine wpAnyH_ready (rs := [0]) (by kernel_rfl) (by simp) ?_
  refine AllReadyH.cons rfl (fun K hK => ?_) AllReadyH.nil
  go_simp
  go_at_call 131
  refine (numberTerm_c 0 _).mono ?_
  rintro e v1 ⟨rfl, hbx⟩
  rw [nT_val]
  simp only
  have HBe1 := hid (HBe0.out.trans (hbx.mono HBe0.out.size))
  have HZe1 := hid (HZe0.out.on hbx)
  have HD1 := hid (HD0.out.trans (hbx.mono (by have := HD0.out.size; omega)))
  refine hK.out _ _ (HSx.out _ HD1.out) (fun hHeld => ?_)
  clear hK K
  (try simp only [Act.put, List.setIfInBounds_toArray, List.set_cons_zero, List.set_cons_succ])
  refine wpAnyH_ready (rs := [2]) (by kernel_rfl) (by simp) ?_
  refine AllReadyH.cons rfl (fun K hK => ?_) AllReadyH.nil
  go_simp
  go_at_call 152
  refine (HPl.out _ _ _ ((HA.out.on HBe1.out).rd)).mono ?_
  rintro e v2 ⟨rfl, hbx⟩
  simp only
  have HBe2 := hid (HBe1.out.trans (hbx.mono HBe1.out.size))
  have HZe2 := hid (HZe1.out.on hbx)
  have HD2 := hid (HD1.out.trans (hbx.mono (by have := HD1.out.size; omega)))
  refine hK.out _ _ (HSx.out _ HD2.out) (fun hHeld => ?_)
  clear hK K
  (try simp only [Act.put, List.setIfInBounds_toArray, List.set_cons_zero, List.set_cons_succ])
  refine wpAnyH_ready (rs := [3]) (by kernel_rfl) (by simp) ?_
  refine AllReadyH.cons rfl (fun K hK => ?_) AllReadyH.nil
  have r0 := HZe2.out.cell 0
  have r1 := HZe2.out.cell 1
  have r2 := HZe2.out.cell 2
  have r3 := HZe2.out.cell 3
  simp at r0 r1 r2 r3
  have hfr := HZe2.out.free
  have hlz := HZe2.out.lt
  go_simp
  refine hK.out _ _ (HSx.out _ (four_bel HD2.out (Nat.le_refl _) _ _ _ _)) (fun hHeld => ?_)
  clear hK K r0 r1 r2 r3 hfr
  (try simp only [Act.put, List.setIfInBounds_toArray, List.set_cons_zero, List.set_cons_succ])
  refine wpAnyH_ready (rs := [4]) (by kernel_rfl) (by simp) ?_
  refine AllReadyH.cons rfl (fun K hK => ?_) AllReadyH.nil
  go_simp
  refine hK.out _ _ hHeld (fun _ => ?_)
  clear hK K
  (try simp only [Act.put, List.setIfInBounds_toArray, List.set_cons_zero, List.set_cons_succ])
  refine wpAnyH_done (by kernel_rfl) ?_ _
  go_wp2_with fail
  refine bodyPost_ret (v := .tuple #[.agg #[.int .i64 0, .int .i64 0, .string ⟨#[]⟩, .slice none 0 0], .bool b]) ?_ rfl ?_
  · exact results_cell_tmp Tryd.results151 _ _ (w.heap.size + 1) _ _ rfl (four_row HZe2.out (.int .i64 0) (.int .i64 0) (.string ⟨#[]⟩) (.slice none 0 0)) Tryd.underlying28 size_term
  have hbf := four_bel HBe2.out (show w.heap.size ≤ w.heap.size + 1 by omega) (.int .i64 0) (.int .i64 0) (.string ⟨#[]⟩) (.slice none 0 0)
  rw [HRt.out]
  cases b
  · exact fold_end (t := nT 0) (a := none) (c := 0) rfl (fun r hr => by cases hr) hbf rfl
  · exact fold_num rfl hbf (by have := hbf.size; have := HLw.out; omega)
set_option maxRecDepth 100000 in
set_option maxHeartbeats 8000000 in
theorem ahead_or_65535 (m lo f0 g0 G h : Nat) (a : Tm) (va : Value) (w : World) (hs : shape h a = true) (ha : KOwn w m f0 g0 va a.kids) (hlo : lo ≤ f0) (hhi : g0 ≤ G) (hG : G ≤ w.heap.size) (hT : Tabs w) :
    Calls Tryd.prog 151 #[tmVal a va, .string ⟨#[124]⟩, .int .i64 65535] w (FoldPost (m + 1) lo G (rightT a ⟨#[124]⟩ 65535) w) := by
  obtain ⟨sa, ca, rfl⟩ := ha.slice
  have HLw := hid (show lo ≤ w.heap.size by have := ha.le; omega)
  have HA := hid ha
  have HLo := hid hlo
  have HHi := hid hhi
  have HG := hid hG
  have HT := hid hT
  have HSh := hid hs
  clear ha hlo hhi hT hs hG
  obtain ⟨x0, x1, x2, la, hp⟩ := Pt.of a
  have HP := hid hp
  rw [hp.val]
  rw [hp.l] at HA ⊢
  clear hp
  have HB00 := hid ((Below.refl w.heap.size w).alloc (Nat.le_refl _) (.cells #[.int .i64 x0, .int .i64 x1, .string x2, .slice sa la ca] 28))
  have HB0 := hid (HB00.out.alloc HB00.out.size (.cells #[.int .i64 0, .int .i64 0, .string ⟨#[]⟩, .slice none 0 0] 28))
  have HZ0 := hid (Row.new (w.alloc (.cells #[.int .i64 x0, .int .i64 x1, .string x2, .slice sa la ca] 28)) 28 #[.int .i64 0, .int .i64 0, .string ⟨#[]⟩, .slice none 0 0])
  have HX0 := hid ((Row.new w 28 #[.int .i64 x0, .int .i64 x1, .string x2, .slice sa la ca]).alloc (.cells #[.int .i64 0, .int .i64 0, .string ⟨#[]⟩, .slice none 0 0] 28))
  have HBa := hid (HB00.out.alloc HB00.out.size (.cells #[.int .i64 x0, .int .i64 x1, .string x2, .slice sa la ca] 28))
  have HZa := hid (Row.new (w.alloc (.cells #[.int .i64 x0, .int .i64 x1, .string x2, .slice sa la ca] 28)) 28 #[.int .i64 x0, .int .i64 x1, .string x2, .slice sa la ca])
  simp only [World.size_alloc] at HZ0 HZa
  have q0 := eql_wb ⟨#[124]⟩ ⟨#[43]⟩ 65535 0 (b := false) (by decide)
  have q1 := eql_wb ⟨#[124]⟩ ⟨#[45]⟩ 65535 0 (b := false) (by decide)
  have q2 := eql_wb ⟨#[124]⟩ ⟨#[124]⟩ 65535 0 (b := false) (by decide)
  have q3 := eql_wb ⟨#[124]⟩ ⟨#[94]⟩ 65535 0 (b := false) (by decide)
  have q4 := eql_wb ⟨#[124]⟩ ⟨#[42]⟩ 65535 1 (b := false) (by decide)
  have q5 := eql_wb ⟨#[124]⟩ ⟨#[38]⟩ 65535 65535 (b := false) (by decide)
  have q6 := eql_wb ⟨#[124]⟩ ⟨#[42]⟩ 65535 0 (b := false) (by decide)
  have q7 := eql_wb ⟨#[124]⟩ ⟨#[38]⟩ 65535 0 (b := false) (by decide)
  have q8 := eql_wb ⟨#[124]⟩ ⟨#[60, 60]⟩ 65535 0 (b := false) (by decide)
  have q9 := eql_wb ⟨#[124]⟩ ⟨#[124]⟩ 65535 65535 (b := true) (by decide)
  have hgd := fun op a b ys => guard_wb op a b #[.string ⟨#[124]⟩, .int .i64 65535] ys
  go_enter Tryd.func151, Tryd.ntmps151
  obtain ⟨b, hb⟩ : ∃ b, a.plain = b := ⟨_, rfl⟩
  have HRt := hid (show rightT a ⟨#[124]⟩ 65535 = if b = true then some (nT 65535) else none by rw [← hb]; simp [rightT, opIs])
  have HPl := hid (fun (wx : World) (n1 : Nat) (u : Value) (hr : KRd wx n1 u a.kids) => (show Calls Tryd.prog 152 #[.agg #[.int .i64 x0, .int .i64 x1, .string x2, u]] wx (fun e w' => e = .returned (.bool b) ∧ Below wx.heap.size wx w') from hb ▸ isPlain_v HP.out HSh.out hr))
  clear hb
  go_upto_region 14 with fail
  generalize ((w.alloc (.cells #[.int .i64 x0, .int .i64 x1, .string x2, .slice sa la ca] 28)).alloc (.cells #[.int .i64 0, .int .i64 0, .string ⟨#[]⟩, .slice none 0 0] 28)) = w0 at HB0 HX0 HZ0 ⊢
  have HBe0 := hid (HB0.out.drew)
  have HZe0 := hid (HZ0.out.drew)
  have hx0 := HZ0.out.lt
  have HSx := hid (fun (wx : World) (hbx : Below (w.heap.size + 1) w0 wx) => (show wx.cell? ⟨w.heap.size, 0, none⟩ = some (.int .i64 x0) ∧ wx.cell? ⟨w.heap.size, 1, none⟩ = some (.int .i64 x1) ∧ wx.cell? ⟨w.heap.size, 2, none⟩ = some (.string x2) ∧ wx.cell? ⟨w.heap.size, 3, none⟩ = some (.slice sa la ca) from by
    have c0 := (HX0.out.below hbx (Nat.lt_succ_self _)).cell 0
    have c1 := (HX0.out.below hbx (Nat.lt_succ_self _)).cell 1
    have c2 := (HX0.out.below hbx (Nat.lt_succ_self _)).cell 2
    have c3 := (HX0.out.below hbx (Nat.lt_succ_self _)).cell 3
    exact ⟨c0, c1, c2, c3⟩))
  have HD0 := hid (show Below (w.heap.size + 1) w0 w0.drew from (Below.refl w0.heap.size w0).drew.mono (by omega))
  refine wp_region_held_drew (S := fun w' => w'.cell? ⟨w.heap.size, 0, none⟩ = some (.int .i64 x0) ∧ w'.cell? ⟨w.heap.size, 1, none⟩ = some (.int .i64 x1) ∧ w'.cell? ⟨w.heap.size, 2, none⟩ = some (.string x2) ∧ w'.cell? ⟨w.heap.size, 3, none⟩ = some (.slice sa la ca)) (by kernel_rfl) (HSx.out _ HD0.out) (fun hHeld => ?_)
  refine wpAnyH_take (i := 1) (v := _) rfl (by kernel_rfl) (by kernel_rfl) (by kernel_rfl) (fun _ _ _ h => h) (Or.inl ⟨by rfl, by (intro w hSw; (try dsimp only at hSw); go_simp; first | done | with_reducible rfl)⟩) hHeld ?_
  (try simp only [Act.put, List.setIfInBounds_toArray, List.set_cons_zero, List.set_cons_succ])
  generalize w0.drew = v0 at HBe0 HZe0 HD0 hHeld ⊢
  refine wpAnyH_ready (rs := [0]) (by kernel_rfl) (by simp) ?_
  refine AllReadyH.cons rfl (fun K hK => ?_) AllReadyH.nil
  go_simp
  go_at_call 131
  refine (numberTerm_c 65535 _).mono ?_
  rintro e v1 ⟨rfl, hbx⟩
  rw [nT_val]
  simp only
  have HBe1 := hid (HBe0.out.trans (hbx.mono HBe0.out.size))
  have HZe1 := hid (HZe0.out.on hbx)
  have HD1 := hid (HD0.out.trans (hbx.mono (by have := HD0.out.size; omega)))
  refine hK.out _ _ (HSx.out _ HD1.out) (fun hHeld => ?_)
  clear hK K
  (try simp only [Act.put, List.setIfInBounds_toArray, List.set_cons_zero, List.set_cons_succ])
  refine wpAnyH_ready (rs := [2]) (by kernel_rfl) (by simp) ?_
  refine AllReadyH.cons rfl (fun K hK => ?_) AllReadyH.nil
  go_simp
  go_at_call 152
  refine (HPl.out _ _ _ ((HA.out.on HBe1.out).rd)).mono ?_
  rintro e v2 ⟨rfl, hbx⟩
  simp only
  have HBe2 := hid (HBe1.out.trans (hbx.mono HBe1.out.size))
  have HZe2 := hid (HZe1.out.on hbx)
  have HD2 := hid (HD1.out.trans (hbx.mono (by have := HD1.out.size; omega)))
  refine hK.out _ _ (HSx.out _ HD2.out) (fun hHeld => ?_)
  clear hK K
  (try simp only [Act.put, List.setIfInBounds_toArray, List.set_cons_zero, List.set_cons_succ])
  refine wpAnyH_ready (rs := [3]) (by kernel_rfl) (by simp) ?_
  refine AllReadyH.cons rfl (fun K hK => ?_) AllReadyH.nil
  have r0 := HZe2.out.cell 0
  have r1 := HZe2.out.cell 1
  have r2 := HZe2.out.cell 2
  have r3 := HZe2.out.cell 3
  simp at r0 r1 r2 r3
  have hfr := HZe2.out.free
  have hlz := HZe2.out.lt
  go_simp
  refine hK.out _ _ (HSx.out _ (four_bel HD2.out (Nat.le_refl _) _ _ _ _)) (fun hHeld => ?_)
  clear hK K r0 r1 r2 r3 hfr
  (try simp only [Act.put, List.setIfInBounds_toArray, List.set_cons_zero, List.set_cons_succ])
  refine wpAnyH_ready (rs := [4]) (by kernel_rfl) (by simp) ?_
  refine AllReadyH.cons rfl (fun K hK => ?_) AllReadyH.nil
  go_simp
  refine hK.out _ _ hHeld (fun _ => ?_)
  clear hK K
  (try simp only [Act.put, List.setIfInBounds_toArray, List.set_cons_zero, List.set_cons_succ])
  refine wpAnyH_done (by kernel_rfl) ?_ _
  go_wp2_with fail
  refine bodyPost_ret (v := .tuple #[.agg #[.int .i64 0, .int .i64 65535, .string ⟨#[]⟩, .slice none 0 0], .bool b]) ?_ rfl ?_
  · exact results_cell_tmp Tryd.results151 _ _ (w.heap.size + 1) _ _ rfl (four_row HZe2.out (.int .i64 0) (.int .i64 65535) (.string ⟨#[]⟩) (.slice none 0 0)) Tryd.underlying28 size_term
  have hbf := four_bel HBe2.out (show w.heap.size ≤ w.heap.size + 1 by omega) (.int .i64 0) (.int .i64 65535) (.string ⟨#[]⟩) (.slice none 0 0)
  rw [HRt.out]
  cases b
  · exact fold_end (t := nT 65535) (a := none) (c := 0) rfl (fun r hr => by cases hr) hbf rfl
  · exact fold_num rfl hbf (by have := hbf.size; have := HLw.out; omega)
set_option maxRecDepth 100000 in
set_option maxHeartbeats 8000000 in
theorem ahead_lo_0 (m lo f0 g0 G h : Nat) (a : Tm) (va : Value) (w : World) (hs : shape h a = true) (ha : KOwn w m f0 g0 va a.kids) (hlo : lo ≤ f0) (hhi : g0 ≤ G) (hG : G ≤ w.heap.size) (hT : Tabs w) :
    Calls Tryd.prog 151 #[tmVal a va, .string ⟨#[60, 60]⟩, .int .i64 0] w (FoldPost (m + 1) lo G (rightT a ⟨#[60, 60]⟩ 0) w) := by
  obtain ⟨sa, ca, rfl⟩ := ha.slice
  have HLw := hid (show lo ≤ w.heap.size by have := ha.le; omega)
  have HA := hid ha
  have HLo := hid hlo
  have HHi := hid hhi
  have HG := hid hG
  have HT := hid hT
  have HSh := hid hs
  clear ha hlo hhi hT hs hG
  obtain ⟨x0, x1, x2, la, hp⟩ := Pt.of a
  have HP := hid hp
  rw [hp.val]
  rw [hp.l] at HA ⊢
  clear hp
  have HB00 := hid ((Below.refl w.heap.size w).alloc (Nat.le_refl _) (.cells #[.int .i64 x0, .int .i64 x1, .string x2, .slice sa la ca] 28))
  have HB0 := hid (HB00.out.alloc HB00.out.size (.cells #[.int .i64 0, .int .i64 0, .string ⟨#[]⟩, .slice none 0 0] 28))
  have HZ0 := hid (Row.new (w.alloc (.cells #[.int .i64 x0, .int .i64 x1, .string x2, .slice sa la ca] 28)) 28 #[.int .i64 0, .int .i64 0, .string ⟨#[]⟩, .slice none 0 0])
  have HX0 := hid ((Row.new w 28 #[.int .i64 x0, .int .i64 x1, .string x2, .slice sa la ca]).alloc (.cells #[.int .i64 0, .int .i64 0, .string ⟨#[]⟩, .slice none 0 0] 28))
  have HBa := hid (HB00.out.alloc HB00.out.size (.cells #[.int .i64 x0, .int .i64 x1, .string x2, .slice sa la ca] 28))
  have HZa := hid (Row.new (w.alloc (.cells #[.int .i64 x0, .int .i64 x1, .string x2, .slice sa la ca] 28)) 28 #[.int .i64 x0, .int .i64 x1, .string x2, .slice sa la ca])
  simp only [World.size_alloc] at HZ0 HZa
  have q0 := eql_wb ⟨#[60, 60]⟩ ⟨#[43]⟩ 0 0 (b := false) (by decide)
  have q1 := eql_wb ⟨#[60, 60]⟩ ⟨#[45]⟩ 0 0 (b := false) (by decide)
  have q2 := eql_wb ⟨#[60, 60]⟩ ⟨#[124]⟩ 0 0 (b := false) (by decide)
  have q3 := eql_wb ⟨#[60, 60]⟩ ⟨#[94]⟩ 0 0 (b := false) (by decide)
  have q4 := eql_wb ⟨#[60, 60]⟩ ⟨#[42]⟩ 0 1 (b := false) (by decide)
  have q5 := eql_wb ⟨#[60, 60]⟩ ⟨#[38]⟩ 0 65535 (b := false) (by decide)
  have q6 := eql_wb ⟨#[60, 60]⟩ ⟨#[42]⟩ 0 0 (b := false) (by decide)
  have q7 := eql_wb ⟨#[60, 60]⟩ ⟨#[38]⟩ 0 0 (b := false) (by decide)
  have q8 := eql_wb ⟨#[60, 60]⟩ ⟨#[60, 60]⟩ 0 0 (b := true) (by decide)
  have hgd := fun op a b ys => guard_wb op a b #[.string ⟨#[60, 60]⟩, .int .i64 0] ys
  go_enter Tryd.func151, Tryd.ntmps151
  obtain ⟨b, hb⟩ : ∃ b, a.plain = b := ⟨_, rfl⟩
  have HRt := hid (show rightT a ⟨#[60, 60]⟩ 0 = if b = true then some (nT 0) else none by rw [← hb]; simp [rightT, opIs])
  have HPl := hid (fun (wx : World) (n1 : Nat) (u : Value) (hr : KRd wx n1 u a.kids) => (show Calls Tryd.prog 152 #[.agg #[.int .i64 x0, .int .i64 x1, .string x2, u]] wx (fun e w' => e = .returned (.bool b) ∧ Below wx.heap.size wx w') from hb ▸ isPlain_v HP.out HSh.out hr))
  clear hb
  go_upto_region 12 with fail
  generalize ((w.alloc (.cells #[.int .i64 x0, .int .i64 x1, .string x2, .slice sa la ca] 28)).alloc (.cells #[.int .i64 0, .int .i64 0, .string ⟨#[]⟩, .slice none 0 0] 28)) = w0 at HB0 HX0 HZ0 ⊢
  have HBe0 := hid (HB0.out.drew)
  have HZe0 := hid (HZ0.out.drew)
  have hx0 := HZ0.out.lt
  have HSx := hid (fun (wx : World) (hbx : Below (w.heap.size + 1) w0 wx) => (show wx.cell? ⟨w.heap.size, 0, none⟩ = some (.int .i64 x0) ∧ wx.cell? ⟨w.heap.size, 1, none⟩ = some (.int .i64 x1) ∧ wx.cell? ⟨w.heap.size, 2, none⟩ = some (.string x2) ∧ wx.cell? ⟨w.heap.size, 3, none⟩ = some (.slice sa la ca) from by
    have c0 := (HX0.out.below hbx (Nat.lt_succ_self _)).cell 0
    have c1 := (HX0.out.below hbx (Nat.lt_succ_self _)).cell 1
    have c2 := (HX0.out.below hbx (Nat.lt_succ_self _)).cell 2
    have c3 := (HX0.out.below hbx (Nat.lt_succ_self _)).cell 3
    exact ⟨c0, c1, c2, c3⟩))
  have HD0 := hid (show Below (w.heap.size + 1) w0 w0.drew from (Below.refl w0.heap.size w0).drew.mono (by omega))
  refine wp_region_held_drew (S := fun w' => w'.cell? ⟨w.heap.size, 0, none⟩ = some (.int .i64 x0) ∧ w'.cell? ⟨w.heap.size, 1, none⟩ = some (.int .i64 x1) ∧ w'.cell? ⟨w.heap.size, 2, none⟩ = some (.string x2) ∧ w'.cell? ⟨w.heap.size, 3, none⟩ = some (.slice sa la ca)) (by kernel_rfl) (HSx.out _ HD0.out) (fun hHeld => ?_)
  refine wpAnyH_take (i := 1) (v := _) rfl (by kernel_rfl) (by kernel_rfl) (by kernel_rfl) (fun _ _ _ h => h) (Or.inl ⟨by rfl, by (intro w hSw; (try dsimp only at hSw); go_simp; first | done | with_reducible rfl)⟩) hHeld ?_
  (try simp only [Act.put, List.setIfInBounds_toArray, List.set_cons_zero, List.set_cons_succ])
  generalize w0.drew = v0 at HBe0 HZe0 HD0 hHeld ⊢
  refine wpAnyH_ready (rs := [0]) (by kernel_rfl) (by simp) ?_
  refine AllReadyH.cons rfl (fun K hK => ?_) AllReadyH.nil
  go_simp
  go_at_call 131
  refine (numberTerm_c 0 _).mono ?_
  rintro e v1 ⟨rfl, hbx⟩
  rw [nT_val]
  simp only
  have HBe1 := hid (HBe0.out.trans (hbx.mono HBe0.out.size))
  have HZe1 := hid (HZe0.out.on hbx)
  have HD1 := hid (HD0.out.trans (hbx.mono (by have := HD0.out.size; omega)))
  refine hK.out _ _ (HSx.out _ HD1.out) (fun hHeld => ?_)
  clear hK K
  (try simp only [Act.put, List.setIfInBounds_toArray, List.set_cons_zero, List.set_cons_succ])
  refine wpAnyH_ready (rs := [2]) (by kernel_rfl) (by simp) ?_
  refine AllReadyH.cons rfl (fun K hK => ?_) AllReadyH.nil
  go_simp
  go_at_call 152
  refine (HPl.out _ _ _ ((HA.out.on HBe1.out).rd)).mono ?_
  rintro e v2 ⟨rfl, hbx⟩
  simp only
  have HBe2 := hid (HBe1.out.trans (hbx.mono HBe1.out.size))
  have HZe2 := hid (HZe1.out.on hbx)
  have HD2 := hid (HD1.out.trans (hbx.mono (by have := HD1.out.size; omega)))
  refine hK.out _ _ (HSx.out _ HD2.out) (fun hHeld => ?_)
  clear hK K
  (try simp only [Act.put, List.setIfInBounds_toArray, List.set_cons_zero, List.set_cons_succ])
  refine wpAnyH_ready (rs := [3]) (by kernel_rfl) (by simp) ?_
  refine AllReadyH.cons rfl (fun K hK => ?_) AllReadyH.nil
  have r0 := HZe2.out.cell 0
  have r1 := HZe2.out.cell 1
  have r2 := HZe2.out.cell 2
  have r3 := HZe2.out.cell 3
  simp at r0 r1 r2 r3
  have hfr := HZe2.out.free
  have hlz := HZe2.out.lt
  go_simp
  refine hK.out _ _ (HSx.out _ (four_bel HD2.out (Nat.le_refl _) _ _ _ _)) (fun hHeld => ?_)
  clear hK K r0 r1 r2 r3 hfr
  (try simp only [Act.put, List.setIfInBounds_toArray, List.set_cons_zero, List.set_cons_succ])
  refine wpAnyH_ready (rs := [4]) (by kernel_rfl) (by simp) ?_
  refine AllReadyH.cons rfl (fun K hK => ?_) AllReadyH.nil
  go_simp
  refine hK.out _ _ hHeld (fun _ => ?_)
  clear hK K
  (try simp only [Act.put, List.setIfInBounds_toArray, List.set_cons_zero, List.set_cons_succ])
  refine wpAnyH_done (by kernel_rfl) ?_ _
  go_wp2_with fail
  refine bodyPost_ret (v := .tuple #[.agg #[.int .i64 0, .int .i64 0, .string ⟨#[]⟩, .slice none 0 0], .bool b]) ?_ rfl ?_
  · exact results_cell_tmp Tryd.results151 _ _ (w.heap.size + 1) _ _ rfl (four_row HZe2.out (.int .i64 0) (.int .i64 0) (.string ⟨#[]⟩) (.slice none 0 0)) Tryd.underlying28 size_term
  have hbf := four_bel HBe2.out (show w.heap.size ≤ w.heap.size + 1 by omega) (.int .i64 0) (.int .i64 0) (.string ⟨#[]⟩) (.slice none 0 0)
  rw [HRt.out]
  cases b
  · exact fold_end (t := nT 0) (a := none) (c := 0) rfl (fun r hr => by cases hr) hbf rfl
  · exact fold_num rfl hbf (by have := hbf.size; have := HLw.out; omega)
end Go.Proofs.YtffibmlgdacafaaDoor.Um
