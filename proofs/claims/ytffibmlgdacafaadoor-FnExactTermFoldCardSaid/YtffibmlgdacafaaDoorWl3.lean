/- Simpler terms: a term with an operator and a word behind it, by the model: less. -/
import Derived.Test.YtffibmlgdacafaaDoorWl1
set_option linter.unusedSimpArgs false
set_option linter.unusedVariables false
namespace Go.Proofs.YtffibmlgdacafaaDoor.Um
open Go.RowKit Pl Ft Mm In C2 Im

set_option maxRecDepth 100000 in
set_option maxHeartbeats 10000000 in
theorem right_sub_1 (m h : Nat) (P : Nat → Prop) (a : Tm) (va : Value) (w : World) (hs : shape h a = true) (ha : KP P w m va a.kids) :
    Calls Tryd.prog 145 #[.string ⟨#[45]⟩, tmVal a va, .int .i64 1] w (FoldR (m + 1) P (rightT a ⟨#[45]⟩ 1) w) := by
  obtain ⟨sa, ca, rfl⟩ := ha.slice
  have HA := hid ha
  have HSh := hid hs
  clear ha hs
  obtain ⟨x0, x1, x2, la, hp⟩ := Pt.of a
  have HP := hid hp
  rw [hp.val]
  rw [hp.l] at HA ⊢
  clear hp
  have HB00 := hid ((Below.refl w.heap.size w).alloc (Nat.le_refl _) (.cells #[.int .i64 x0, .int .i64 x1, .string x2, .slice sa la ca] 28))
  have HB0 := hid (HB00.out.alloc HB00.out.size (.cells #[.int .i64 0, .int .i64 0, .string ⟨#[]⟩, .slice none 0 0] 28))
  have HZ0 := hid (Row.new (w.alloc (.cells #[.int .i64 x0, .int .i64 x1, .string x2, .slice sa la ca] 28)) 28 #[.int .i64 0, .int .i64 0, .string ⟨#[]⟩, .slice none 0 0])
  have HX0 := hid ((Row.new w 28 #[.int .i64 x0, .int .i64 x1, .string x2, .slice sa la ca]).alloc (.cells #[.int .i64 0, .int .i64 0, .string ⟨#[]⟩, .slice none 0 0] 28))
  have HBa := hid (HB00.out.alloc HB00.out.size (.cells #[.int .i64 x0, .int .i64 x1, .string x2, .slice sa la ca] 28))
  have HZa := hid (Row.new (w.alloc (.cells #[.int .i64 x0, .int .i64 x1, .string x2, .slice sa la ca] 28)) 28 #[.int .i64 x0, .int .i64 x1, .string x2, .slice sa la ca])
  simp only [World.size_alloc] at HZ0 HZa
  have HRt := hid (show rightT a ⟨#[45]⟩ 1 = some (binT a ⟨#[43]⟩ (nT 65535)) by simp [rightT, opIs])
  have HBn := hid (fun (wx : World) => (show Calls Tryd.prog 54 #[.string ⟨#[43]⟩, .agg #[.int .i64 x0, .int .i64 x1, .string x2, .slice sa la ca], .agg #[.int .i64 0, .int .i64 65535, .string ⟨#[]⟩, .slice none 0 0]] wx (MadePost (binT a ⟨#[43]⟩ (nT 65535)) [.slice sa la ca, .slice none 0 0] wx) from HP.out.val (.slice sa la ca) ▸ bin_c ⟨#[43]⟩ a (nT 65535) (.slice sa la ca) (.slice none 0 0) wx))
  have HNm := hid (fun (wx : World) => (show Calls Tryd.prog 93 #[.int .i64 (-1)] wx (fun e w' => e = .returned (tmVal (nT 65535) (.slice none 0 0)) ∧ Below wx.heap.size wx w') from num_c (-1) wx))
  go_enter Tryd.func145, Tryd.ntmps145
  go_upto_region 14 with fail
  generalize ((w.alloc (.cells #[.int .i64 x0, .int .i64 x1, .string x2, .slice sa la ca] 28)).alloc (.cells #[.int .i64 0, .int .i64 0, .string ⟨#[]⟩, .slice none 0 0] 28)) = w0 at HB0 HX0 HZ0 ⊢
  have HBe0 := hid (HB0.out.drew)
  have HZe0 := hid (HZ0.out.drew)
  have hx0 := HZ0.out.lt
  have HSx := hid (fun (wx : World) (hbx : Below (w.heap.size + 1) w0 wx) => (show wx.cell? ⟨w.heap.size, 0, none⟩ = some (.int .i64 x0) ∧ wx.cell? ⟨w.heap.size, 1, none⟩ = some (.int .i64 x1) ∧ wx.cell? ⟨w.heap.size, 2, none⟩ = some (.string x2) ∧ wx.cell? ⟨w.heap.size, 3, none⟩ = some (.slice sa la ca) from by
    have c0 := (HX0.out.below hbx (Nat.lt_succ_self _)).cell 0
    have c1 := (HX0.out.below hbx (Nat.lt_succ_self _)).cell 1
    have c2 := (HX0.out.below hbx (Nat.lt_succ_self _)).cell 2
    have c3 := (HX0.out.below hbx (Nat.lt_succ_self _)).cell 3
    exact ⟨c0, c1, c2, c3⟩))
  have HD0 := hid (show Below (w.heap.size + 1) w0 w0.drew from (Below.refl w0.heap.size w0).drew.mono (by omega))
  refine wp_region_held_drew (S := fun w' => w'.cell? ⟨w.heap.size, 0, none⟩ = some (.int .i64 x0) ∧ w'.cell? ⟨w.heap.size, 1, none⟩ = some (.int .i64 x1) ∧ w'.cell? ⟨w.heap.size, 2, none⟩ = some (.string x2) ∧ w'.cell? ⟨w.heap.size, 3, none⟩ = some (.slice sa la ca)) (by kernel_rfl) (HSx.out _ HD0.out) (fun hHeld => ?_)
  refine wpAnyH_take (i := 0) (v := _) rfl (by kernel_rfl) (by kernel_rfl) (by kernel_rfl) (fun _ _ _ h => h) (Or.inl ⟨by rfl, by (intro w hSw; (try dsimp only at hSw); go_simp; first | done | with_reducible rfl)⟩) hHeld ?_
  (try simp only [Act.put, List.setIfInBounds_toArray, List.set_cons_zero, List.set_cons_succ])
  refine wpAnyH_take (i := 1) (v := _) rfl (by kernel_rfl) (by kernel_rfl) (by kernel_rfl) (fun _ _ _ h => h) (Or.inl ⟨by rfl, by (intro w hSw; (try dsimp only at hSw); go_simp; first | done | with_reducible rfl)⟩) hHeld ?_
  (try simp only [Act.put, List.setIfInBounds_toArray, List.set_cons_zero, List.set_cons_succ])
  refine wpAnyH_take (i := 2) (v := _) rfl (by kernel_rfl) (by kernel_rfl) (by kernel_rfl) (fun _ _ _ h => h) (Or.inl ⟨by rfl, by (intro w hSw; (try dsimp only at hSw); go_simp; first | done | with_reducible rfl)⟩) hHeld ?_
  (try simp only [Act.put, List.setIfInBounds_toArray, List.set_cons_zero, List.set_cons_succ])
  generalize w0.drew = v0 at HBe0 HZe0 HD0 hHeld ⊢
  refine wpAnyH_ready (rs := [3]) (by kernel_rfl) (by simp) ?_
  refine AllReadyH.cons rfl (fun K hK => ?_) AllReadyH.nil
  go_simp
  go_at_call 93
  refine (HNm.out _).mono ?_
  rintro e v1 ⟨rfl, hbx⟩
  rw [nT_val]
  simp only
  have HBe1 := hid (HBe0.out.trans (hbx.mono HBe0.out.size))
  have HZe1 := hid (HZe0.out.on hbx)
  have HD1 := hid (HD0.out.trans (hbx.mono (by have := HD0.out.size; omega)))
  refine hK.out _ _ (HSx.out _ HD1.out) (fun hHeld => ?_)
  clear hK K
  (try simp only [Act.put, List.setIfInBounds_toArray, List.set_cons_zero, List.set_cons_succ])
  refine wpAnyH_ready (rs := [4]) (by kernel_rfl) (by simp) ?_
  refine AllReadyH.cons rfl (fun K hK => ?_) AllReadyH.nil
  go_simp
  go_at_call 54
  refine (HBn.out _).mono ?_
  rintro e v2 ⟨sN, cN, rfl, hrowN, hbx⟩
  rw [show tmVal (binT a ⟨#[43]⟩ (nT 65535)) (.slice sN (binT a ⟨#[43]⟩ (nT 65535)).kids.length cN) = .agg #[.int .i64 2, .int .i64 0, .string ⟨#[43]⟩, .slice sN 2 cN] from rfl]
  have HRowN := hid (show v2.ownsRow v1.heap.size 28 4 (.slice sN 2 cN) 2 (tCells [a, nT 65535] [.slice sa la ca, .slice none 0 0]) from hrowN)
  clear hrowN
  simp only
  have HBe2 := hid (HBe1.out.trans (hbx.mono HBe1.out.size))
  have HZe2 := hid (HZe1.out.on hbx)
  have HD2 := hid (HD1.out.trans (hbx.mono (by have := HD1.out.size; omega)))
  refine hK.out _ _ (HSx.out _ HD2.out) (fun hHeld => ?_)
  clear hK K
  (try simp only [Act.put, List.setIfInBounds_toArray, List.set_cons_zero, List.set_cons_succ])
  refine wpAnyH_ready (rs := [5]) (by kernel_rfl) (by simp) ?_
  refine AllReadyH.cons rfl (fun K hK => ?_) AllReadyH.nil
  have r0 := HZe2.out.cell 0
  have r1 := HZe2.out.cell 1
  have r2 := HZe2.out.cell 2
  have r3 := HZe2.out.cell 3
  simp at r0 r1 r2 r3
  have hfr := HZe2.out.free
  have hlz := HZe2.out.lt
  go_simp
  refine hK.out _ _ (HSx.out _ (four_bel HD2.out (Nat.le_refl _) _ _ _ _)) (fun hHeld => ?_)
  clear hK K r0 r1 r2 r3 hfr
  (try simp only [Act.put, List.setIfInBounds_toArray, List.set_cons_zero, List.set_cons_succ])
  refine wpAnyH_ready (rs := [6]) (by kernel_rfl) (by simp) ?_
  refine AllReadyH.cons rfl (fun K hK => ?_) AllReadyH.nil
  go_simp
  refine hK.out _ _ hHeld (fun _ => ?_)
  clear hK K
  (try simp only [Act.put, List.setIfInBounds_toArray, List.set_cons_zero, List.set_cons_succ])
  refine wpAnyH_done (by kernel_rfl) ?_ _
  go_wp2_with fail
  refine bodyPost_ret (v := .tuple #[.agg #[.int .i64 2, .int .i64 0, .string ⟨#[43]⟩, .slice sN 2 cN], .bool true]) ?_ rfl ?_
  · exact results_cell_tmp Tryd.results145 _ _ (w.heap.size + 1) _ _ rfl (four_row HZe2.out (.int .i64 2) (.int .i64 0) (.string ⟨#[43]⟩) (.slice sN 2 cN)) Tryd.underlying28 size_term
  have hbf := four_bel HBe2.out (show w.heap.size ≤ w.heap.size + 1 by omega) (.int .i64 2) (.int .i64 0) (.string ⟨#[43]⟩) (.slice sN 2 cN)
  rw [HRt.out]
  have hz0 := HZe1.out.lt
  have hrw := own_four HRowN.out hz0 (.int .i64 2) (.int .i64 0) (.string ⟨#[43]⟩) (.slice sN 2 cN)
  have hbs := HBe1.out.size
  refine foldr_end (t := binT a ⟨#[43]⟩ (nT 65535)) (a := sN) (c := cN) rfl (fun r hr => ?_) hbf rfl
  obtain rfl : binT a ⟨#[43]⟩ (nT 65535) = r := Option.some.inj hr
  exact ⟨rfl, kp_bin hrw (fun b hb => .inr (by omega)) (HA.out.old hbf) (kp_nil m)⟩
set_option maxRecDepth 100000 in
set_option maxHeartbeats 10000000 in
theorem right_sub_65535 (m h : Nat) (P : Nat → Prop) (a : Tm) (va : Value) (w : World) (hs : shape h a = true) (ha : KP P w m va a.kids) :
    Calls Tryd.prog 145 #[.string ⟨#[45]⟩, tmVal a va, .int .i64 65535] w (FoldR (m + 1) P (rightT a ⟨#[45]⟩ 65535) w) := by
  obtain ⟨sa, ca, rfl⟩ := ha.slice
  have HA := hid ha
  have HSh := hid hs
  clear ha hs
  obtain ⟨x0, x1, x2, la, hp⟩ := Pt.of a
  have HP := hid hp
  rw [hp.val]
  rw [hp.l] at HA ⊢
  clear hp
  have HB00 := hid ((Below.refl w.heap.size w).alloc (Nat.le_refl _) (.cells #[.int .i64 x0, .int .i64 x1, .string x2, .slice sa la ca] 28))
  have HB0 := hid (HB00.out.alloc HB00.out.size (.cells #[.int .i64 0, .int .i64 0, .string ⟨#[]⟩, .slice none 0 0] 28))
  have HZ0 := hid (Row.new (w.alloc (.cells #[.int .i64 x0, .int .i64 x1, .string x2, .slice sa la ca] 28)) 28 #[.int .i64 0, .int .i64 0, .string ⟨#[]⟩, .slice none 0 0])
  have HX0 := hid ((Row.new w 28 #[.int .i64 x0, .int .i64 x1, .string x2, .slice sa la ca]).alloc (.cells #[.int .i64 0, .int .i64 0, .string ⟨#[]⟩, .slice none 0 0] 28))
  have HBa := hid (HB00.out.alloc HB00.out.size (.cells #[.int .i64 x0, .int .i64 x1, .string x2, .slice sa la ca] 28))
  have HZa := hid (Row.new (w.alloc (.cells #[.int .i64 x0, .int .i64 x1, .string x2, .slice sa la ca] 28)) 28 #[.int .i64 x0, .int .i64 x1, .string x2, .slice sa la ca])
  simp only [World.size_alloc] at HZ0 HZa
  have HRt := hid (show rightT a ⟨#[45]⟩ 65535 = some (binT a ⟨#[43]⟩ (nT 1)) by simp [rightT, opIs])
  have HBn := hid (fun (wx : World) => (show Calls Tryd.prog 54 #[.string ⟨#[43]⟩, .agg #[.int .i64 x0, .int .i64 x1, .string x2, .slice sa la ca], .agg #[.int .i64 0, .int .i64 1, .string ⟨#[]⟩, .slice none 0 0]] wx (MadePost (binT a ⟨#[43]⟩ (nT 1)) [.slice sa la ca, .slice none 0 0] wx) from HP.out.val (.slice sa la ca) ▸ bin_c ⟨#[43]⟩ a (nT 1) (.slice sa la ca) (.slice none 0 0) wx))
  have HNm := hid (fun (wx : World) => (show Calls Tryd.prog 93 #[.int .i64 (-65535)] wx (fun e w' => e = .returned (tmVal (nT 1) (.slice none 0 0)) ∧ Below wx.heap.size wx w') from num_c (-65535) wx))
  go_enter Tryd.func145, Tryd.ntmps145
  go_upto_region 14 with fail
  generalize ((w.alloc (.cells #[.int .i64 x0, .int .i64 x1, .string x2, .slice sa la ca] 28)).alloc (.cells #[.int .i64 0, .int .i64 0, .string ⟨#[]⟩, .slice none 0 0] 28)) = w0 at HB0 HX0 HZ0 ⊢
  have HBe0 := hid (HB0.out.drew)
  have HZe0 := hid (HZ0.out.drew)
  have hx0 := HZ0.out.lt
  have HSx := hid (fun (wx : World) (hbx : Below (w.heap.size + 1) w0 wx) => (show wx.cell? ⟨w.heap.size, 0, none⟩ = some (.int .i64 x0) ∧ wx.cell? ⟨w.heap.size, 1, none⟩ = some (.int .i64 x1) ∧ wx.cell? ⟨w.heap.size, 2, none⟩ = some (.string x2) ∧ wx.cell? ⟨w.heap.size, 3, none⟩ = some (.slice sa la ca) from by
    have c0 := (HX0.out.below hbx (Nat.lt_succ_self _)).cell 0
    have c1 := (HX0.out.below hbx (Nat.lt_succ_self _)).cell 1
    have c2 := (HX0.out.below hbx (Nat.lt_succ_self _)).cell 2
    have c3 := (HX0.out.below hbx (Nat.lt_succ_self _)).cell 3
    exact ⟨c0, c1, c2, c3⟩))
  have HD0 := hid (show Below (w.heap.size + 1) w0 w0.drew from (Below.refl w0.heap.size w0).drew.mono (by omega))
  refine wp_region_held_drew (S := fun w' => w'.cell? ⟨w.heap.size, 0, none⟩ = some (.int .i64 x0) ∧ w'.cell? ⟨w.heap.size, 1, none⟩ = some (.int .i64 x1) ∧ w'.cell? ⟨w.heap.size, 2, none⟩ = some (.string x2) ∧ w'.cell? ⟨w.heap.size, 3, none⟩ = some (.slice sa la ca)) (by kernel_rfl) (HSx.out _ HD0.out) (fun hHeld => ?_)
  refine wpAnyH_take (i := 0) (v := _) rfl (by kernel_rfl) (by kernel_rfl) (by kernel_rfl) (fun _ _ _ h => h) (Or.inl ⟨by rfl, by (intro w hSw; (try dsimp only at hSw); go_simp; first | done | with_reducible rfl)⟩) hHeld ?_
  (try simp only [Act.put, List.setIfInBounds_toArray, List.set_cons_zero, List.set_cons_succ])
  refine wpAnyH_take (i := 1) (v := _) rfl (by kernel_rfl) (by kernel_rfl) (by kernel_rfl) (fun _ _ _ h => h) (Or.inl ⟨by rfl, by (intro w hSw; (try dsimp only at hSw); go_simp; first | done | with_reducible rfl)⟩) hHeld ?_
  (try simp only [Act.put, List.setIfInBounds_toArray, List.set_cons_zero, List.set_cons_succ])
  refine wpAnyH_take (i := 2) (v := _) rfl (by kernel_rfl) (by kernel_rfl) (by kernel_rfl) (fun _ _ _ h => h) (Or.inl ⟨by rfl, by (intro w hSw; (try dsimp only at hSw); go_simp; first | done | with_reducible rfl)⟩) hHeld ?_
  (try simp only [Act.put, List.setIfInBounds_toArray, List.set_cons_zero, List.set_cons_succ])
  generalize w0.drew = v0 at HBe0 HZe0 HD0 hHeld ⊢
  refine wpAnyH_ready (rs := [3]) (by kernel_rfl) (by simp) ?_
  refine AllReadyH.cons rfl (fun K hK => ?_) AllReadyH.nil
  go_simp
  go_at_call 93
  refine (HNm.out _).mono ?_
  rintro e v1 ⟨rfl, hbx⟩
  rw [nT_val]
  simp only
  have HBe1 := hid (HBe0.out.trans (hbx.mono HBe0.out.size))
  have HZe1 := hid (HZe0.out.on hbx)
  have HD1 := hid (HD0.out.trans (hbx.mono (by have := HD0.out.size; omega)))
  refine hK.out _ _ (HSx.out _ HD1.out) (fun hHeld => ?_)
  clear hK K
  (try simp only [Act.put, List.setIfInBounds_toArray, List.set_cons_zero, List.set_cons_succ])
  refine wpAnyH_ready (rs := [4]) (by kernel_rfl) (by simp) ?_
  refine AllReadyH.cons rfl (fun K hK => ?_) AllReadyH.nil
  go_simp
  go_at_call 54
  refine (HBn.out _).mono ?_
  rintro e v2 ⟨sN, cN, rfl, hrowN, hbx⟩
  rw [show tmVal (binT a ⟨#[43]⟩ (nT 1)) (.slice sN (binT a ⟨#[43]⟩ (nT 1)).kids.length cN) = .agg #[.int .i64 2, .int .i64 0, .string ⟨#[43]⟩, .slice sN 2 cN] from rfl]
  have HRowN := hid (show v2.ownsRow v1.heap.size 28 4 (.slice sN 2 cN) 2 (tCells [a, nT 1] [.slice sa la ca, .slice none 0 0]) from hrowN)
  clear hrowN
  simp only
  have HBe2 := hid (HBe1.out.trans (hbx.mono HBe1.out.size))
  have HZe2 := hid (HZe1.out.on hbx)
  have HD2 := hid (HD1.out.trans (hbx.mono (by have := HD1.out.size; omega)))
  refine hK.out _ _ (HSx.out _ HD2.out) (fun hHeld => ?_)
  clear hK K
  (try simp only [Act.put, List.setIfInBounds_toArray, List.set_cons_zero, List.set_cons_succ])
  refine wpAnyH_ready (rs := [5]) (by kernel_rfl) (by simp) ?_
  refine AllReadyH.cons rfl (fun K hK => ?_) AllReadyH.nil
  have r0 := HZe2.out.cell 0
  have r1 := HZe2.out.cell 1
  have r2 := HZe2.out.cell 2
  have r3 := HZe2.out.cell 3
  simp at r0 r1 r2 r3
  have hfr := HZe2.out.free
  have hlz := HZe2.out.lt
  go_simp
  refine hK.out _ _ (HSx.out _ (four_bel HD2.out (Nat.le_refl _) _ _ _ _)) (fun hHeld => ?_)
  clear hK K r0 r1 r2 r3 hfr
  (try simp only [Act.put, List.setIfInBounds_toArray, List.set_cons_zero, List.set_cons_succ])
  refine wpAnyH_ready (rs := [6]) (by kernel_rfl) (by simp) ?_
  refine AllReadyH.cons rfl (fun K hK => ?_) AllReadyH.nil
  go_simp
  refine hK.out _ _ hHeld (fun _ => ?_)
  clear hK K
  (try simp only [Act.put, List.setIfInBounds_toArray, List.set_cons_zero, List.set_cons_succ])
  refine wpAnyH_done (by kernel_rfl) ?_ _
  go_wp2_with fail
  refine bodyPost_ret (v := .tuple #[.agg #[.int .i64 2, .int .i64 0, .string ⟨#[43]⟩, .slice sN 2 cN], .bool true]) ?_ rfl ?_
  · exact results_cell_tmp Tryd.results145 _ _ (w.heap.size + 1) _ _ rfl (four_row HZe2.out (.int .i64 2) (.int .i64 0) (.string ⟨#[43]⟩) (.slice sN 2 cN)) Tryd.underlying28 size_term
  have hbf := four_bel HBe2.out (show w.heap.size ≤ w.heap.size + 1 by omega) (.int .i64 2) (.int .i64 0) (.string ⟨#[43]⟩) (.slice sN 2 cN)
  rw [HRt.out]
  have hz0 := HZe1.out.lt
  have hrw := own_four HRowN.out hz0 (.int .i64 2) (.int .i64 0) (.string ⟨#[43]⟩) (.slice sN 2 cN)
  have hbs := HBe1.out.size
  refine foldr_end (t := binT a ⟨#[43]⟩ (nT 1)) (a := sN) (c := cN) rfl (fun r hr => ?_) hbf rfl
  obtain rfl : binT a ⟨#[43]⟩ (nT 1) = r := Option.some.inj hr
  exact ⟨rfl, kp_bin hrw (fun b hb => .inr (by omega)) (HA.out.old hbf) (kp_nil m)⟩
set_option maxRecDepth 100000 in
set_option maxHeartbeats 10000000 in
theorem right_sub_n (m h : Nat) (P : Nat → Prop) (a : Tm) (va : Value) (n : Int) (hn : 0 ≤ n ∧ n ≤ 65535) (hn0 : ¬ n = 0) (hn1 : ¬ n = 1) (hn2 : ¬ n = 65535) (w : World) (hs : shape h a = true) (ha : KP P w m va a.kids) :
    Calls Tryd.prog 145 #[.string ⟨#[45]⟩, tmVal a va, .int .i64 n] w (FoldR (m + 1) P (rightT a ⟨#[45]⟩ n) w) := by
  have HN := hid hn
  clear hn
  obtain ⟨sa, ca, rfl⟩ := ha.slice
  have HA := hid ha
  have HSh := hid hs
  clear ha hs
  obtain ⟨x0, x1, x2, la, hp⟩ := Pt.of a
  have HP := hid hp
  rw [hp.val]
  rw [hp.l] at HA ⊢
  clear hp
  have HB00 := hid ((Below.refl w.heap.size w).alloc (Nat.le_refl _) (.cells #[.int .i64 x0, .int .i64 x1, .string x2, .slice sa la ca] 28))
  have HB0 := hid (HB00.out.alloc HB00.out.size (.cells #[.int .i64 0, .int .i64 0, .string ⟨#[]⟩, .slice none 0 0] 28))
  have HZ0 := hid (Row.new (w.alloc (.cells #[.int .i64 x0, .int .i64 x1, .string x2, .slice sa la ca] 28)) 28 #[.int .i64 0, .int .i64 0, .string ⟨#[]⟩, .slice none 0 0])
  have HX0 := hid ((Row.new w 28 #[.int .i64 x0, .int .i64 x1, .string x2, .slice sa la ca]).alloc (.cells #[.int .i64 0, .int .i64 0, .string ⟨#[]⟩, .slice none 0 0] 28))
  have HBa := hid (HB00.out.alloc HB00.out.size (.cells #[.int .i64 x0, .int .i64 x1, .string x2, .slice sa la ca] 28))
  have HZa := hid (Row.new (w.alloc (.cells #[.int .i64 x0, .int .i64 x1, .string x2, .slice sa la ca] 28)) 28 #[.int .i64 x0, .int .i64 x1, .string x2, .slice sa la ca])
  simp only [World.size_alloc] at HZ0 HZa
  have HRt := hid (show rightT a ⟨#[45]⟩ n = some (binT a ⟨#[43]⟩ (nT ((-n) % 65536))) by simp [rightT, opIs, hn0, hn1, hn2])
  have HBn := hid (fun (wx : World) => (show Calls Tryd.prog 54 #[.string ⟨#[43]⟩, .agg #[.int .i64 x0, .int .i64 x1, .string x2, .slice sa la ca], .agg #[.int .i64 0, .int .i64 ((-n) % 65536), .string ⟨#[]⟩, .slice none 0 0]] wx (MadePost (binT a ⟨#[43]⟩ (nT ((-n) % 65536))) [.slice sa la ca, .slice none 0 0] wx) from HP.out.val (.slice sa la ca) ▸ bin_c ⟨#[43]⟩ a (nT ((-n) % 65536)) (.slice sa la ca) (.slice none 0 0) wx))
  have hnb0 : (n == 0) = false := by simpa using hn0
  have hnb1 : (n == 1) = false := by simpa using hn1
  have hnb2 : (n == 65535) = false := by simpa using hn2
  clear hn0 hn1 hn2
  have hn := HN.out
  have hng : IntKind.wrap .i64 (-n) = -n := IntWalk.i64_in _ (by omega)
  go_enter Tryd.func145, Tryd.ntmps145
  go_upto_region 14 with fail
  generalize ((w.alloc (.cells #[.int .i64 x0, .int .i64 x1, .string x2, .slice sa la ca] 28)).alloc (.cells #[.int .i64 0, .int .i64 0, .string ⟨#[]⟩, .slice none 0 0] 28)) = w0 at HB0 HX0 HZ0 ⊢
  have HBe0 := hid (HB0.out.drew)
  have HZe0 := hid (HZ0.out.drew)
  have hx0 := HZ0.out.lt
  have HSx := hid (fun (wx : World) (hbx : Below (w.heap.size + 1) w0 wx) => (show wx.cell? ⟨w.heap.size, 0, none⟩ = some (.int .i64 x0) ∧ wx.cell? ⟨w.heap.size, 1, none⟩ = some (.int .i64 x1) ∧ wx.cell? ⟨w.heap.size, 2, none⟩ = some (.string x2) ∧ wx.cell? ⟨w.heap.size, 3, none⟩ = some (.slice sa la ca) from by
    have c0 := (HX0.out.below hbx (Nat.lt_succ_self _)).cell 0
    have c1 := (HX0.out.below hbx (Nat.lt_succ_self _)).cell 1
    have c2 := (HX0.out.below hbx (Nat.lt_succ_self _)).cell 2
    have c3 := (HX0.out.below hbx (Nat.lt_succ_self _)).cell 3
    exact ⟨c0, c1, c2, c3⟩))
  have HD0 := hid (show Below (w.heap.size + 1) w0 w0.drew from (Below.refl w0.heap.size w0).drew.mono (by omega))
  refine wp_region_held_drew (S := fun w' => w'.cell? ⟨w.heap.size, 0, none⟩ = some (.int .i64 x0) ∧ w'.cell? ⟨w.heap.size, 1, none⟩ = some (.int .i64 x1) ∧ w'.cell? ⟨w.heap.size, 2, none⟩ = some (.string x2) ∧ w'.cell? ⟨w.heap.size, 3, none⟩ = some (.slice sa la ca)) (by kernel_rfl) (HSx.out _ HD0.out) (fun hHeld => ?_)
  refine wpAnyH_take (i := 0) (v := _) rfl (by kernel_rfl) (by kernel_rfl) (by kernel_rfl) (fun _ _ _ h => h) (Or.inl ⟨by rfl, by (intro w hSw; (try dsimp only at hSw); go_simp; first | done | with_reducible rfl)⟩) hHeld ?_
  (try simp only [Act.put, List.setIfInBounds_toArray, List.set_cons_zero, List.set_cons_succ])
  refine wpAnyH_take (i := 1) (v := _) rfl (by kernel_rfl) (by kernel_rfl) (by kernel_rfl) (fun _ _ _ h => h) (Or.inl ⟨by rfl, by (intro w hSw; (try dsimp only at hSw); go_simp; first | done | with_reducible rfl)⟩) hHeld ?_
  (try simp only [Act.put, List.setIfInBounds_toArray, List.set_cons_zero, List.set_cons_succ])
  refine wpAnyH_take (i := 2) (v := _) rfl (by kernel_rfl) (by kernel_rfl) (by kernel_rfl) (fun _ _ _ h => h) (Or.inl ⟨by rfl, by (intro w hSw; (try dsimp only at hSw); go_simp; first | done | with_reducible rfl)⟩) hHeld ?_
  (try simp only [Act.put, List.setIfInBounds_toArray, List.set_cons_zero, List.set_cons_succ])
  generalize w0.drew = v0 at HBe0 HZe0 HD0 hHeld ⊢
  refine wpAnyH_ready (rs := [3]) (by kernel_rfl) (by simp) ?_
  refine AllReadyH.cons rfl (fun K hK => ?_) AllReadyH.nil
  go_simp
  go_at_call 93
  refine (num_c _ _).mono ?_
  rintro e v1 ⟨rfl, hbx⟩
  (try rw [hng])
  rw [nT_val]
  simp only
  have HBe1 := hid (HBe0.out.trans (hbx.mono HBe0.out.size))
  have HZe1 := hid (HZe0.out.on hbx)
  have HD1 := hid (HD0.out.trans (hbx.mono (by have := HD0.out.size; omega)))
  refine hK.out _ _ (HSx.out _ HD1.out) (fun hHeld => ?_)
  clear hK K
  (try simp only [Act.put, List.setIfInBounds_toArray, List.set_cons_zero, List.set_cons_succ])
  refine wpAnyH_ready (rs := [4]) (by kernel_rfl) (by simp) ?_
  refine AllReadyH.cons rfl (fun K hK => ?_) AllReadyH.nil
  go_simp
  go_at_call 54
  refine (HBn.out _).mono ?_
  rintro e v2 ⟨sN, cN, rfl, hrowN, hbx⟩
  rw [show tmVal (binT a ⟨#[43]⟩ (nT ((-n) % 65536))) (.slice sN (binT a ⟨#[43]⟩ (nT ((-n) % 65536))).kids.length cN) = .agg #[.int .i64 2, .int .i64 0, .string ⟨#[43]⟩, .slice sN 2 cN] from rfl]
  have HRowN := hid (show v2.ownsRow v1.heap.size 28 4 (.slice sN 2 cN) 2 (tCells [a, nT ((-n) % 65536)] [.slice sa la ca, .slice none 0 0]) from hrowN)
  clear hrowN
  simp only
  have HBe2 := hid (HBe1.out.trans (hbx.mono HBe1.out.size))
  have HZe2 := hid (HZe1.out.on hbx)
  have HD2 := hid (HD1.out.trans (hbx.mono (by have := HD1.out.size; omega)))
  refine hK.out _ _ (HSx.out _ HD2.out) (fun hHeld => ?_)
  clear hK K
  (try simp only [Act.put, List.setIfInBounds_toArray, List.set_cons_zero, List.set_cons_succ])
  refine wpAnyH_ready (rs := [5]) (by kernel_rfl) (by simp) ?_
  refine AllReadyH.cons rfl (fun K hK => ?_) AllReadyH.nil
  have r0 := HZe2.out.cell 0
  have r1 := HZe2.out.cell 1
  have r2 := HZe2.out.cell 2
  have r3 := HZe2.out.cell 3
  simp at r0 r1 r2 r3
  have hfr := HZe2.out.free
  have hlz := HZe2.out.lt
  go_simp
  refine hK.out _ _ (HSx.out _ (four_bel HD2.out (Nat.le_refl _) _ _ _ _)) (fun hHeld => ?_)
  clear hK K r0 r1 r2 r3 hfr
  (try simp only [Act.put, List.setIfInBounds_toArray, List.set_cons_zero, List.set_cons_succ])
  refine wpAnyH_ready (rs := [6]) (by kernel_rfl) (by simp) ?_
  refine AllReadyH.cons rfl (fun K hK => ?_) AllReadyH.nil
  go_simp
  refine hK.out _ _ hHeld (fun _ => ?_)
  clear hK K
  (try simp only [Act.put, List.setIfInBounds_toArray, List.set_cons_zero, List.set_cons_succ])
  refine wpAnyH_done (by kernel_rfl) ?_ _
  go_wp2_with fail
  refine bodyPost_ret (v := .tuple #[.agg #[.int .i64 2, .int .i64 0, .string ⟨#[43]⟩, .slice sN 2 cN], .bool true]) ?_ rfl ?_
  · exact results_cell_tmp Tryd.results145 _ _ (w.heap.size + 1) _ _ rfl (four_row HZe2.out (.int .i64 2) (.int .i64 0) (.string ⟨#[43]⟩) (.slice sN 2 cN)) Tryd.underlying28 size_term
  have hbf := four_bel HBe2.out (show w.heap.size ≤ w.heap.size + 1 by omega) (.int .i64 2) (.int .i64 0) (.string ⟨#[43]⟩) (.slice sN 2 cN)
  rw [HRt.out]
  have hz0 := HZe1.out.lt
  have hrw := own_four HRowN.out hz0 (.int .i64 2) (.int .i64 0) (.string ⟨#[43]⟩) (.slice sN 2 cN)
  have hbs := HBe1.out.size
  refine foldr_end (t := binT a ⟨#[43]⟩ (nT ((-n) % 65536))) (a := sN) (c := cN) rfl (fun r hr => ?_) hbf rfl
  obtain rfl : binT a ⟨#[43]⟩ (nT ((-n) % 65536)) = r := Option.some.inj hr
  exact ⟨rfl, kp_bin hrw (fun b hb => .inr (by omega)) (HA.out.old hbf) (kp_nil m)⟩
end Go.Proofs.YtffibmlgdacafaaDoor.Um
