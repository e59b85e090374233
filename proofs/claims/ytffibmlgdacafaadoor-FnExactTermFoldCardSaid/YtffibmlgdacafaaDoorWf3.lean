/- Simpler terms: a term with an operator and a word behind it, by the program: truths. -/
import Derived.Test.YtffibmlgdacafaaDoorWf1
set_option linter.unusedSimpArgs false
set_option linter.unusedVariables false
namespace Go.Proofs.YtffibmlgdacafaaDoor.Um
open Go.RowKit Pl Ft Mm In C2 Im

set_option maxRecDepth 100000 in
set_option maxHeartbeats 8000000 in
theorem ahead_eq_0 (m lo f0 g0 G h : Nat) (a : Tm) (va : Value) (w : World) (hs : shape h a = true) (ha : KOwn w m f0 g0 va a.kids) (hlo : lo ≤ f0) (hhi : g0 ≤ G) (hG : G ≤ w.heap.size) (hT : Tabs w) :
    Calls Tryd.prog 151 #[tmVal a va, .string ⟨#[61, 61]⟩, .int .i64 0] w (FoldPost (m + 1) lo G (rightT a ⟨#[61, 61]⟩ 0) w) := by
  obtain ⟨sa, ca, rfl⟩ := ha.slice
  have HLw := hid (show lo ≤ w.heap.size by have := ha.le; omega)
  have HA := hid ha
  have HLo := hid hlo
  have HHi := hid hhi
  have HG := hid hG
  have HT := hid hT
  have HSh := hid hs
  clear ha hlo hhi hT hs hG
  obtain ⟨x0, x1, x2, la, hp⟩ := Pt.of a
  have HP := hid hp
  rw [hp.val]
  rw [hp.l] at HA ⊢
  clear hp
  have HB00 := hid ((Below.refl w.heap.size w).alloc (Nat.le_refl _) (.cells #[.int .i64 x0, .int .i64 x1, .string x2, .slice sa la ca] 28))
  have HB0 := hid (HB00.out.alloc HB00.out.size (.cells #[.int .i64 0, .int .i64 0, .string ⟨#[]⟩, .slice none 0 0] 28))
  have HZ0 := hid (Row.new (w.alloc (.cells #[.int .i64 x0, .int .i64 x1, .string x2, .slice sa la ca] 28)) 28 #[.int .i64 0, .int .i64 0, .string ⟨#[]⟩, .slice none 0 0])
  have HX0 := hid ((Row.new w 28 #[.int .i64 x0, .int .i64 x1, .string x2, .slice sa la ca]).alloc (.cells #[.int .i64 0, .int .i64 0, .string ⟨#[]⟩, .slice none 0 0] 28))
  have HBa := hid (HB00.out.alloc HB00.out.size (.cells #[.int .i64 x0, .int .i64 x1, .string x2, .slice sa la ca] 28))
  have HZa := hid (Row.new (w.alloc (.cells #[.int .i64 x0, .int .i64 x1, .string x2, .slice sa la ca] 28)) 28 #[.int .i64 x0, .int .i64 x1, .string x2, .slice sa la ca])
  simp only [World.size_alloc] at HZ0 HZa
  have q0 := eql_wb ⟨#[61, 61]⟩ ⟨#[43]⟩ 0 0 (b := false) (by decide)
  have q1 := eql_wb ⟨#[61, 61]⟩ ⟨#[45]⟩ 0 0 (b := false) (by decide)
  have q2 := eql_wb ⟨#[61, 61]⟩ ⟨#[124]⟩ 0 0 (b := false) (by decide)
  have q3 := eql_wb ⟨#[61, 61]⟩ ⟨#[94]⟩ 0 0 (b := false) (by decide)
  have q4 := eql_wb ⟨#[61, 61]⟩ ⟨#[42]⟩ 0 1 (b := false) (by decide)
  have q5 := eql_wb ⟨#[61, 61]⟩ ⟨#[38]⟩ 0 65535 (b := false) (by decide)
  have q6 := eql_wb ⟨#[61, 61]⟩ ⟨#[42]⟩ 0 0 (b := false) (by decide)
  have q7 := eql_wb ⟨#[61, 61]⟩ ⟨#[38]⟩ 0 0 (b := false) (by decide)
  have q8 := eql_wb ⟨#[61, 61]⟩ ⟨#[60, 60]⟩ 0 0 (b := false) (by decide)
  have q9 := eql_wb ⟨#[61, 61]⟩ ⟨#[124]⟩ 0 65535 (b := false) (by decide)
  have q10 := eql_wb ⟨#[61, 61]⟩ ⟨#[61, 61]⟩ 0 0 (b := true) (by decide)
  have hgd := fun op a b ys => guard_wb op a b #[.string ⟨#[61, 61]⟩, .int .i64 0] ys
  go_enter Tryd.func151, Tryd.ntmps151
  obtain ⟨b, hb⟩ : ∃ b, truthT a = b := ⟨_, rfl⟩
  have HRt := hid (show rightT a ⟨#[61, 61]⟩ 0 = if b = true then some (notT a) else none by rw [← hb]; simp [rightT, opIs])
  have HTr := hid (fun (wx : World) (u : Value) (hT : Tabs wx) => (show Calls Tryd.prog 155 #[.agg #[.int .i64 x0, .int .i64 x1, .string x2, u]] wx (fun e w' => e = .returned (.bool b) ∧ Below wx.heap.size wx w') from hb ▸ isTruth_v HP.out HSh.out hT))
  clear hb
  have HNt := hid (fun (wx : World) => (show Calls Tryd.prog 100 #[.agg #[.int .i64 x0, .int .i64 x1, .string x2, .slice sa la ca]] wx (MadePost (notT a) [.slice sa la ca] wx) from HP.out.val (.slice sa la ca) ▸ notTerm_c a (.slice sa la ca) wx))
  go_upto_region 16 with fail
  generalize ((w.alloc (.cells #[.int .i64 x0, .int .i64 x1, .string x2, .slice sa la ca] 28)).alloc (.cells #[.int .i64 0, .int .i64 0, .string ⟨#[]⟩, .slice none 0 0] 28)) = w0 at HB0 HX0 HZ0 ⊢
  have HBe0 := hid (HB0.out.drew)
  have HZe0 := hid (HZ0.out.drew)
  have hx0 := HZ0.out.lt
  have HSx := hid (fun (wx : World) (hbx : Below (w.heap.size + 1) w0 wx) => (show wx.cell? ⟨w.heap.size, 0, none⟩ = some (.int .i64 x0) ∧ wx.cell? ⟨w.heap.size, 1, none⟩ = some (.int .i64 x1) ∧ wx.cell? ⟨w.heap.size, 2, none⟩ = some (.string x2) ∧ wx.cell? ⟨w.heap.size, 3, none⟩ = some (.slice sa la ca) from by
    have c0 := (HX0.out.below hbx (Nat.lt_succ_self _)).cell 0
    have c1 := (HX0.out.below hbx (Nat.lt_succ_self _)).cell 1
    have c2 := (HX0.out.below hbx (Nat.lt_succ_self _)).cell 2
    have c3 := (HX0.out.below hbx (Nat.lt_succ_self _)).cell 3
    exact ⟨c0, c1, c2, c3⟩))
  have HD0 := hid (show Below (w.heap.size + 1) w0 w0.drew from (Below.refl w0.heap.size w0).drew.mono (by omega))
  refine wp_region_held_drew (S := fun w' => w'.cell? ⟨w.heap.size, 0, none⟩ = some (.int .i64 x0) ∧ w'.cell? ⟨w.heap.size, 1, none⟩ = some (.int .i64 x1) ∧ w'.cell? ⟨w.heap.size, 2, none⟩ = some (.string x2) ∧ w'.cell? ⟨w.heap.size, 3, none⟩ = some (.slice sa la ca)) (by kernel_rfl) (HSx.out _ HD0.out) (fun hHeld => ?_)
  refine wpAnyH_take (i := 0) (v := _) rfl (by kernel_rfl) (by kernel_rfl) (by kernel_rfl) (fun _ _ _ h => h) (Or.inl ⟨by rfl, by (intro w hSw; (try dsimp only at hSw); go_simp; first | done | with_reducible rfl)⟩) hHeld ?_
  (try simp only [Act.put, List.setIfInBounds_toArray, List.set_cons_zero, List.set_cons_succ])
  refine wpAnyH_take (i := 2) (v := _) rfl (by kernel_rfl) (by kernel_rfl) (by kernel_rfl) (fun _ _ _ h => h) (Or.inl ⟨by rfl, by (intro w hSw; (try dsimp only at hSw); go_simp; first | done | with_reducible rfl)⟩) hHeld ?_
  (try simp only [Act.put, List.setIfInBounds_toArray, List.set_cons_zero, List.set_cons_succ])
  generalize w0.drew = v0 at HBe0 HZe0 HD0 hHeld ⊢
  refine wpAnyH_ready (rs := [1]) (by kernel_rfl) (by simp) ?_
  refine AllReadyH.cons rfl (fun K hK => ?_) AllReadyH.nil
  go_simp
  go_at_call 100
  refine (HNt.out _).mono ?_
  rintro e v1 ⟨sN, cN, rfl, hrowN, hbx⟩
  rw [show tmVal (notT a) (.slice sN (notT a).kids.length cN) = .agg #[.int .i64 3, .int .i64 0, .string ⟨#[]⟩, .slice sN 1 cN] from rfl]
  have HRowN := hid (show v1.ownsRow v0.heap.size 28 4 (.slice sN 1 cN) 1 (tCells [a] [.slice sa la ca]) from hrowN)
  have HB01 := hid hbx
  clear hrowN
  simp only
  have HBe1 := hid (HBe0.out.trans (hbx.mono HBe0.out.size))
  have HZe1 := hid (HZe0.out.on hbx)
  have HD1 := hid (HD0.out.trans (hbx.mono (by have := HD0.out.size; omega)))
  refine hK.out _ _ (HSx.out _ HD1.out) (fun hHeld => ?_)
  clear hK K
  (try simp only [Act.put, List.setIfInBounds_toArray, List.set_cons_zero, List.set_cons_succ])
  refine wpAnyH_ready (rs := [3]) (by kernel_rfl) (by simp) ?_
  refine AllReadyH.cons rfl (fun K hK => ?_) AllReadyH.nil
  go_simp
  go_at_call 155
  refine (HTr.out _ _ (HT.out.on HBe1.out)).mono ?_
  rintro e v2 ⟨rfl, hbx⟩
  have HB12 := hid hbx
  simp only
  have HBe2 := hid (HBe1.out.trans (hbx.mono HBe1.out.size))
  have HZe2 := hid (HZe1.out.on hbx)
  have HD2 := hid (HD1.out.trans (hbx.mono (by have := HD1.out.size; omega)))
  refine hK.out _ _ (HSx.out _ HD2.out) (fun hHeld => ?_)
  clear hK K
  (try simp only [Act.put, List.setIfInBounds_toArray, List.set_cons_zero, List.set_cons_succ])
  refine wpAnyH_ready (rs := [4]) (by kernel_rfl) (by simp) ?_
  refine AllReadyH.cons rfl (fun K hK => ?_) AllReadyH.nil
  have r0 := HZe2.out.cell 0
  have r1 := HZe2.out.cell 1
  have r2 := HZe2.out.cell 2
  have r3 := HZe2.out.cell 3
  simp at r0 r1 r2 r3
  have hfr := HZe2.out.free
  have hlz := HZe2.out.lt
  go_simp
  refine hK.out _ _ (HSx.out _ (four_bel HD2.out (Nat.le_refl _) _ _ _ _)) (fun hHeld => ?_)
  clear hK K r0 r1 r2 r3 hfr
  (try simp only [Act.put, List.setIfInBounds_toArray, List.set_cons_zero, List.set_cons_succ])
  refine wpAnyH_ready (rs := [5]) (by kernel_rfl) (by simp) ?_
  refine AllReadyH.cons rfl (fun K hK => ?_) AllReadyH.nil
  go_simp
  refine hK.out _ _ hHeld (fun _ => ?_)
  clear hK K
  (try simp only [Act.put, List.setIfInBounds_toArray, List.set_cons_zero, List.set_cons_succ])
  refine wpAnyH_done (by kernel_rfl) ?_ _
  go_wp2_with fail
  refine bodyPost_ret (v := .tuple #[.agg #[.int .i64 3, .int .i64 0, .string ⟨#[]⟩, .slice sN 1 cN], .bool b]) ?_ rfl ?_
  · exact results_cell_tmp Tryd.results151 _ _ (w.heap.size + 1) _ _ rfl (four_row HZe2.out (.int .i64 3) (.int .i64 0) (.string ⟨#[]⟩) (.slice sN 1 cN)) Tryd.underlying28 size_term
  have hbf := four_bel HBe2.out (show w.heap.size ≤ w.heap.size + 1 by omega) (.int .i64 3) (.int .i64 0) (.string ⟨#[]⟩) (.slice sN 1 cN)
  rw [HRt.out]
  have hz0 := HZe0.out.lt
  have hz1 := HB01.out.size
  have hz2 := HB12.out.size
  have hlo := HLo.out
  have hhi := HHi.out
  have hlw := HLw.out
  have hrw := own_four (own_on HRowN.out HB12.out) hz0 (.int .i64 3) (.int .i64 0) (.string ⟨#[]⟩) (.slice sN 1 cN)
  cases b
  · exact fold_end (t := notT a) (a := sN) (c := cN) rfl (fun r hr => by cases hr) hbf rfl
  · refine fold_end (t := notT a) (a := sN) (c := cN) rfl (fun r hr => ?_) hbf rfl
    obtain rfl : notT a = r := Option.some.inj hr
    exact ⟨rfl, fun x hx hk => own_not (own_same hrw (fun g hg => hk g (.inr (by have := (hrw.lt g hg).1; omega)) ((hrw.lt g hg).2))) (keep_old HA.out HHi.out HG.out hbf x hk) hlo (by have := HG.out; omega) (by omega) (by rw [four_size] at hx; omega)⟩
set_option maxRecDepth 100000 in
set_option maxHeartbeats 8000000 in
theorem ahead_eq_1 (m lo f0 g0 G h : Nat) (a : Tm) (va : Value) (w : World) (hs : shape h a = true) (ha : KOwn w m f0 g0 va a.kids) (hlo : lo ≤ f0) (hhi : g0 ≤ G) (hG : G ≤ w.heap.size) (hT : Tabs w) :
    Calls Tryd.prog 151 #[tmVal a va, .string ⟨#[61, 61]⟩, .int .i64 1] w (FoldPost (m + 1) lo G (rightT a ⟨#[61, 61]⟩ 1) w) := by
  obtain ⟨sa, ca, rfl⟩ := ha.slice
  have HLw := hid (show lo ≤ w.heap.size by have := ha.le; omega)
  have HA := hid ha
  have HLo := hid hlo
  have HHi := hid hhi
  have HG := hid hG
  have HT := hid hT
  have HSh := hid hs
  clear ha hlo hhi hT hs hG
  obtain ⟨x0, x1, x2, la, hp⟩ := Pt.of a
  have HP := hid hp
  rw [hp.val]
  rw [hp.l] at HA ⊢
  clear hp
  have HB00 := hid ((Below.refl w.heap.size w).alloc (Nat.le_refl _) (.cells #[.int .i64 x0, .int .i64 x1, .string x2, .slice sa la ca] 28))
  have HB0 := hid (HB00.out.alloc HB00.out.size (.cells #[.int .i64 0, .int .i64 0, .string ⟨#[]⟩, .slice none 0 0] 28))
  have HZ0 := hid (Row.new (w.alloc (.cells #[.int .i64 x0, .int .i64 x1, .string x2, .slice sa la ca] 28)) 28 #[.int .i64 0, .int .i64 0, .string ⟨#[]⟩, .slice none 0 0])
  have HX0 := hid ((Row.new w 28 #[.int .i64 x0, .int .i64 x1, .string x2, .slice sa la ca]).alloc (.cells #[.int .i64 0, .int .i64 0, .string ⟨#[]⟩, .slice none 0 0] 28))
  have HBa := hid (HB00.out.alloc HB00.out.size (.cells #[.int .i64 x0, .int .i64 x1, .string x2, .slice sa la ca] 28))
  have HZa := hid (Row.new (w.alloc (.cells #[.int .i64 x0, .int .i64 x1, .string x2, .slice sa la ca] 28)) 28 #[.int .i64 x0, .int .i64 x1, .string x2, .slice sa la ca])
  simp only [World.size_alloc] at HZ0 HZa
  have q0 := eql_wb ⟨#[61, 61]⟩ ⟨#[43]⟩ 1 0 (b := false) (by decide)
  have q1 := eql_wb ⟨#[61, 61]⟩ ⟨#[45]⟩ 1 0 (b := false) (by decide)
  have q2 := eql_wb ⟨#[61, 61]⟩ ⟨#[124]⟩ 1 0 (b := false) (by decide)
  have q3 := eql_wb ⟨#[61, 61]⟩ ⟨#[94]⟩ 1 0 (b := false) (by decide)
  have q4 := eql_wb ⟨#[61, 61]⟩ ⟨#[42]⟩ 1 1 (b := false) (by decide)
  have q5 := eql_wb ⟨#[61, 61]⟩ ⟨#[38]⟩ 1 65535 (b := false) (by decide)
  have q6 := eql_wb ⟨#[61, 61]⟩ ⟨#[42]⟩ 1 0 (b := false) (by decide)
  have q7 := eql_wb ⟨#[61, 61]⟩ ⟨#[38]⟩ 1 0 (b := false) (by decide)
  have q8 := eql_wb ⟨#[61, 61]⟩ ⟨#[60, 60]⟩ 1 0 (b := false) (by decide)
  have q9 := eql_wb ⟨#[61, 61]⟩ ⟨#[124]⟩ 1 65535 (b := false) (by decide)
  have q10 := eql_wb ⟨#[61, 61]⟩ ⟨#[61, 61]⟩ 1 0 (b := false) (by decide)
  have q11 := eql_wb ⟨#[61, 61]⟩ ⟨#[61, 61]⟩ 1 1 (b := true) (by decide)
  have hgd := fun op a b ys => guard_wb op a b #[.string ⟨#[61, 61]⟩, .int .i64 1] ys
  go_enter Tryd.func151, Tryd.ntmps151
  obtain ⟨b, hb⟩ : ∃ b, truthT a = b := ⟨_, rfl⟩
  have HRt := hid (show rightT a ⟨#[61, 61]⟩ 1 = if b = true then some a else none by rw [← hb]; simp [rightT, opIs])
  have HTr := hid (fun (wx : World) (u : Value) (hT : Tabs wx) => (show Calls Tryd.prog 155 #[.agg #[.int .i64 x0, .int .i64 x1, .string x2, u]] wx (fun e w' => e = .returned (.bool b) ∧ Below wx.heap.size wx w') from hb ▸ isTruth_v HP.out HSh.out hT))
  clear hb
  go_upto_region 18 with fail
  generalize ((w.alloc (.cells #[.int .i64 x0, .int .i64 x1, .string x2, .slice sa la ca] 28)).alloc (.cells #[.int .i64 0, .int .i64 0, .string ⟨#[]⟩, .slice none 0 0] 28)) = w0 at HB0 HX0 HZ0 ⊢
  have HBe0 := hid (HB0.out.drew)
  have HZe0 := hid (HZ0.out.drew)
  have hx0 := HZ0.out.lt
  have HSx := hid (fun (wx : World) (hbx : Below (w.heap.size + 1) w0 wx) => (show wx.cell? ⟨w.heap.size, 0, none⟩ = some (.int .i64 x0) ∧ wx.cell? ⟨w.heap.size, 1, none⟩ = some (.int .i64 x1) ∧ wx.cell? ⟨w.heap.size, 2, none⟩ = some (.string x2) ∧ wx.cell? ⟨w.heap.size, 3, none⟩ = some (.slice sa la ca) from by
    have c0 := (HX0.out.below hbx (Nat.lt_succ_self _)).cell 0
    have c1 := (HX0.out.below hbx (Nat.lt_succ_self _)).cell 1
    have c2 := (HX0.out.below hbx (Nat.lt_succ_self _)).cell 2
    have c3 := (HX0.out.below hbx (Nat.lt_succ_self _)).cell 3
    exact ⟨c0, c1, c2, c3⟩))
  have HD0 := hid (show Below (w.heap.size + 1) w0 w0.drew from (Below.refl w0.heap.size w0).drew.mono (by omega))
  refine wp_region_held_drew (S := fun w' => w'.cell? ⟨w.heap.size, 0, none⟩ = some (.int .i64 x0) ∧ w'.cell? ⟨w.heap.size, 1, none⟩ = some (.int .i64 x1) ∧ w'.cell? ⟨w.heap.size, 2, none⟩ = some (.string x2) ∧ w'.cell? ⟨w.heap.size, 3, none⟩ = some (.slice sa la ca)) (by kernel_rfl) (HSx.out _ HD0.out) (fun hHeld => ?_)
  refine wpAnyH_take (i := 0) (v := _) rfl (by kernel_rfl) (by kernel_rfl) (by kernel_rfl) (fun _ _ _ h => h) (Or.inl ⟨by rfl, by (intro w hSw; (try dsimp only at hSw); go_simp; first | done | with_reducible rfl)⟩) hHeld ?_
  (try simp only [Act.put, List.setIfInBounds_toArray, List.set_cons_zero, List.set_cons_succ])
  refine wpAnyH_take (i := 1) (v := _) rfl (by kernel_rfl) (by kernel_rfl) (by kernel_rfl) (fun _ _ _ h => h) (Or.inl ⟨by rfl, by (intro w hSw; (try dsimp only at hSw); go_simp; first | done | with_reducible rfl)⟩) hHeld ?_
  (try simp only [Act.put, List.setIfInBounds_toArray, List.set_cons_zero, List.set_cons_succ])
  generalize w0.drew = v0 at HBe0 HZe0 HD0 hHeld ⊢
  refine wpAnyH_ready (rs := [2]) (by kernel_rfl) (by simp) ?_
  refine AllReadyH.cons rfl (fun K hK => ?_) AllReadyH.nil
  go_simp
  go_at_call 155
  refine (HTr.out _ _ (HT.out.on HBe0.out)).mono ?_
  rintro e v1 ⟨rfl, hbx⟩
  simp only
  have HBe1 := hid (HBe0.out.trans (hbx.mono HBe0.out.size))
  have HZe1 := hid (HZe0.out.on hbx)
  have HD1 := hid (HD0.out.trans (hbx.mono (by have := HD0.out.size; omega)))
  refine hK.out _ _ (HSx.out _ HD1.out) (fun hHeld => ?_)
  clear hK K
  (try simp only [Act.put, List.setIfInBounds_toArray, List.set_cons_zero, List.set_cons_succ])
  refine wpAnyH_ready (rs := [3]) (by kernel_rfl) (by simp) ?_
  refine AllReadyH.cons rfl (fun K hK => ?_) AllReadyH.nil
  have r0 := HZe1.out.cell 0
  have r1 := HZe1.out.cell 1
  have r2 := HZe1.out.cell 2
  have r3 := HZe1.out.cell 3
  simp at r0 r1 r2 r3
  have hfr := HZe1.out.free
  have hlz := HZe1.out.lt
  go_simp
  refine hK.out _ _ (HSx.out _ (four_bel HD1.out (Nat.le_refl _) _ _ _ _)) (fun hHeld => ?_)
  clear hK K r0 r1 r2 r3 hfr
  (try simp only [Act.put, List.setIfInBounds_toArray, List.set_cons_zero, List.set_cons_succ])
  refine wpAnyH_ready (rs := [4]) (by kernel_rfl) (by simp) ?_
  refine AllReadyH.cons rfl (fun K hK => ?_) AllReadyH.nil
  go_simp
  refine hK.out _ _ hHeld (fun _ => ?_)
  clear hK K
  (try simp only [Act.put, List.setIfInBounds_toArray, List.set_cons_zero, List.set_cons_succ])
  refine wpAnyH_done (by kernel_rfl) ?_ _
  go_wp2_with fail
  refine bodyPost_ret (v := .tuple #[.agg #[.int .i64 x0, .int .i64 x1, .string x2, .slice sa la ca], .bool b]) ?_ rfl ?_
  · exact results_cell_tmp Tryd.results151 _ _ (w.heap.size + 1) _ _ rfl (four_row HZe1.out (.int .i64 x0) (.int .i64 x1) (.string x2) (.slice sa la ca)) Tryd.underlying28 size_term
  have hbf := four_bel HBe1.out (show w.heap.size ≤ w.heap.size + 1 by omega) (.int .i64 x0) (.int .i64 x1) (.string x2) (.slice sa la ca)
  rw [HRt.out]
  have hlo := HLo.out
  have hhi := HHi.out
  have hsz := hbf.size
  cases b
  · exact fold_end (t := a) (a := sa) (c := ca) rfl (fun r hr => by cases hr) hbf (by rw [HP.out.l, HP.out.val])
  · exact fold_end (t := a) (a := sa) (c := ca) rfl (fun r hr => by obtain rfl : a = r := Option.some.inj hr; exact ⟨rfl, by rw [HP.out.l]; exact fun x hx hk => (((keep_old HA.out HHi.out HG.out hbf x hk).mono (Nat.le_succ _)).widen hlo (by have := HG.out; omega))⟩) hbf (by rw [HP.out.l, HP.out.val])
end Go.Proofs.YtffibmlgdacafaaDoor.Um
