/- Simpler terms: a term with an operator and a word behind it, by the program: less. -/
import Derived.Test.YtffibmlgdacafaaDoorWf1
set_option linter.unusedSimpArgs false
set_option linter.unusedVariables false
namespace Go.Proofs.YtffibmlgdacafaaDoor.Um
open Go.RowKit Pl Ft Mm In C2 Im

set_option maxRecDepth 100000 in
set_option maxHeartbeats 8000000 in
theorem ahead_sub_n (m lo f0 g0 G h : Nat) (a : Tm) (va : Value) (n : Int) (hn : 0 ≤ n ∧ n ≤ 65535) (hn0 : ¬ n = 0) (w : World) (hs : shape h a = true) (ha : KOwn w m f0 g0 va a.kids) (hlo : lo ≤ f0) (hhi : g0 ≤ G) (hG : G ≤ w.heap.size) (hT : Tabs w) :
    Calls Tryd.prog 151 #[tmVal a va, .string ⟨#[45]⟩, .int .i64 n] w (FoldPost (m + 1) lo G (rightT a ⟨#[45]⟩ n) w) := by
  have HN := hid hn
  clear hn
  obtain ⟨sa, ca, rfl⟩ := ha.slice
  have HLw := hid (show lo ≤ w.heap.size by have := ha.le; omega)
  have HA := hid ha
  have HLo := hid hlo
  have HHi := hid hhi
  have HG := hid hG
  have HT := hid hT
  have HSh := hid hs
  clear ha hlo hhi hT hs hG
  obtain ⟨x0, x1, x2, la, hp⟩ := Pt.of a
  have HP := hid hp
  rw [hp.val]
  rw [hp.l] at HA ⊢
  clear hp
  have HB00 := hid ((Below.refl w.heap.size w).alloc (Nat.le_refl _) (.cells #[.int .i64 x0, .int .i64 x1, .string x2, .slice sa la ca] 28))
  have HB0 := hid (HB00.out.alloc HB00.out.size (.cells #[.int .i64 0, .int .i64 0, .string ⟨#[]⟩, .slice none 0 0] 28))
  have HZ0 := hid (Row.new (w.alloc (.cells #[.int .i64 x0, .int .i64 x1, .string x2, .slice sa la ca] 28)) 28 #[.int .i64 0, .int .i64 0, .string ⟨#[]⟩, .slice none 0 0])
  have HX0 := hid ((Row.new w 28 #[.int .i64 x0, .int .i64 x1, .string x2, .slice sa la ca]).alloc (.cells #[.int .i64 0, .int .i64 0, .string ⟨#[]⟩, .slice none 0 0] 28))
  have HBa := hid (HB00.out.alloc HB00.out.size (.cells #[.int .i64 x0, .int .i64 x1, .string x2, .slice sa la ca] 28))
  have HZa := hid (Row.new (w.alloc (.cells #[.int .i64 x0, .int .i64 x1, .string x2, .slice sa la ca] 28)) 28 #[.int .i64 x0, .int .i64 x1, .string x2, .slice sa la ca])
  simp only [World.size_alloc] at HZ0 HZa
  have q0 := eql_wb ⟨#[45]⟩ ⟨#[43]⟩ n 0 (b := false) (by rw [Bool.and_eq_false_iff]; exact .inl (by decide))
  have q1 := eql_wb ⟨#[45]⟩ ⟨#[45]⟩ n 0 (b := false) (by simp [hn0])
  have q2 := eql_wb ⟨#[45]⟩ ⟨#[124]⟩ n 0 (b := false) (by rw [Bool.and_eq_false_iff]; exact .inl (by decide))
  have q3 := eql_wb ⟨#[45]⟩ ⟨#[94]⟩ n 0 (b := false) (by rw [Bool.and_eq_false_iff]; exact .inl (by decide))
  have q4 := eql_wb ⟨#[45]⟩ ⟨#[42]⟩ n 1 (b := false) (by rw [Bool.and_eq_false_iff]; exact .inl (by decide))
  have q5 := eql_wb ⟨#[45]⟩ ⟨#[38]⟩ n 65535 (b := false) (by rw [Bool.and_eq_false_iff]; exact .inl (by decide))
  have q6 := eql_wb ⟨#[45]⟩ ⟨#[42]⟩ n 0 (b := false) (by rw [Bool.and_eq_false_iff]; exact .inl (by decide))
  have q7 := eql_wb ⟨#[45]⟩ ⟨#[38]⟩ n 0 (b := false) (by rw [Bool.and_eq_false_iff]; exact .inl (by decide))
  have q8 := eql_wb ⟨#[45]⟩ ⟨#[60, 60]⟩ n 0 (b := false) (by rw [Bool.and_eq_false_iff]; exact .inl (by decide))
  have q9 := eql_wb ⟨#[45]⟩ ⟨#[124]⟩ n 65535 (b := false) (by rw [Bool.and_eq_false_iff]; exact .inl (by decide))
  have q10 := eql_wb ⟨#[45]⟩ ⟨#[61, 61]⟩ n 0 (b := false) (by rw [Bool.and_eq_false_iff]; exact .inl (by decide))
  have q11 := eql_wb ⟨#[45]⟩ ⟨#[61, 61]⟩ n 1 (b := false) (by rw [Bool.and_eq_false_iff]; exact .inl (by decide))
  have hgd := fun op a b ys => guard_wb op a b #[.string ⟨#[45]⟩, .int .i64 n] ys
  have HRt := hid (show rightT a ⟨#[45]⟩ n = some (binT a ⟨#[43]⟩ (nT ((-n) % 65536))) from by simp [rightT, opIs, hn0])
  clear hn0
  go_enter Tryd.func151, Tryd.ntmps151
  have HBn := hid (fun (wx : World) (z : Int) => (show Calls Tryd.prog 99 #[.agg #[.int .i64 x0, .int .i64 x1, .string x2, .slice sa la ca], .string ⟨#[43]⟩, .agg #[.int .i64 0, .int .i64 z, .string ⟨#[]⟩, .slice none 0 0]] wx (MadePost (binT a ⟨#[43]⟩ (nT z)) [.slice sa la ca, .slice none 0 0] wx) from HP.out.val (.slice sa la ca) ▸ binTerm_c ⟨#[43]⟩ a (nT z) (.slice sa la ca) (.slice none 0 0) wx))
  have hn := HN.out
  have hng : IntKind.wrap .i64 (-n) = -n := IntWalk.i64_in _ (by omega)
  go_upto_region 20 with fail
  generalize ((w.alloc (.cells #[.int .i64 x0, .int .i64 x1, .string x2, .slice sa la ca] 28)).alloc (.cells #[.int .i64 0, .int .i64 0, .string ⟨#[]⟩, .slice none 0 0] 28)) = w0 at HB0 HX0 HZ0 ⊢
  have HBe0 := hid (HB0.out.drew)
  have HZe0 := hid (HZ0.out.drew)
  have hx0 := HZ0.out.lt
  have HSx := hid (fun (wx : World) (hbx : Below (w.heap.size + 1) w0 wx) => (show wx.cell? ⟨w.heap.size, 0, none⟩ = some (.int .i64 x0) ∧ wx.cell? ⟨w.heap.size, 1, none⟩ = some (.int .i64 x1) ∧ wx.cell? ⟨w.heap.size, 2, none⟩ = some (.string x2) ∧ wx.cell? ⟨w.heap.size, 3, none⟩ = some (.slice sa la ca) from by
    have c0 := (HX0.out.below hbx (Nat.lt_succ_self _)).cell 0
    have c1 := (HX0.out.below hbx (Nat.lt_succ_self _)).cell 1
    have c2 := (HX0.out.below hbx (Nat.lt_succ_self _)).cell 2
    have c3 := (HX0.out.below hbx (Nat.lt_succ_self _)).cell 3
    exact ⟨c0, c1, c2, c3⟩))
  have HD0 := hid (show Below (w.heap.size + 1) w0 w0.drew from (Below.refl w0.heap.size w0).drew.mono (by omega))
  refine wp_region_held_drew (S := fun w' => w'.cell? ⟨w.heap.size, 0, none⟩ = some (.int .i64 x0) ∧ w'.cell? ⟨w.heap.size, 1, none⟩ = some (.int .i64 x1) ∧ w'.cell? ⟨w.heap.size, 2, none⟩ = some (.string x2) ∧ w'.cell? ⟨w.heap.size, 3, none⟩ = some (.slice sa la ca)) (by kernel_rfl) (HSx.out _ HD0.out) (fun hHeld => ?_)
  refine wpAnyH_take (i := 0) (v := _) rfl (by kernel_rfl) (by kernel_rfl) (by kernel_rfl) (fun _ _ _ h => h) (Or.inl ⟨by rfl, by (intro w hSw; (try dsimp only at hSw); go_simp; first | done | with_reducible rfl)⟩) hHeld ?_
  (try simp only [Act.put, List.setIfInBounds_toArray, List.set_cons_zero, List.set_cons_succ])
  refine wpAnyH_take (i := 1) (v := _) rfl (by kernel_rfl) (by kernel_rfl) (by kernel_rfl) (fun _ _ _ h => h) (Or.inl ⟨by rfl, by (intro w hSw; (try dsimp only at hSw); go_simp; first | done | with_reducible rfl)⟩) hHeld ?_
  (try simp only [Act.put, List.setIfInBounds_toArray, List.set_cons_zero, List.set_cons_succ])
  refine wpAnyH_take (i := 2) (v := _) rfl (by kernel_rfl) (by kernel_rfl) (by kernel_rfl) (fun _ _ _ h => h) (Or.inl ⟨by rfl, by (intro w hSw; (try dsimp only at hSw); go_simp; first | done | with_reducible rfl)⟩) hHeld ?_
  (try simp only [Act.put, List.setIfInBounds_toArray, List.set_cons_zero, List.set_cons_succ])
  generalize w0.drew = v0 at HBe0 HZe0 HD0 hHeld ⊢
  refine wpAnyH_ready (rs := [3]) (by kernel_rfl) (by simp) ?_
  refine AllReadyH.cons rfl (fun K hK => ?_) AllReadyH.nil
  go_simp
  go_at_call 163
  refine (C1.wordOf_c _ _).mono ?_
  rintro e v1 ⟨rfl, hw1⟩
  (try rw [hng])
  have hbx : Below v0.heap.size v0 v1 := hw1 ▸ Below.refl v0.heap.size v0
  clear hw1
  simp only
  have HBe1 := hid (HBe0.out.trans (hbx.mono HBe0.out.size))
  have HZe1 := hid (HZe0.out.on hbx)
  have HD1 := hid (HD0.out.trans (hbx.mono (by have := HD0.out.size; omega)))
  refine hK.out _ _ (HSx.out _ HD1.out) (fun hHeld => ?_)
  clear hK K
  (try simp only [Act.put, List.setIfInBounds_toArray, List.set_cons_zero, List.set_cons_succ])
  refine wpAnyH_ready (rs := [4]) (by kernel_rfl) (by simp) ?_
  refine AllReadyH.cons rfl (fun K hK => ?_) AllReadyH.nil
  go_simp
  go_at_call 131
  refine (numberTerm_c _ _).mono ?_
  rintro e v2 ⟨rfl, hbx⟩
  rw [nT_val]
  simp only
  have HBe2 := hid (HBe1.out.trans (hbx.mono HBe1.out.size))
  have HZe2 := hid (HZe1.out.on hbx)
  have HD2 := hid (HD1.out.trans (hbx.mono (by have := HD1.out.size; omega)))
  refine hK.out _ _ (HSx.out _ HD2.out) (fun hHeld => ?_)
  clear hK K
  (try simp only [Act.put, List.setIfInBounds_toArray, List.set_cons_zero, List.set_cons_succ])
  refine wpAnyH_ready (rs := [5]) (by kernel_rfl) (by simp) ?_
  refine AllReadyH.cons rfl (fun K hK => ?_) AllReadyH.nil
  go_simp
  go_at_call 99
  refine (HBn.out _ _).mono ?_
  rintro e v3 ⟨sN, cN, rfl, hrowN, hbx⟩
  rw [show tmVal (binT a ⟨#[43]⟩ (nT ((-n) % 65536))) (.slice sN (binT a ⟨#[43]⟩ (nT ((-n) % 65536))).kids.length cN) = .agg #[.int .i64 2, .int .i64 0, .string ⟨#[43]⟩, .slice sN 2 cN] from rfl]
  have HRowN := hid (show v3.ownsRow v2.heap.size 28 4 (.slice sN 2 cN) 2 (tCells [a, nT ((-n) % 65536)] [.slice sa la ca, .slice none 0 0]) from hrowN)
  have HB23 := hid hbx
  clear hrowN
  simp only
  have HBe3 := hid (HBe2.out.trans (hbx.mono HBe2.out.size))
  have HZe3 := hid (HZe2.out.on hbx)
  have HD3 := hid (HD2.out.trans (hbx.mono (by have := HD2.out.size; omega)))
  refine hK.out _ _ (HSx.out _ HD3.out) (fun hHeld => ?_)
  clear hK K
  (try simp only [Act.put, List.setIfInBounds_toArray, List.set_cons_zero, List.set_cons_succ])
  refine wpAnyH_ready (rs := [6]) (by kernel_rfl) (by simp) ?_
  refine AllReadyH.cons rfl (fun K hK => ?_) AllReadyH.nil
  have r0 := HZe3.out.cell 0
  have r1 := HZe3.out.cell 1
  have r2 := HZe3.out.cell 2
  have r3 := HZe3.out.cell 3
  simp at r0 r1 r2 r3
  have hfr := HZe3.out.free
  have hlz := HZe3.out.lt
  go_simp
  refine hK.out _ _ (HSx.out _ (four_bel HD3.out (Nat.le_refl _) _ _ _ _)) (fun hHeld => ?_)
  clear hK K r0 r1 r2 r3 hfr
  (try simp only [Act.put, List.setIfInBounds_toArray, List.set_cons_zero, List.set_cons_succ])
  refine wpAnyH_ready (rs := [7]) (by kernel_rfl) (by simp) ?_
  refine AllReadyH.cons rfl (fun K hK => ?_) AllReadyH.nil
  go_simp
  refine hK.out _ _ hHeld (fun _ => ?_)
  clear hK K
  (try simp only [Act.put, List.setIfInBounds_toArray, List.set_cons_zero, List.set_cons_succ])
  refine wpAnyH_done (by kernel_rfl) ?_ _
  go_wp2_with fail
  refine bodyPost_ret (v := .tuple #[.agg #[.int .i64 2, .int .i64 0, .string ⟨#[43]⟩, .slice sN 2 cN], .bool true]) ?_ rfl ?_
  · exact results_cell_tmp Tryd.results151 _ _ (w.heap.size + 1) _ _ rfl (four_row HZe3.out (.int .i64 2) (.int .i64 0) (.string ⟨#[43]⟩) (.slice sN 2 cN)) Tryd.underlying28 size_term
  have hbf := four_bel HBe3.out (show w.heap.size ≤ w.heap.size + 1 by omega) (.int .i64 2) (.int .i64 0) (.string ⟨#[43]⟩) (.slice sN 2 cN)
  rw [HRt.out]
  have hz0 := HZe2.out.lt
  have hz2 := HB23.out.size
  have hlo := HLo.out
  have hhi := HHi.out
  have hlw := HLw.out
  have hrw := own_four HRowN.out hz0 (.int .i64 2) (.int .i64 0) (.string ⟨#[43]⟩) (.slice sN 2 cN)
  refine fold_end (t := binT a ⟨#[43]⟩ (nT ((-n) % 65536))) (a := sN) (c := cN) rfl (fun r hr => ?_) hbf rfl
  obtain rfl : binT a ⟨#[43]⟩ (nT ((-n) % 65536)) = r := Option.some.inj hr
  have hbs := HBe2.out.size
  have hgg := HG.out
  exact ⟨rfl, fun x hx hk => own_bin (f1 := v2.heap.size) (g1 := v2.heap.size) (own_same hrw (fun g hg => hk g (.inr (by have := (hrw.lt g hg).1; omega)) ((hrw.lt g hg).2))) (keep_old HA.out HHi.out HG.out hbf x hk) (KOwn.empty (Nat.le_refl _) ⟨by simp, .inl ⟨rfl, rfl⟩⟩ (fun r h => by cases h)) hlo (by omega) (by omega) (by omega) (.inl (by omega)) (by omega) (by rw [four_size] at hx; omega)⟩
end Go.Proofs.YtffibmlgdacafaaDoor.Um
