/- The walk of the model: where an instruction leads, and the places of a table of truths; trues. -/
import Derived.Test.YtihhpgklpichgaaGreatTb
import Derived.Test.YtihhpgklpichgaaGreatSw3
set_option linter.unusedSimpArgs false
set_option linter.unusedVariables false
namespace Go.Proofs.YtihhpgklpichgaaGreat.Wk
open Go.RowKit Pl Ft Mm In C2 Im Sw

/-- Where an instruction leads, calls aside. -/
def nextsP (code : List Int) (i : IIns) (next : Int) : List Int :=
  if i.op = 0 ∨ i.op = 1 then [] else if i.op = 27 then [i.n] else if i.op = 28 then [i.n] ++ [next] else if i.op = 30 then (tabP code i).getD [] ++ [next] else [] ++ [next]
theorem mem_succs {code : List Int} {i : IIns} {next q : Int} : q ∈ succs code i next ↔ q ∈ nextsP code i next ∨ (i.op = 29 ∧ q = i.n) := by
  by_cases h0 : i.op = 0 ∨ i.op = 1
  · unfold succs nextsP; rw [if_pos h0, if_pos h0]; simp; try omega
  by_cases h27 : i.op = 27
  · unfold succs nextsP; rw [if_neg h0, if_neg h0, if_pos h27, if_pos h27]; simp; try omega
  by_cases h28 : i.op = 28
  · unfold succs nextsP; rw [if_neg h0, if_neg h0, if_neg h27, if_neg h27, if_pos h28, if_pos h28]; simp; try omega
  by_cases h29 : i.op = 29
  · unfold succs nextsP; rw [if_neg h0, if_neg h0, if_neg h27, if_neg h27, if_neg h28, if_neg h28, if_pos h29, if_neg (by omega)]; simp; try omega
  by_cases h30 : i.op = 30
  · unfold succs nextsP; rw [if_neg h0, if_neg h0, if_neg h27, if_neg h27, if_neg h28, if_neg h28, if_neg h29, if_pos h30, if_pos h30]; simp; try omega
  · unfold succs nextsP; rw [if_neg h0, if_neg h0, if_neg h27, if_neg h27, if_neg h28, if_neg h28, if_neg h29, if_neg h30, if_neg h30]; simp; try omega
theorem stays_c (x : Int) (w : World) : Calls Tryz.prog 121 #[.int .i64 x] w fun e w' => e = .returned (.bool (decide (x ≠ 0 ∧ x ≠ 1 ∧ x ≠ 27))) ∧ w' = w := by
  by_cases h0 : x = 0
  · subst h0
    go_enter Tryz.func121, Tryz.ntmps121
    go_wp2_with fail
    go_ret
    exact ⟨rfl, rfl⟩
  by_cases h1 : x = 1
  · subst h1
    clear h0
    go_enter Tryz.func121, Tryz.ntmps121
    go_wp2_with fail
    go_ret
    exact ⟨rfl, rfl⟩
  by_cases h27 : x = 27
  · subst h27
    clear h0 h1
    go_enter Tryz.func121, Tryz.ntmps121
    go_wp2_with fail
    go_ret
    exact ⟨rfl, rfl⟩
  have HD := hid (show decide (x ≠ 0 ∧ x ≠ 1 ∧ x ≠ 27) = true from decide_eq_true ⟨h0, h1, h27⟩)
  have HC := hid (show (x != 0 && x != 1 && x != 27) = true by simp [h0, h1, h27])
  have b0 : (x == 0) = false := by rw [beq_eq_false_iff_ne]; exact h0
  have b1 : (x == 1) = false := by rw [beq_eq_false_iff_ne]; exact h1
  have b27 : (x == 27) = false := by rw [beq_eq_false_iff_ne]; exact h27
  go_enter Tryz.func121, Tryz.ntmps121
  go_wp2_with fail
  go_ret
  rw [HD.out]
  exact ⟨congrArg (fun b => Ending.returned (.bool b)) HC.out, rfl⟩
def NextsPost (code : List Int) (i : IIns) (next : Int) (w : World) (e : Ending) (w' : World) : Prop :=
  ∃ v', e = .returned (.tuple #[v', .bool (!badTab code i)]) ∧ w'.ownsRow w.heap.size 3 1 v' (nextsP code i next).length (ints (nextsP code i next)) ∧ Below w.heap.size w w'
set_option maxRecDepth 100000 in
set_option maxHeartbeats 2000000 in
theorem nexts_0 (code : List Int) (v : Value) (p : Nat) (ia ib n : Int) (w : World) (hr : Rd w v code) (hb : code.all isByte = true) (hlen : code.length ≤ 2000) (hp : p ≤ 2000) (hv : validIns ⟨0, ia, ib, n⟩ = true) (hs1 : 1 ≤ slong ⟨0, ia, ib, n⟩) (hs5 : slong ⟨0, ia, ib, n⟩ ≤ 5) :
    Calls Tryz.prog 87 #[v, .int .i64 p, .agg #[.int .i64 0, .int .i64 ia, .int .i64 ib, .int .i64 n]] w (NextsPost code ⟨0, ia, ib, n⟩ (p + slong ⟨0, ia, ib, n⟩) w) := by
  have HRd := hid hr
  have HBy := hid hb
  have HV := hid hv
  have hvb := valid_bounds hv
  have ho0 := hvb.o0
  have ho1 := hvb.o1
  simp only at ho0 ho1
  obtain ⟨a, cap, rfl, _⟩ := hr
  clear hb hv hvb
  have HBt := hid (show badTab code ⟨0, ia, ib, n⟩ = false from badTab_no (by simp only; omega))
  obtain ⟨s, hs⟩ : ∃ s, slong ⟨0, ia, ib, n⟩ = s := ⟨_, rfl⟩
  rw [hs] at hs1 hs5 ⊢
  have HSl := hid hs
  clear hs
  have HN := hid (show nextsP code ⟨0, ia, ib, n⟩ ((p : Int) + s) = [] by rfl)
  have HX0 := hid ((Row.new w 70 #[.int .i64 0, .int .i64 ia, .int .i64 ib, .int .i64 n]).alloc (.cells #[] 3))
  have HB0 := hid (((Below.refl w.heap.size w).alloc (Nat.le_refl _) (.cells #[.int .i64 0, .int .i64 ia, .int .i64 ib, .int .i64 n] 70)).alloc (by simp) (.cells #[] 3))
  have HL0 := hid (own_mono (own_lit (w.alloc (.cells #[.int .i64 0, .int .i64 ia, .int .i64 ib, .int .i64 n] 70)) [] #[] rfl (by simp) 0 rfl) (show w.heap.size ≤ _ by simp))
  go_enter Tryz.func87, Tryz.ntmps87
  go_upto_region 3 with fail
  obtain ⟨g, hg⟩ : ∃ g, w.heap.size + 1 = g := ⟨_, rfl⟩
  have HL1 := hid (show ((w.alloc (.cells #[.int .i64 0, .int .i64 ia, .int .i64 ib, .int .i64 n] 70)).alloc (.cells #[] 3)).ownsRow w.heap.size 3 1 (.slice (some ⟨g, 0, none⟩) 0 0) 0 (ints []) by rw [← hg]; simpa using HL0.out)
  try rw [hg]
  clear HL0 hg
  generalize (w.alloc (.cells #[.int .i64 0, .int .i64 ia, .int .i64 ib, .int .i64 n] 70)).alloc (.cells #[] 3) = w1 at HX0 HL1 HB0 ⊢
  have z0 := HX0.out.cell 0
  have z1 := HX0.out.cell 1
  have z2 := HX0.out.cell 2
  have z3 := HX0.out.cell 3
  simp at z0 z1 z2 z3
  have hz1 := HB0.out.size
  go_wp2_with fail
  refine (stays_c 0 _).mono ?_
  rintro e wz ⟨rfl, rfl⟩
  go_wp2_with fail
  go_ret2
  exact ⟨_, by rw [HBt.out]; rfl, by rw [HN.out]; exact HL1.out, HB0.out⟩
set_option maxRecDepth 100000 in
set_option maxHeartbeats 2000000 in
theorem nexts_1 (code : List Int) (v : Value) (p : Nat) (ia ib n : Int) (w : World) (hr : Rd w v code) (hb : code.all isByte = true) (hlen : code.length ≤ 2000) (hp : p ≤ 2000) (hv : validIns ⟨1, ia, ib, n⟩ = true) (hs1 : 1 ≤ slong ⟨1, ia, ib, n⟩) (hs5 : slong ⟨1, ia, ib, n⟩ ≤ 5) :
    Calls Tryz.prog 87 #[v, .int .i64 p, .agg #[.int .i64 1, .int .i64 ia, .int .i64 ib, .int .i64 n]] w (NextsPost code ⟨1, ia, ib, n⟩ (p + slong ⟨1, ia, ib, n⟩) w) := by
  have HRd := hid hr
  have HBy := hid hb
  have HV := hid hv
  have hvb := valid_bounds hv
  have ho0 := hvb.o0
  have ho1 := hvb.o1
  simp only at ho0 ho1
  obtain ⟨a, cap, rfl, _⟩ := hr
  clear hb hv hvb
  have HBt := hid (show badTab code ⟨1, ia, ib, n⟩ = false from badTab_no (by simp only; omega))
  obtain ⟨s, hs⟩ : ∃ s, slong ⟨1, ia, ib, n⟩ = s := ⟨_, rfl⟩
  rw [hs] at hs1 hs5 ⊢
  have HSl := hid hs
  clear hs
  have HN := hid (show nextsP code ⟨1, ia, ib, n⟩ ((p : Int) + s) = [] by rfl)
  have HX0 := hid ((Row.new w 70 #[.int .i64 1, .int .i64 ia, .int .i64 ib, .int .i64 n]).alloc (.cells #[] 3))
  have HB0 := hid (((Below.refl w.heap.size w).alloc (Nat.le_refl _) (.cells #[.int .i64 1, .int .i64 ia, .int .i64 ib, .int .i64 n] 70)).alloc (by simp) (.cells #[] 3))
  have HL0 := hid (own_mono (own_lit (w.alloc (.cells #[.int .i64 1, .int .i64 ia, .int .i64 ib, .int .i64 n] 70)) [] #[] rfl (by simp) 0 rfl) (show w.heap.size ≤ _ by simp))
  go_enter Tryz.func87, Tryz.ntmps87
  go_upto_region 3 with fail
  obtain ⟨g, hg⟩ : ∃ g, w.heap.size + 1 = g := ⟨_, rfl⟩
  have HL1 := hid (show ((w.alloc (.cells #[.int .i64 1, .int .i64 ia, .int .i64 ib, .int .i64 n] 70)).alloc (.cells #[] 3)).ownsRow w.heap.size 3 1 (.slice (some ⟨g, 0, none⟩) 0 0) 0 (ints []) by rw [← hg]; simpa using HL0.out)
  try rw [hg]
  clear HL0 hg
  generalize (w.alloc (.cells #[.int .i64 1, .int .i64 ia, .int .i64 ib, .int .i64 n] 70)).alloc (.cells #[] 3) = w1 at HX0 HL1 HB0 ⊢
  have z0 := HX0.out.cell 0
  have z1 := HX0.out.cell 1
  have z2 := HX0.out.cell 2
  have z3 := HX0.out.cell 3
  simp at z0 z1 z2 z3
  have hz1 := HB0.out.size
  go_wp2_with fail
  refine (stays_c 1 _).mono ?_
  rintro e wz ⟨rfl, rfl⟩
  go_wp2_with fail
  go_ret2
  exact ⟨_, by rw [HBt.out]; rfl, by rw [HN.out]; exact HL1.out, HB0.out⟩
set_option maxRecDepth 100000 in
set_option maxHeartbeats 2000000 in
theorem nexts_27 (code : List Int) (v : Value) (p : Nat) (ia ib n : Int) (w : World) (hr : Rd w v code) (hb : code.all isByte = true) (hlen : code.length ≤ 2000) (hp : p ≤ 2000) (hv : validIns ⟨27, ia, ib, n⟩ = true) (hs1 : 1 ≤ slong ⟨27, ia, ib, n⟩) (hs5 : slong ⟨27, ia, ib, n⟩ ≤ 5) :
    Calls Tryz.prog 87 #[v, .int .i64 p, .agg #[.int .i64 27, .int .i64 ia, .int .i64 ib, .int .i64 n]] w (NextsPost code ⟨27, ia, ib, n⟩ (p + slong ⟨27, ia, ib, n⟩) w) := by
  have HRd := hid hr
  have HBy := hid hb
  have HV := hid hv
  have hvb := valid_bounds hv
  have ho0 := hvb.o0
  have ho1 := hvb.o1
  simp only at ho0 ho1
  obtain ⟨a, cap, rfl, _⟩ := hr
  clear hb hv hvb
  have HBt := hid (show badTab code ⟨27, ia, ib, n⟩ = false from badTab_no (by simp only; omega))
  obtain ⟨s, hs⟩ : ∃ s, slong ⟨27, ia, ib, n⟩ = s := ⟨_, rfl⟩
  rw [hs] at hs1 hs5 ⊢
  have HSl := hid hs
  clear hs
  have HN := hid (show nextsP code ⟨27, ia, ib, n⟩ ((p : Int) + s) = [n] by rfl)
  have HX0 := hid ((Row.new w 70 #[.int .i64 27, .int .i64 ia, .int .i64 ib, .int .i64 n]).alloc (.cells #[] 3))
  have HB0 := hid (((Below.refl w.heap.size w).alloc (Nat.le_refl _) (.cells #[.int .i64 27, .int .i64 ia, .int .i64 ib, .int .i64 n] 70)).alloc (by simp) (.cells #[] 3))
  have HL0 := hid (own_mono (own_lit (w.alloc (.cells #[.int .i64 27, .int .i64 ia, .int .i64 ib, .int .i64 n] 70)) [] #[] rfl (by simp) 0 rfl) (show w.heap.size ≤ _ by simp))
  go_enter Tryz.func87, Tryz.ntmps87
  go_upto_region 3 with fail
  obtain ⟨g, hg⟩ : ∃ g, w.heap.size + 1 = g := ⟨_, rfl⟩
  have HL1 := hid (show ((w.alloc (.cells #[.int .i64 27, .int .i64 ia, .int .i64 ib, .int .i64 n] 70)).alloc (.cells #[] 3)).ownsRow w.heap.size 3 1 (.slice (some ⟨g, 0, none⟩) 0 0) 0 (ints []) by rw [← hg]; simpa using HL0.out)
  try rw [hg]
  clear HL0 hg
  generalize (w.alloc (.cells #[.int .i64 27, .int .i64 ia, .int .i64 ib, .int .i64 n] 70)).alloc (.cells #[] 3) = w1 at HX0 HL1 HB0 ⊢
  have z0 := HX0.out.cell 0
  have z1 := HX0.out.cell 1
  have z2 := HX0.out.cell 2
  have z3 := HX0.out.cell 3
  simp at z0 z1 z2 z3
  have hz1 := HB0.out.size
  go_wp2_with (at_builtin; refine app_ints _ rfl _ _ rfl w.heap.size [] [n] _ rfl (HL1.out.alloc _) _ _ _ rfl rfl (SrcAt.at_ _ [n] #[.int .i64 n] _ 1 rfl (by simp) rfl) (by simp) (by simp; omega) ?_)
  intro v2 w2 hg2
  have HO2 := hid (show w2.ownsRow w.heap.size 3 1 v2 1 (ints [n]) from hg2.own)
  have HX2 := hid (hg2.row (HX0.out.alloc _) (no_own HX0.out HL1.out (by decide)))
  have HB2 := hid ((HB0.out.alloc HB0.out.size (.cells #[.int .i64 n] 3)).trans hg2.bel)
  obtain ⟨s2, c2, rfl⟩ := own_slice HO2.out
  clear hg2
  have x0 := HX2.out.cell 0
  have x1 := HX2.out.cell 1
  have x2 := HX2.out.cell 2
  have x3 := HX2.out.cell 3
  simp at x0 x1 x2 x3
  go_wp2_with fail
  refine (stays_c 27 _).mono ?_
  rintro e wz ⟨rfl, rfl⟩
  go_wp2_with fail
  go_ret2
  exact ⟨_, by rw [HBt.out]; rfl, by rw [HN.out]; exact HO2.out, HB2.out⟩
set_option maxRecDepth 100000 in
set_option maxHeartbeats 2000000 in
theorem nexts_28 (code : List Int) (v : Value) (p : Nat) (ia ib n : Int) (w : World) (hr : Rd w v code) (hb : code.all isByte = true) (hlen : code.length ≤ 2000) (hp : p ≤ 2000) (hv : validIns ⟨28, ia, ib, n⟩ = true) (hs1 : 1 ≤ slong ⟨28, ia, ib, n⟩) (hs5 : slong ⟨28, ia, ib, n⟩ ≤ 5) :
    Calls Tryz.prog 87 #[v, .int .i64 p, .agg #[.int .i64 28, .int .i64 ia, .int .i64 ib, .int .i64 n]] w (NextsPost code ⟨28, ia, ib, n⟩ (p + slong ⟨28, ia, ib, n⟩) w) := by
  have HRd := hid hr
  have HBy := hid hb
  have HV := hid hv
  have hvb := valid_bounds hv
  have ho0 := hvb.o0
  have ho1 := hvb.o1
  simp only at ho0 ho1
  obtain ⟨a, cap, rfl, _⟩ := hr
  clear hb hv hvb
  have HBt := hid (show badTab code ⟨28, ia, ib, n⟩ = false from badTab_no (by simp only; omega))
  obtain ⟨s, hs⟩ : ∃ s, slong ⟨28, ia, ib, n⟩ = s := ⟨_, rfl⟩
  rw [hs] at hs1 hs5 ⊢
  have HSl := hid hs
  clear hs
  have HN := hid (show nextsP code ⟨28, ia, ib, n⟩ ((p : Int) + s) = [n] ++ [((p : Int) + s)] by rfl)
  have HX0 := hid ((Row.new w 70 #[.int .i64 28, .int .i64 ia, .int .i64 ib, .int .i64 n]).alloc (.cells #[] 3))
  have HB0 := hid (((Below.refl w.heap.size w).alloc (Nat.le_refl _) (.cells #[.int .i64 28, .int .i64 ia, .int .i64 ib, .int .i64 n] 70)).alloc (by simp) (.cells #[] 3))
  have HL0 := hid (own_mono (own_lit (w.alloc (.cells #[.int .i64 28, .int .i64 ia, .int .i64 ib, .int .i64 n] 70)) [] #[] rfl (by simp) 0 rfl) (show w.heap.size ≤ _ by simp))
  go_enter Tryz.func87, Tryz.ntmps87
  go_upto_region 3 with fail
  obtain ⟨g, hg⟩ : ∃ g, w.heap.size + 1 = g := ⟨_, rfl⟩
  have HL1 := hid (show ((w.alloc (.cells #[.int .i64 28, .int .i64 ia, .int .i64 ib, .int .i64 n] 70)).alloc (.cells #[] 3)).ownsRow w.heap.size 3 1 (.slice (some ⟨g, 0, none⟩) 0 0) 0 (ints []) by rw [← hg]; simpa using HL0.out)
  try rw [hg]
  clear HL0 hg
  generalize (w.alloc (.cells #[.int .i64 28, .int .i64 ia, .int .i64 ib, .int .i64 n] 70)).alloc (.cells #[] 3) = w1 at HX0 HL1 HB0 ⊢
  have z0 := HX0.out.cell 0
  have z1 := HX0.out.cell 1
  have z2 := HX0.out.cell 2
  have z3 := HX0.out.cell 3
  simp at z0 z1 z2 z3
  have hz1 := HB0.out.size
  go_wp2_with (at_builtin; refine app_ints _ rfl _ _ rfl w.heap.size [] [n] _ rfl (HL1.out.alloc _) _ _ _ rfl rfl (SrcAt.at_ _ [n] #[.int .i64 n] _ 1 rfl (by simp) rfl) (by simp) (by simp; omega) ?_)
  intro v2 w2 hg2
  have HO2 := hid (show w2.ownsRow w.heap.size 3 1 v2 1 (ints [n]) from hg2.own)
  have HX2 := hid (hg2.row (HX0.out.alloc _) (no_own HX0.out HL1.out (by decide)))
  have HB2 := hid ((HB0.out.alloc HB0.out.size (.cells #[.int .i64 n] 3)).trans hg2.bel)
  obtain ⟨s2, c2, rfl⟩ := own_slice HO2.out
  clear hg2
  have x0 := HX2.out.cell 0
  have x1 := HX2.out.cell 1
  have x2 := HX2.out.cell 2
  have x3 := HX2.out.cell 3
  simp at x0 x1 x2 x3
  go_wp2_with fail
  refine (stays_c 28 _).mono ?_
  rintro e wz ⟨rfl, rfl⟩
  go_wp2_with fail
  refine (long_c ⟨28, ia, ib, n⟩ (by simp only; omega) (by simp only; omega) _).mono ?_
  rw [HSl.out]
  rintro e w3 ⟨rfl, hb3⟩
  have HO3 := hid (own_on HO2.out hb3)
  have HB3 := hid (HB2.out.trans (hb3.mono (HB2.out.size)))
  have hz3 := HB3.out.size
  clear hb3
  go_wp2_with (at_builtin; refine app_ints _ rfl _ _ rfl w.heap.size [n] [(p : Int) + s] _ rfl (HO3.out.alloc _) _ _ _ rfl rfl (SrcAt.at_ _ [(p : Int) + s] #[.int .i64 ((p : Int) + s)] _ 1 rfl (by simp) rfl) (by simp; try omega) (by simp; omega) ?_)
  intro v4 w4 hg4
  have HO4 := hid hg4.own
  have HB4 := hid ((HB3.out.alloc HB3.out.size (.cells #[.int .i64 ((p : Int) + s)] 3)).trans hg4.bel)
  obtain ⟨s4, c4, rfl⟩ := own_slice hg4.own
  clear hg4
  go_wp2_with fail
  go_ret2
  exact ⟨_, by rw [HBt.out]; rfl, by rw [HN.out]; exact HO4.out, HB4.out⟩
set_option maxRecDepth 100000 in
set_option maxHeartbeats 2000000 in
theorem nexts_30 (code : List Int) (v : Value) (p : Nat) (ia ib n : Int) (w : World) (hr : Rd w v code) (hb : code.all isByte = true) (hlen : code.length ≤ 2000) (hp : p ≤ 2000) (hv : validIns ⟨30, ia, ib, n⟩ = true) (hs1 : 1 ≤ slong ⟨30, ia, ib, n⟩) (hs5 : slong ⟨30, ia, ib, n⟩ ≤ 5) :
    Calls Tryz.prog 87 #[v, .int .i64 p, .agg #[.int .i64 30, .int .i64 ia, .int .i64 ib, .int .i64 n]] w (NextsPost code ⟨30, ia, ib, n⟩ (p + slong ⟨30, ia, ib, n⟩) w) := by
  have HRd := hid hr
  have HBy := hid hb
  have HV := hid hv
  have hvb := valid_bounds hv
  have ho0 := hvb.o0
  have ho1 := hvb.o1
  simp only at ho0 ho1
  obtain ⟨a, cap, rfl, _⟩ := hr
  clear hb hv hvb
  obtain ⟨n0, n1, b1, b8⟩ := table_bd HV.out rfl
  have HBt := hid (show badTab code ⟨30, ia, ib, n⟩ = !(tabP code ⟨30, ia, ib, n⟩).isSome by unfold badTab; cases tabP code ⟨30, ia, ib, n⟩ <;> rfl)
  obtain ⟨s, hs⟩ : ∃ s, slong ⟨30, ia, ib, n⟩ = s := ⟨_, rfl⟩
  rw [hs] at hs1 hs5 ⊢
  have HSl := hid hs
  clear hs
  have HN := hid (show nextsP code ⟨30, ia, ib, n⟩ ((p : Int) + s) = (tabP code ⟨30, ia, ib, n⟩).getD [] ++ [((p : Int) + s)] by rfl)
  have HX0 := hid ((Row.new w 70 #[.int .i64 30, .int .i64 ia, .int .i64 ib, .int .i64 n]).alloc (.cells #[] 3))
  have HB0 := hid (((Below.refl w.heap.size w).alloc (Nat.le_refl _) (.cells #[.int .i64 30, .int .i64 ia, .int .i64 ib, .int .i64 n] 70)).alloc (by simp) (.cells #[] 3))
  have HL0 := hid (own_mono (own_lit (w.alloc (.cells #[.int .i64 30, .int .i64 ia, .int .i64 ib, .int .i64 n] 70)) [] #[] rfl (by simp) 0 rfl) (show w.heap.size ≤ _ by simp))
  go_enter Tryz.func87, Tryz.ntmps87
  go_upto_region 3 with fail
  obtain ⟨g, hg⟩ : ∃ g, w.heap.size + 1 = g := ⟨_, rfl⟩
  have HL1 := hid (show ((w.alloc (.cells #[.int .i64 30, .int .i64 ia, .int .i64 ib, .int .i64 n] 70)).alloc (.cells #[] 3)).ownsRow w.heap.size 3 1 (.slice (some ⟨g, 0, none⟩) 0 0) 0 (ints []) by rw [← hg]; simpa using HL0.out)
  try rw [hg]
  clear HL0 hg
  generalize (w.alloc (.cells #[.int .i64 30, .int .i64 ia, .int .i64 ib, .int .i64 n] 70)).alloc (.cells #[] 3) = w1 at HX0 HL1 HB0 ⊢
  have z0 := HX0.out.cell 0
  have z1 := HX0.out.cell 1
  have z2 := HX0.out.cell 2
  have z3 := HX0.out.cell 3
  simp at z0 z1 z2 z3
  have hz1 := HB0.out.size
  go_wp2_with fail
  refine (targets_c code _ ⟨30, ia, ib, n⟩ _ (HRd.out.on HB0.out) HBy.out hlen n0 (by simp only; omega) b1 b8).mono ?_
  rintro e w2 ⟨v2, rfl, hown2, hb2⟩
  have HO2 := hid (own_mono hown2 (show w.heap.size ≤ _ from HB0.out.size))
  have HX2 := hid (HX0.out.on hb2)
  have HB2 := hid (HB0.out.trans (hb2.mono HB0.out.size))
  obtain ⟨s2, c2, rfl⟩ := own_slice hown2
  clear hown2 hb2
  obtain ⟨ys, hys⟩ : ∃ ys, (tabP code ⟨30, ia, ib, n⟩).getD [] = ys := ⟨_, rfl⟩
  have hyl : ys.length ≤ 8 := by rw [← hys]; exact tab_len (by simp only; omega)
  rw [hys] at HO2 HN
  try rw [hys]
  have x0 := HX2.out.cell 0
  have x1 := HX2.out.cell 1
  have x2 := HX2.out.cell 2
  have x3 := HX2.out.cell 3
  simp at x0 x1 x2 x3
  go_wp2_with fail
  refine (stays_c 30 _).mono ?_
  rintro e wz ⟨rfl, rfl⟩
  go_wp2_with fail
  refine (long_c ⟨30, ia, ib, n⟩ (by simp only; omega) (by simp only; omega) _).mono ?_
  rw [HSl.out]
  rintro e w3 ⟨rfl, hb3⟩
  have HO3 := hid (own_on HO2.out hb3)
  have HB3 := hid (HB2.out.trans (hb3.mono (HB2.out.size)))
  have hz3 := HB3.out.size
  clear hb3
  go_wp2_with (at_builtin; refine app_ints _ rfl _ _ rfl w.heap.size ys [(p : Int) + s] _ rfl (HO3.out.alloc _) _ _ _ rfl rfl (SrcAt.at_ _ [(p : Int) + s] #[.int .i64 ((p : Int) + s)] _ 1 rfl (by simp) rfl) (by simp; try omega) (by simp; omega) ?_)
  intro v4 w4 hg4
  have HO4 := hid hg4.own
  have HB4 := hid ((HB3.out.alloc HB3.out.size (.cells #[.int .i64 ((p : Int) + s)] 3)).trans hg4.bel)
  obtain ⟨s4, c4, rfl⟩ := own_slice hg4.own
  clear hg4
  go_wp2_with fail
  go_ret2
  exact ⟨_, by rw [HBt.out, Bool.not_not]; rfl, by rw [HN.out]; exact HO4.out, HB4.out⟩
set_option maxRecDepth 100000 in
set_option maxHeartbeats 2000000 in
theorem nexts_next (code : List Int) (v : Value) (p : Nat) (op ia ib n : Int) (w : World) (h0 : op ≠ 0) (h1 : op ≠ 1) (h27 : op ≠ 27) (h28 : op ≠ 28) (h30 : op ≠ 30) (hr : Rd w v code) (hb : code.all isByte = true) (hlen : code.length ≤ 2000) (hp : p ≤ 2000) (hv : validIns ⟨op, ia, ib, n⟩ = true) (hs1 : 1 ≤ slong ⟨op, ia, ib, n⟩) (hs5 : slong ⟨op, ia, ib, n⟩ ≤ 5) :
    Calls Tryz.prog 87 #[v, .int .i64 p, .agg #[.int .i64 op, .int .i64 ia, .int .i64 ib, .int .i64 n]] w (NextsPost code ⟨op, ia, ib, n⟩ (p + slong ⟨op, ia, ib, n⟩) w) := by
  have HRd := hid hr
  have HBy := hid hb
  have HV := hid hv
  have hvb := valid_bounds hv
  have ho0 := hvb.o0
  have ho1 := hvb.o1
  simp only at ho0 ho1
  obtain ⟨a, cap, rfl, _⟩ := hr
  clear hb hv hvb
  have HBt := hid (show badTab code ⟨op, ia, ib, n⟩ = false from badTab_no (by simp only; omega))
  obtain ⟨s, hs⟩ : ∃ s, slong ⟨op, ia, ib, n⟩ = s := ⟨_, rfl⟩
  rw [hs] at hs1 hs5 ⊢
  have HSl := hid hs
  clear hs
  have HN := hid (show nextsP code ⟨op, ia, ib, n⟩ ((p : Int) + s) = [] ++ [((p : Int) + s)] by unfold nextsP; rw [if_neg (show ¬ (op = 0 ∨ op = 1) by omega), if_neg h27, if_neg h28, if_neg h30])
  have HX0 := hid ((Row.new w 70 #[.int .i64 op, .int .i64 ia, .int .i64 ib, .int .i64 n]).alloc (.cells #[] 3))
  have HB0 := hid (((Below.refl w.heap.size w).alloc (Nat.le_refl _) (.cells #[.int .i64 op, .int .i64 ia, .int .i64 ib, .int .i64 n] 70)).alloc (by simp) (.cells #[] 3))
  have HL0 := hid (own_mono (own_lit (w.alloc (.cells #[.int .i64 op, .int .i64 ia, .int .i64 ib, .int .i64 n] 70)) [] #[] rfl (by simp) 0 rfl) (show w.heap.size ≤ _ by simp))
  have b0 : (op == 0) = false := by rw [beq_eq_false_iff_ne]; exact h0
  have b1 : (op == 1) = false := by rw [beq_eq_false_iff_ne]; exact h1
  have b27 : (op == 27) = false := by rw [beq_eq_false_iff_ne]; exact h27
  have b28 : (op == 28) = false := by rw [beq_eq_false_iff_ne]; exact h28
  have b30 : (op == 30) = false := by rw [beq_eq_false_iff_ne]; exact h30
  go_enter Tryz.func87, Tryz.ntmps87
  go_upto_region 3 with fail
  obtain ⟨g, hg⟩ : ∃ g, w.heap.size + 1 = g := ⟨_, rfl⟩
  have HL1 := hid (show ((w.alloc (.cells #[.int .i64 op, .int .i64 ia, .int .i64 ib, .int .i64 n] 70)).alloc (.cells #[] 3)).ownsRow w.heap.size 3 1 (.slice (some ⟨g, 0, none⟩) 0 0) 0 (ints []) by rw [← hg]; simpa using HL0.out)
  try rw [hg]
  clear HL0 hg
  generalize (w.alloc (.cells #[.int .i64 op, .int .i64 ia, .int .i64 ib, .int .i64 n] 70)).alloc (.cells #[] 3) = w1 at HX0 HL1 HB0 ⊢
  have z0 := HX0.out.cell 0
  have z1 := HX0.out.cell 1
  have z2 := HX0.out.cell 2
  have z3 := HX0.out.cell 3
  simp at z0 z1 z2 z3
  have hz1 := HB0.out.size
  go_wp2_with fail
  refine (stays_c op _).mono ?_
  rintro e wz ⟨rfl, rfl⟩
  have hst : decide (op ≠ 0 ∧ op ≠ 1 ∧ op ≠ 27) = true := decide_eq_true ⟨h0, h1, h27⟩
  rw [hst]
  clear hst
  go_wp2_with fail
  refine (long_c ⟨op, ia, ib, n⟩ (by simp only; omega) (by simp only; omega) _).mono ?_
  rw [HSl.out]
  rintro e w3 ⟨rfl, hb3⟩
  have HO3 := hid (own_on HL1.out hb3)
  have HB3 := hid (HB0.out.trans (hb3.mono (HB0.out.size)))
  have hz3 := HB3.out.size
  clear hb3
  go_wp2_with (at_builtin; refine app_ints _ rfl _ _ rfl w.heap.size [] [(p : Int) + s] _ rfl (HO3.out.alloc _) _ _ _ rfl rfl (SrcAt.at_ _ [(p : Int) + s] #[.int .i64 ((p : Int) + s)] _ 1 rfl (by simp) rfl) (by simp; try omega) (by simp; omega) ?_)
  intro v4 w4 hg4
  have HO4 := hid hg4.own
  have HB4 := hid ((HB3.out.alloc HB3.out.size (.cells #[.int .i64 ((p : Int) + s)] 3)).trans hg4.bel)
  obtain ⟨s4, c4, rfl⟩ := own_slice hg4.own
  clear hg4
  go_wp2_with fail
  go_ret2
  exact ⟨_, by rw [HBt.out]; rfl, by rw [HN.out]; exact HO4.out, HB4.out⟩
theorem nexts_c (code : List Int) (v : Value) (p : Nat) (i : IIns) (w : World) (hr : Rd w v code) (hb : code.all isByte = true) (hlen : code.length ≤ 2000) (hp : p ≤ 2000) (hv : validIns i = true) (hs1 : 1 ≤ slong i) (hs5 : slong i ≤ 5) :
    Calls Tryz.prog 87 #[v, .int .i64 p, i.val] w (NextsPost code i (p + slong i) w) := by
  obtain ⟨op, ia, ib, n⟩ := i
  by_cases h0 : op = 0
  · subst h0; exact nexts_0 code v p ia ib n w hr hb hlen hp hv hs1 hs5
  by_cases h1 : op = 1
  · subst h1; exact nexts_1 code v p ia ib n w hr hb hlen hp hv hs1 hs5
  by_cases h27 : op = 27
  · subst h27; exact nexts_27 code v p ia ib n w hr hb hlen hp hv hs1 hs5
  by_cases h28 : op = 28
  · subst h28; exact nexts_28 code v p ia ib n w hr hb hlen hp hv hs1 hs5
  by_cases h30 : op = 30
  · subst h30; exact nexts_30 code v p ia ib n w hr hb hlen hp hv hs1 hs5
  exact nexts_next code v p op ia ib n w h0 h1 h27 h28 h30 hr hb hlen hp hv hs1 hs5
end Go.Proofs.YtihhpgklpichgaaGreat.Wk
namespace Go.Proofs.YtihhpgklpichgaaGreat.Wk
open Go.RowKit Pl Ft Mm In C2 Im Sw

/-- Block g holds at least n bools: these. -/
def BAt (w : World) (g n : Nat) (f : Nat → Bool) : Prop := ∃ cur, Row w g 4 cur ∧ ∀ j, j < n → cur[j]? = some (.bool (f j))
theorem BAt.cell {w : World} {g n : Nat} {f : Nat → Bool} (h : BAt w g n f) {j : Nat} (hj : j < n) : w.cell? ⟨g, j, none⟩ = some (.bool (f j)) := by
  obtain ⟨cur, hr, hc⟩ := h
  rw [hr.cell j]
  exact hc j hj
theorem BAt.lt {w : World} {g n : Nat} {f : Nat → Bool} (h : BAt w g n f) : g < w.heap.size := by obtain ⟨cur, hr, _⟩ := h; exact hr.lt
theorem BAt.on {w w' : World} {g n : Nat} {f : Nat → Bool} (h : BAt w g n f) (hb : Below w.heap.size w w') : BAt w' g n f := by
  obtain ⟨cur, hr, hc⟩ := h
  exact ⟨cur, hr.on hb, hc⟩
theorem BAt.set {w : World} {g n : Nat} {f : Nat → Bool} (h : BAt w g n f) {p : Nat} (hp : p < n) : BAt (w.setCell ⟨g, p, none⟩ (.bool true)) g n (fun q => f q || q == p) := by
  obtain ⟨cur, hr, hc⟩ := h
  refine ⟨_, hr.set p (.bool true), fun j hj => ?_⟩
  have hps : p < cur.size := by
    have := hc p hp
    exact (Array.getElem?_eq_some_iff.1 this).1
  by_cases hjp : j = p
  · subst hjp
    simp [hps]
  · rw [Array.getElem?_setIfInBounds_ne (fun e => hjp e.symm), hc j hj]
    have : (j == p) = false := by rw [beq_eq_false_iff_ne]; exact hjp
    show _ = some (Value.bool (f j || j == p))
    rw [this, Bool.or_false]
theorem BAt.only {q : Nat → Prop} {w w' : World} {g n : Nat} {f : Nat → Bool} (h : BAt w g n f) (hg : ¬ q g) (ho : Only q w w') : BAt w' g n f := by
  obtain ⟨cur, hr, hc⟩ := h
  exact ⟨cur, row_only hr hg ho, hc⟩
def WaysPost2 (l : List Int) (w : World) (e : Ending) (w' : World) : Prop := ∃ v, e = .returned v ∧ w'.ownsRow w.heap.size 3 1 v l.length (ints l) ∧ Below w.heap.size w w'
def truesL (f : Nat → Bool) (k : Nat) : List Int := ((List.range k).filter f).map fun (j : Nat) => (j : Int)
theorem truesL_yes {f : Nat → Bool} {k : Nat} (h : f k = true) : truesL f (k + 1) = truesL f k ++ [(k : Int)] := by simp [truesL, List.range_succ, h]
theorem truesL_no {f : Nat → Bool} {k : Nat} (h : f k = false) : truesL f (k + 1) = truesL f k := by simp [truesL, List.range_succ, h]
theorem truesL_len (f : Nat → Bool) (k : Nat) : (truesL f k).length ≤ k := by
  unfold truesL
  rw [List.length_map]
  exact Nat.le_trans (List.length_filter_le _ _) (by simp)
set_option maxRecDepth 100000 in
set_option maxHeartbeats 1000000 in
theorem trues_c (n g cap : Nat) (f : Nat → Bool) (w : World) (h : BAt w g n f) (hn : n ≤ 2000) :
    Calls Tryz.prog 88 #[.slice (some ⟨g, 0, none⟩) n cap] w (WaysPost2 (truesL f n) w) := by
  have HB := hid h
  have hgl := h.lt
  clear h
  have HB0 := hid ((Below.refl w.heap.size w).alloc (Nat.le_refl _) (.cells #[] 3))
  have HL := hid (own_lit w [] #[] rfl (by simp) 0 rfl)
  go_enter Tryz.func88, Tryz.ntmps88
  go_wp2_with fail
  go_loopw [3, 4] (fun v c wr => ∃ (k : Nat) (xs : List Int), c = .int .i64 k ∧ k ≤ n ∧ xs = truesL f k ∧ wr.ownsRow w.heap.size 3 1 v xs.length (ints xs) ∧ Below w.heap.size w wr) (fun _ c _ => n - (intOf c).toNat)
  case atStart => exact ⟨0, [], rfl, by omega, rfl, HL.out, HB0.out⟩
  case round =>
    obtain ⟨k, xs, rfl, hk, hxs, hown, hbel⟩ := hrel
    have HO := hid hown
    have HBe := hid hbel
    have HX := hid hxs
    have hxl : xs.length ≤ k := by rw [hxs]; exact truesL_len f k
    have hz := hbel.size
    have HBr := hid (HB.out.on hbel)
    obtain ⟨sv, cv, rfl⟩ := own_slice hown
    clear hown hbel hxs
    by_cases hlt : k < n
    · have hc := HBr.out.cell hlt
      cases hf : f k
      · rw [hf] at hc
        have HF := hid (truesL_no hf)
        clear hf
        go_wp2_with fail
        go_roundw
        case rel => exact ⟨k + 1, xs, by go_num, by omega, by rw [HF.out]; exact HX.out, HO.out, HBe.out⟩
        case measure => simp [intOf]; omega
      · rw [hf] at hc
        have HF := hid (truesL_yes hf)
        clear hf
        go_wp2_with (at_builtin; refine app_ints _ rfl _ _ rfl w.heap.size xs [(k : Int)] _ rfl (HO.out.alloc _) _ _ _ rfl rfl (SrcAt.at_ _ [(k : Int)] #[.int .i64 k] _ 1 rfl (by simp) rfl) (by simp; omega) (by simp; omega) ?_)
        intro v2 w2 hg2
        have HO2 := hid hg2.own
        have HB2 := hid ((HBe.out.alloc HBe.out.size (.cells #[.int .i64 k] 3)).trans hg2.bel)
        obtain ⟨s2, c2, rfl⟩ := own_slice hg2.own
        clear hg2 hc
        go_wp2_with fail
        go_roundw
        case rel => exact ⟨k + 1, xs ++ [(k : Int)], by go_num, by omega, by rw [HF.out, HX.out], HO2.out, HB2.out⟩
        case measure => simp [intOf]; omega
    · obtain rfl : k = n := by omega
      have HX2 := HX.out
      go_wp2_with fail
      go_ret
      exact ⟨_, rfl, by rw [← HX2]; exact HO.out, HBe.out⟩
end Go.Proofs.YtihhpgklpichgaaGreat.Wk
