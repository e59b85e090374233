/- leave of the program: all places to which an exit leads. -/
import Derived.Test.YtihhpgklpichgaaGreatWy2
import Derived.Test.YtihhpgklpichgaaGreatTb
import Derived.Test.YtihhpgklpichgaaGreatMark
set_option linter.unusedSimpArgs false
set_option linter.unusedVariables false
namespace Go.Proofs.YtihhpgklpichgaaGreat.Wk
open Go.RowKit Pl Ft Mm In C2 Im Sw

/-- The places are handed back; of what there was just the walk's own block may have turned. -/
def LeavePost (l : List Int) (gw : Nat) (vc mp : Value) (lost : Bool) (w : World) (e : Ending) (w' : World) : Prop :=
  ∃ v, e = .returned v ∧ w'.ownsRow w.heap.size 3 1 v l.length (ints l) ∧ Row w' gw 88 #[vc, mp, .bool lost] ∧ Only (fun g => g = gw) w w'
theorem ta_stop_call (w : World) : (Instr.typeAssert (.iface 141 (.agg #[])) 118 149 true).run Tryz.prog w = .ok (.tuple #[.agg #[.int .i64 0, .int .i64 0], .bool false]) w := by kernel_rfl
theorem ta_stop_table (w : World) : (Instr.typeAssert (.iface 141 (.agg #[])) 118 151 true).run Tryz.prog w = .ok (.tuple #[.agg #[.slice none 0 0, .bool false, .int .i64 0], .bool false]) w := by kernel_rfl
theorem ta_next_call (x : Int) (w : World) : (Instr.typeAssert (.iface 147 (.agg #[.int .i64 x])) 118 149 true).run Tryz.prog w = .ok (.tuple #[.agg #[.int .i64 0, .int .i64 0], .bool false]) w := by kernel_rfl
theorem ta_next_table (x : Int) (w : World) : (Instr.typeAssert (.iface 147 (.agg #[.int .i64 x])) 118 151 true).run Tryz.prog w = .ok (.tuple #[.agg #[.slice none 0 0, .bool false, .int .i64 0], .bool false]) w := by kernel_rfl
theorem ta_jump_call (x : Int) (w : World) : (Instr.typeAssert (.iface 143 (.agg #[.int .i64 x])) 118 149 true).run Tryz.prog w = .ok (.tuple #[.agg #[.int .i64 0, .int .i64 0], .bool false]) w := by kernel_rfl
theorem ta_jump_table (x : Int) (w : World) : (Instr.typeAssert (.iface 143 (.agg #[.int .i64 x])) 118 151 true).run Tryz.prog w = .ok (.tuple #[.agg #[.slice none 0 0, .bool false, .int .i64 0], .bool false]) w := by kernel_rfl
theorem ta_if_call (x y : Int) (w : World) : (Instr.typeAssert (.iface 145 (.agg #[.int .i64 x, .int .i64 y])) 118 149 true).run Tryz.prog w = .ok (.tuple #[.agg #[.int .i64 0, .int .i64 0], .bool false]) w := by kernel_rfl
theorem ta_if_table (x y : Int) (w : World) : (Instr.typeAssert (.iface 145 (.agg #[.int .i64 x, .int .i64 y])) 118 151 true).run Tryz.prog w = .ok (.tuple #[.agg #[.slice none 0 0, .bool false, .int .i64 0], .bool false]) w := by kernel_rfl
theorem ta_table_call (v : Value) (b : Bool) (x : Int) (w : World) : (Instr.typeAssert (.iface 151 (.agg #[v, .bool b, .int .i64 x])) 118 149 true).run Tryz.prog w = .ok (.tuple #[.agg #[.int .i64 0, .int .i64 0], .bool false]) w := by kernel_rfl
theorem ta_table_table (v : Value) (b : Bool) (x : Int) (w : World) : (Instr.typeAssert (.iface 151 (.agg #[v, .bool b, .int .i64 x])) 118 151 true).run Tryz.prog w = .ok (.tuple #[.agg #[v, .bool b, .int .i64 x], .bool true]) w := by kernel_rfl
theorem ta_call_call (x y : Int) (w : World) : (Instr.typeAssert (.iface 149 (.agg #[.int .i64 x, .int .i64 y])) 118 149 true).run Tryz.prog w = .ok (.tuple #[.agg #[.int .i64 x, .int .i64 y], .bool true]) w := by kernel_rfl
set_option maxRecDepth 100000 in
set_option maxHeartbeats 1000000 in
theorem leave_stop (gw : Nat) (vc mp : Value) (lost : Bool) (w : World) (h : Row w gw 88 #[vc, mp, .bool lost]) :
    Calls Tryz.prog 126 #[.pointer (some ⟨gw, 0, none⟩), .iface 141 (.agg #[])] w (LeavePost [] gw vc mp lost w) := by
  have HW := hid h
  have ta1 := ta_stop_call 
  have ta2 := ta_stop_table 
  clear h
  go_enter Tryz.func126, Tryz.ntmps126
  go_wp2_with fail
  refine (stopWays_c _).mono ?_
  rintro e w1 ⟨v1, rfl, hown, hb⟩
  have HO := hid hown
  have HB := hid hb
  obtain ⟨s1, c1, rfl⟩ := own_slice hown
  clear hown hb
  go_wp2_with fail
  go_ret
  exact ⟨_, rfl, HO.out, HW.out.on HB.out, .of_below HB.out⟩
set_option maxRecDepth 100000 in
set_option maxHeartbeats 1000000 in
theorem leave_next (gw : Nat) (vc mp : Value) (lost : Bool) (x : Int) (w : World) (h : Row w gw 88 #[vc, mp, .bool lost]) :
    Calls Tryz.prog 126 #[.pointer (some ⟨gw, 0, none⟩), .iface 147 (.agg #[.int .i64 x])] w (LeavePost [x] gw vc mp lost w) := by
  have HW := hid h
  have ta1 := ta_next_call x
  have ta2 := ta_next_table x
  clear h
  go_enter Tryz.func126, Tryz.ntmps126
  go_wp2_with fail
  refine (nextWays_c x _).mono ?_
  rintro e w1 ⟨v1, rfl, hown, hb⟩
  have HO := hid hown
  have HB := hid hb
  obtain ⟨s1, c1, rfl⟩ := own_slice hown
  clear hown hb
  go_wp2_with fail
  go_ret
  exact ⟨_, rfl, HO.out, HW.out.on HB.out, .of_below HB.out⟩
set_option maxRecDepth 100000 in
set_option maxHeartbeats 1000000 in
theorem leave_jump (gw : Nat) (vc mp : Value) (lost : Bool) (x : Int) (w : World) (h : Row w gw 88 #[vc, mp, .bool lost]) :
    Calls Tryz.prog 126 #[.pointer (some ⟨gw, 0, none⟩), .iface 143 (.agg #[.int .i64 x])] w (LeavePost [x] gw vc mp lost w) := by
  have HW := hid h
  have ta1 := ta_jump_call x
  have ta2 := ta_jump_table x
  clear h
  go_enter Tryz.func126, Tryz.ntmps126
  go_wp2_with fail
  refine (jumpWays_c x _).mono ?_
  rintro e w1 ⟨v1, rfl, hown, hb⟩
  have HO := hid hown
  have HB := hid hb
  obtain ⟨s1, c1, rfl⟩ := own_slice hown
  clear hown hb
  go_wp2_with fail
  go_ret
  exact ⟨_, rfl, HO.out, HW.out.on HB.out, .of_below HB.out⟩
set_option maxRecDepth 100000 in
set_option maxHeartbeats 1000000 in
theorem leave_if (gw : Nat) (vc mp : Value) (lost : Bool) (x y : Int) (w : World) (h : Row w gw 88 #[vc, mp, .bool lost]) :
    Calls Tryz.prog 126 #[.pointer (some ⟨gw, 0, none⟩), .iface 145 (.agg #[.int .i64 x, .int .i64 y])] w (LeavePost [x, y] gw vc mp lost w) := by
  have HW := hid h
  have ta1 := ta_if_call x y
  have ta2 := ta_if_table x y
  clear h
  go_enter Tryz.func126, Tryz.ntmps126
  go_wp2_with fail
  refine (ifWays_c x y _).mono ?_
  rintro e w1 ⟨v1, rfl, hown, hb⟩
  have HO := hid hown
  have HB := hid hb
  obtain ⟨s1, c1, rfl⟩ := own_slice hown
  clear hown hb
  go_wp2_with fail
  go_ret
  exact ⟨_, rfl, HO.out, HW.out.on HB.out, .of_below HB.out⟩
set_option maxRecDepth 100000 in
set_option maxHeartbeats 2000000 in
theorem leave_table (gw : Nat) (vc mp : Value) (lost : Bool) (xs : List Int) (B : Nat) (tv : Value) (wh : Bool) (x : Int) (w : World) (h : Row w gw 88 #[vc, mp, .bool lost]) (ho : w.ownsRow B 3 1 tv xs.length (ints xs)) (hl : xs.length ≤ 1000000) (hgB : gw < B) :
    Calls Tryz.prog 126 #[.pointer (some ⟨gw, 0, none⟩), .iface 151 (.agg #[tv, .bool wh, .int .i64 x])] w (LeavePost (xs ++ [x]) gw vc mp (lost || !wh) w) := by
  have HW := hid h
  have HO := hid ho
  obtain ⟨ts, tc, rfl⟩ := own_slice ho
  have ta1 := ta_table_call (.slice ts xs.length tc) wh x
  have ta2 := ta_table_table (.slice ts xs.length tc) wh x
  clear h ho
  have HX0 := hid (Row.new w 151 #[.slice ts xs.length tc, .bool wh, .int .i64 x])
  have HB0 := hid ((Below.refl w.heap.size w).alloc (Nat.le_refl _) (.cells #[.slice ts xs.length tc, .bool wh, .int .i64 x] 151))
  have HW0 := hid (HW.out.alloc (.cells #[.slice ts xs.length tc, .bool wh, .int .i64 x] 151))
  have HO0 := hid (HO.out.alloc (.cells #[.slice ts xs.length tc, .bool wh, .int .i64 x] 151))
  have y2 := HW.out.cell 2
  simp at y2
  have hfw := HW.out.free
  have hlt := HW.out.lt
  have hne : gw ≠ w.heap.size := by omega
  have HN := hid (Only.trans ((Only.refl (fun g => g = gw) w).setCell (g := gw) rfl 2 (.bool (lost || !wh))) (.of_below ((Below.refl _ _).alloc (Nat.le_refl _) (.cells #[.slice ts xs.length tc, .bool wh, .int .i64 x] 151))))
  have HW1 := hid (show Row ((w.setCell ⟨gw, 2, none⟩ (.bool (lost || !wh))).alloc (.cells #[.slice ts xs.length tc, .bool wh, .int .i64 x] 151)) gw 88 #[vc, mp, .bool (lost || !wh)] from (HW.out.set 2 (.bool (lost || !wh))).alloc _)
  have HO1 := hid ((own_far HO.out (p := ⟨gw, 2, none⟩) (fun g hg => by have := (HO.out.lt g hg).1; simp only; omega) (.bool (lost || !wh))).alloc (.cells #[.slice ts xs.length tc, .bool wh, .int .i64 x] 151))
  go_enter Tryz.func126, Tryz.ntmps126
  cases lost with
  | true =>
    simp only [Bool.true_or] at HN HW1 HO1 ⊢
    go_wp2_with fail
    refine (tableWays_c xs B _ wh x _ HO1.out hl).mono ?_
    rintro e w1 ⟨v1, rfl, hown, hb⟩
    have HO2 := hid (own_mono hown HN.out.size)
    have HB := hid hb
    obtain ⟨s1, c1, rfl⟩ := own_slice hown
    clear hown hb
    go_wp2_with fail
    go_ret
    exact ⟨_, rfl, by have h := HO2.out; rw [show (xs ++ [x]).length = xs.length + 1 by simp] at h ⊢; exact h, HW1.out.on HB.out, HN.out.trans (.of_below HB.out)⟩
  | false =>
    simp only [Bool.false_or] at HN HW1 HO1 ⊢
    go_wp2_with fail
    refine (tableWays_c xs B _ wh x _ HO1.out hl).mono ?_
    rintro e w1 ⟨v1, rfl, hown, hb⟩
    have HO2 := hid (own_mono hown HN.out.size)
    have HB := hid hb
    obtain ⟨s1, c1, rfl⟩ := own_slice hown
    clear hown hb
    go_wp2_with fail
    go_ret
    exact ⟨_, rfl, by have h := HO2.out; rw [show (xs ++ [x]).length = xs.length + 1 by simp] at h ⊢; exact h, HW1.out.on HB.out, HN.out.trans (.of_below HB.out)⟩
set_option maxRecDepth 100000 in
set_option maxHeartbeats 2000000 in
theorem leave_call (gw : Nat) (vc mp : Value) (lost : Bool) (x y : Int) (w : World) (h : Row w gw 88 #[vc, mp, .bool lost]) :
    Calls Tryz.prog 126 #[.pointer (some ⟨gw, 0, none⟩), .iface 149 (.agg #[.int .i64 x, .int .i64 y])] w (LeavePost ([x] ++ [y]) gw vc mp lost w) := by
  have HW := hid h
  have ta1 := ta_call_call x y
  clear h
  have HX0 := hid (Row.new w 149 #[.int .i64 x, .int .i64 y])
  have HB0 := hid ((Below.refl w.heap.size w).alloc (Nat.le_refl _) (.cells #[.int .i64 x, .int .i64 y] 149))
  go_enter Tryz.func126, Tryz.ntmps126
  go_wp2_with fail
  have hz0 : w.heap.size < (w.alloc (.cells #[.int .i64 x, .int .i64 y] 149)).heap.size := by simp
  obtain ⟨g, hg⟩ : ∃ g, w.heap.size = g := ⟨_, rfl⟩
  rw [hg] at HX0 hz0
  try rw [hg]
  have HGe := hid hg
  clear hg
  generalize w.alloc (.cells #[.int .i64 x, .int .i64 y] 149) = w0 at HX0 HB0 hz0 ⊢
  have x0 := HX0.out.cell 0
  have x1 := HX0.out.cell 1
  simp at x0 x1
  have HSl := hid (SrcAt.at_ w0.drew [y] #[.int .i64 y] _ 1 rfl rfl rfl)
  go_region_law (first
    | (refine stp_ints _ rfl _ _ rfl g [x] [y] _ (by rfl) (by first | exact HV1.out.alloc _ | exact HV1.out) _ _ _ rfl rfl (by first | exact HSx.out | exact SrcAt.at_ _ [y] #[.int .i64 y] _ 1 rfl (by simp) rfl) (by simp) (by first | (simp; omega) | omega) ?_; intro v2 w2 hg2; obtain ⟨s2, c2, rfl⟩ := own_slice hg2.own; have HG2 := hid hg2; clear hg2)
    | (go_simp; go_at_call 151; refine (nextWays_c x w0.drew).mono ?_; rintro e w1 ⟨v1, rfl, hv1, hb1⟩; obtain ⟨s1, c1, rfl⟩ := own_slice hv1; have HV1 := hid (own_mono hv1 (show g ≤ w0.drew.heap.size from (by have := HB0.out.size; have := HGe.out; simp only [World.drew]; omega))); have HB1 := hid (HB0.out.drew.trans (hb1.mono HB0.out.drew.size)); have HX1 := hid (HX0.out.drew.on hb1); have y1 := HX1.out.cell 1; simp at y1; have hz1 : g ≤ w1.heap.size := (by have := HB1.out.size; have := HGe.out; omega); clear hv1 hb1)
    | (go_simp; go_at_call 151; refine (nextWays_c x (w0.drew.alloc (.cells #[.int .i64 y] 3))).mono ?_; rintro e w1 ⟨v1, rfl, hv1, hb1⟩; obtain ⟨s1, c1, rfl⟩ := own_slice hv1; have HV1 := hid (own_mono hv1 (show g ≤ (w0.drew.alloc (.cells #[.int .i64 y] 3)).heap.size from (by have := HB0.out.size; have := HGe.out; simp only [World.drew, World.size_alloc]; omega))); have HB1 := hid ((HB0.out.drew.alloc HB0.out.drew.size (.cells #[.int .i64 y] 3)).trans (hb1.mono (HB0.out.drew.alloc HB0.out.drew.size (.cells #[.int .i64 y] 3)).size)); have HSx := hid (HSl.out.on (fun p hp => hb1.cell hp)); have hz1 : g ≤ w1.heap.size := (by have := HB1.out.size; have := HGe.out; omega); clear hv1 hb1))
  all_goals
    have hown2 := HG2.out.own
    have hb2 := HG2.out.bel
    rw [← HGe.out] at hown2 hb2
    have HO2 := hid hown2
    have HB2 := hid hb2
    clear hown2 hb2
    have HB3 := hid (show Below w.heap.size w w2 by first | exact HB1.out.trans HB2.out | exact (HB1.out.alloc HB1.out.size _).trans HB2.out)
    go_wp2_with fail
    go_ret
    exact ⟨_, rfl, HO2.out, HW.out.on HB3.out, .of_below HB3.out⟩
/-- leave of whatever exit an instruction has. -/
theorem leave_c (code : List Int) (i : IIns) (next : Int) (gw : Nat) (vc mp : Value) (lost : Bool) (B : Nat) (tv : Value) (w : World) (h : Row w gw 88 #[vc, mp, .bool lost])
    (ho : i.op = 30 → w.ownsRow B 3 1 tv ((tabP code i).getD []).length (ints ((tabP code i).getD []))) (hl : i.op = 30 → ((tabP code i).getD []).length ≤ 1000000) (hgB : gw < B) :
    Calls Tryz.prog 126 #[.pointer (some ⟨gw, 0, none⟩), exVal i next tv (tabP code i).isSome] w (LeavePost (succs code i next) gw vc mp (lost || badTab code i) w) := by
  by_cases h0 : i.op = 0 ∨ i.op = 1
  · rw [badTab_no (by omega), Bool.or_false]
    unfold exVal succs
    rw [if_pos h0, if_pos h0]
    exact leave_stop gw vc mp lost w h
  by_cases h27 : i.op = 27
  · rw [badTab_no (by omega), Bool.or_false]
    unfold exVal succs
    rw [if_neg h0, if_neg h0, if_pos h27, if_pos h27]
    exact leave_jump gw vc mp lost i.n w h
  by_cases h28 : i.op = 28
  · rw [badTab_no (by omega), Bool.or_false]
    unfold exVal succs
    rw [if_neg h0, if_neg h0, if_neg h27, if_neg h27, if_pos h28, if_pos h28]
    exact leave_if gw vc mp lost i.n next w h
  by_cases h29 : i.op = 29
  · rw [badTab_no (by omega), Bool.or_false]
    unfold exVal succs
    rw [if_neg h0, if_neg h0, if_neg h27, if_neg h27, if_neg h28, if_neg h28, if_pos h29, if_pos h29]
    exact leave_call gw vc mp lost next i.n w h
  by_cases h30 : i.op = 30
  · have hb : badTab code i = !(tabP code i).isSome := by unfold badTab; rw [h30]; cases tabP code i <;> rfl
    rw [hb]
    unfold exVal succs
    rw [if_neg h0, if_neg h0, if_neg h27, if_neg h27, if_neg h28, if_neg h28, if_neg h29, if_neg h29, if_pos h30, if_pos h30]
    exact leave_table gw vc mp lost _ B tv _ next w h (ho h30) (hl h30) hgB
  · rw [badTab_no h30, Bool.or_false]
    unfold exVal succs
    rw [if_neg h0, if_neg h0, if_neg h27, if_neg h27, if_neg h28, if_neg h28, if_neg h29, if_neg h29, if_neg h30, if_neg h30]
    exact leave_next gw vc mp lost next w h
end Go.Proofs.YtihhpgklpichgaaGreat.Wk
