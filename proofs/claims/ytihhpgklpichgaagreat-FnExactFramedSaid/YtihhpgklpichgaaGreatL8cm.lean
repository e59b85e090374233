/- L8cm: several texts in one. -/
import Derived.Test.YtihhpgklpichgaaGreatAllAm
import Derived.BigQuiet
import Derived.Test.YtihhpgklpichgaaGreatL3a
import Derived.Test.YtihhpgklpichgaaGreatSwCap
/- Heights of the model: rises, heights. -/
set_option linter.unusedSimpArgs false
set_option linter.unusedVariables false
namespace Go.Proofs.YtihhpgklpichgaaGreat.Wk
open Go.RowKit Pl Ft Mm In C2 Im Sw Gp

/-- Block g holds at least n numbers: these. -/
def NAt (w : World) (g n : Nat) (f : Nat → Int) : Prop := ∃ cur, Row w g 3 cur ∧ ∀ j, j < n → cur[j]? = some (.int .i64 (f j))
theorem NAt.cell {w : World} {g n : Nat} {f : Nat → Int} (h : NAt w g n f) {j : Nat} (hj : j < n) : w.cell? ⟨g, j, none⟩ = some (.int .i64 (f j)) := by
  obtain ⟨cur, hr, hc⟩ := h
  rw [hr.cell j]
  exact hc j hj
theorem NAt.lt {w : World} {g n : Nat} {f : Nat → Int} (h : NAt w g n f) : g < w.heap.size := by obtain ⟨cur, hr, _⟩ := h; exact hr.lt
theorem NAt.free {w : World} {g n : Nat} {f : Nat → Int} (h : NAt w g n f) (j : Nat) : w.frozen? ⟨g, j, none⟩ = false := by obtain ⟨cur, hr, _⟩ := h; exact hr.free j
theorem NAt.on {w w' : World} {g n : Nat} {f : Nat → Int} (h : NAt w g n f) (hb : Below w.heap.size w w') : NAt w' g n f := by
  obtain ⟨cur, hr, hc⟩ := h
  exact ⟨cur, hr.on hb, hc⟩
theorem NAt.set {w : World} {g n : Nat} {f : Nat → Int} (h : NAt w g n f) {p : Nat} (hp : p < n) (x : Int) : NAt (w.setCell ⟨g, p, none⟩ (.int .i64 x)) g n (fun q => if q = p then x else f q) := by
  obtain ⟨cur, hr, hc⟩ := h
  refine ⟨_, hr.set p (.int .i64 x), fun j hj => ?_⟩
  have h1 := hc j hj
  have hl : p < cur.size := by have := hc p hp; exact (Array.getElem?_eq_some_iff.1 this).1
  show _ = some (Value.int .i64 (if j = p then x else f j))
  by_cases e : j = p
  · subst e
    rw [if_pos rfl, Array.getElem?_setIfInBounds_self, if_pos hl]
  · rw [if_neg e, Array.getElem?_setIfInBounds_ne (fun h => e h.symm)]
    exact h1
theorem NAt.only {q : Nat → Prop} {w w' : World} {g n : Nat} {f : Nat → Int} (h : NAt w g n f) (hg : ¬ q g) (ho : Only q w w') : NAt w' g n f := by
  obtain ⟨cur, hr, hc⟩ := h
  exact ⟨cur, row_only hr hg ho, hc⟩
theorem NAt.of_own {w : World} {base n : Nat} {v : Value} {f : Nat → Int} (h : w.ownsRow base 3 1 v n ((List.range n).map fun j => .int .i64 (f j))) (hn : 0 < n) : ∃ g cap, v = .slice (some ⟨g, 0, none⟩) n cap ∧ base ≤ g ∧ NAt w g n f := by
  rcases h.2 with ⟨_, h0⟩ | ⟨g, cap, cur, rfl, hg, hr, hnc, hm, hs, ht⟩
  · omega
  · refine ⟨g, cap, rfl, hg, cur, hr, fun j hj => ?_⟩
    have h1 := congrArg (fun l => l[j]?) ht
    simp only [List.getElem?_take, Nat.mul_one, hj, if_true, List.getElem?_map, List.getElem?_range hj, Option.map_some] at h1
    rw [← Array.getElem?_toList]
    exact h1
theorem made_ints (n : Nat) : (madeCells (Value.cells (.int .i64 0)) (n * 1)).toList = (List.range n).map fun _ => Value.int .i64 0 := by
  have e : Value.cells (.int .i64 0) = #[.int .i64 0] := rfl
  rw [e, toList_madeCells_one, Nat.mul_one, List.map_const', List.length_range]
/-- How the stack turns, and how much must be there. -/
def RisePost (i : IIns) (w : World) (e : Ending) (w' : World) : Prop := e = .returned (.tuple #[.int .i64 (riseP i), .int .i64 (needsP i)]) ∧ Below w.heap.size w w'
set_option maxHeartbeats 2000000 in
theorem rises_c (i : IIns) (hv : validIns i = true) (hn : (i.op = 23 ∨ i.op = 24 ∨ i.op = 25 ∨ i.op = 26) → 0 ≤ i.n ∧ i.n ≤ 255) (w : World) : Calls Tryz.prog 79 #[i.val] w (RisePost i w) := by
  obtain ⟨op, ia, ib, n⟩ := i
  have HN := hid hn
  clear hv hn
  obtain ⟨w1, hw1, hr1, hb1, hz1⟩ := new_ex w 70 #[.int .i64 op, .int .i64 ia, .int .i64 ib, .int .i64 n]
  have HR1 := hid hr1
  have HB1 := hid hb1
  have x0 := hr1.cell 0
  have x3 := hr1.cell 3
  simp at x0 x3
  clear hr1 hb1
  unfold IIns.val
  simp only
  unfold RisePost
  by_cases h3 : op = 3
  · have HR := hid (show riseP ⟨op, ia, ib, n⟩ = 1 ∧ needsP ⟨op, ia, ib, n⟩ = 0 by unfold riseP needsP; simp [h3])
    rw [HR.out.1, HR.out.2]
    go_enter Tryz.func79, Tryz.ntmps79
    go_wp2_with fail
    go_ret2
    exact ⟨rfl, by first | exact HB1.out | exact HB1.out.drew | exact (Below.refl w.heap.size w).alloc (Nat.le_refl _) _ | exact ((Below.refl w.heap.size w).alloc (Nat.le_refl _) _).drew | exact ((Below.refl w.heap.size w).alloc (Nat.le_refl _) _).drew.drew | exact ((Below.refl w.heap.size w).alloc (Nat.le_refl _) _).trans ⟨rfl, rfl, rfl, Nat.le_refl _, fun _ _ => rfl⟩⟩
  by_cases h4 : op = 4
  · have HR := hid (show riseP ⟨op, ia, ib, n⟩ = -1 ∧ needsP ⟨op, ia, ib, n⟩ = 1 by unfold riseP needsP; simp [h4])
    rw [HR.out.1, HR.out.2]
    go_enter Tryz.func79, Tryz.ntmps79
    go_wp2_with fail
    go_ret2
    exact ⟨rfl, by first | exact HB1.out | exact HB1.out.drew | exact (Below.refl w.heap.size w).alloc (Nat.le_refl _) _ | exact ((Below.refl w.heap.size w).alloc (Nat.le_refl _) _).drew | exact ((Below.refl w.heap.size w).alloc (Nat.le_refl _) _).drew.drew | exact ((Below.refl w.heap.size w).alloc (Nat.le_refl _) _).trans ⟨rfl, rfl, rfl, Nat.le_refl _, fun _ _ => rfl⟩⟩
  by_cases h23 : op = 23 ∨ op = 24
  · have HR := hid (show riseP ⟨op, ia, ib, n⟩ = 0 ∧ needsP ⟨op, ia, ib, n⟩ = n + 1 by unfold riseP needsP; rcases h23 with h | h <;> simp [h])
    have hnn := HN.out (by rcases h23 with h | h <;> simp [h])
    simp only at hnn
    rw [HR.out.1, HR.out.2]
    rcases h23 with h | h
    all_goals
      go_enter Tryz.func79, Tryz.ntmps79
      go_wp2_with fail
      go_quiet (fail)
      go_wp2_with fail
      go_ret2
      exact ⟨rfl, by first | exact HB1.out | exact HB1.out.drew | exact (Below.refl w.heap.size w).alloc (Nat.le_refl _) _ | exact ((Below.refl w.heap.size w).alloc (Nat.le_refl _) _).drew | exact ((Below.refl w.heap.size w).alloc (Nat.le_refl _) _).drew.drew | exact ((Below.refl w.heap.size w).alloc (Nat.le_refl _) _).trans ⟨rfl, rfl, rfl, Nat.le_refl _, fun _ _ => rfl⟩⟩
  by_cases h25 : op = 25
  · have HR := hid (show riseP ⟨op, ia, ib, n⟩ = n ∧ needsP ⟨op, ia, ib, n⟩ = 0 by unfold riseP needsP; simp [h25])
    rw [HR.out.1, HR.out.2]
    go_enter Tryz.func79, Tryz.ntmps79
    go_wp2_with fail
    go_ret2
    exact ⟨rfl, by first | exact HB1.out | exact HB1.out.drew | exact (Below.refl w.heap.size w).alloc (Nat.le_refl _) _ | exact ((Below.refl w.heap.size w).alloc (Nat.le_refl _) _).drew | exact ((Below.refl w.heap.size w).alloc (Nat.le_refl _) _).drew.drew | exact ((Below.refl w.heap.size w).alloc (Nat.le_refl _) _).trans ⟨rfl, rfl, rfl, Nat.le_refl _, fun _ _ => rfl⟩⟩
  by_cases h26 : op = 26
  · have HR := hid (show riseP ⟨op, ia, ib, n⟩ = -n ∧ needsP ⟨op, ia, ib, n⟩ = n by unfold riseP needsP; simp [h26])
    have hnn := HN.out (by simp [h26])
    simp only at hnn
    rw [HR.out.1, HR.out.2]
    go_enter Tryz.func79, Tryz.ntmps79
    go_wp2_with fail
    go_quiet (fail)
    go_wp2_with fail
    go_ret2
    exact ⟨rfl, by first | exact HB1.out | exact HB1.out.drew | exact (Below.refl w.heap.size w).alloc (Nat.le_refl _) _ | exact ((Below.refl w.heap.size w).alloc (Nat.le_refl _) _).drew | exact ((Below.refl w.heap.size w).alloc (Nat.le_refl _) _).drew.drew | exact ((Below.refl w.heap.size w).alloc (Nat.le_refl _) _).trans ⟨rfl, rfl, rfl, Nat.le_refl _, fun _ _ => rfl⟩⟩
  · have HR := hid (show riseP ⟨op, ia, ib, n⟩ = 0 ∧ needsP ⟨op, ia, ib, n⟩ = 0 by unfold riseP needsP; simp [h3, h4, h25, h26]; omega)
    rw [HR.out.1, HR.out.2]
    have h23a : op ≠ 23 := fun h => h23 (.inl h)
    have h24a : op ≠ 24 := fun h => h23 (.inr h)
    go_enter Tryz.func79, Tryz.ntmps79
    go_wp2_with fail
    go_ret2
    exact ⟨rfl, by first | exact HB1.out | exact HB1.out.drew | exact (Below.refl w.heap.size w).alloc (Nat.le_refl _) _ | exact ((Below.refl w.heap.size w).alloc (Nat.le_refl _) _).drew | exact ((Below.refl w.heap.size w).alloc (Nat.le_refl _) _).drew.drew | exact ((Below.refl w.heap.size w).alloc (Nat.le_refl _) _).trans ⟨rfl, rfl, rfl, Nat.le_refl _, fun _ _ => rfl⟩⟩
end Go.Proofs.YtihhpgklpichgaaGreat.Wk
namespace Go.Proofs.YtihhpgklpichgaaGreat.Wk
open Go.RowKit Pl Ft Mm In C2 Im Sw Gp

noncomputable def heightsO (code : List Int) (a : Nat) : Option (List Int) := if pdec (okH code a) = true then some ((reachL code [(a : Int)] false).map fun x => hgt code a x.toNat) else none
theorem heightsO_no {code : List Int} {a : Nat} (h : ¬ okH code a) : heightsO code a = none := by unfold heightsO; rw [pdec_no h]; rfl
theorem heightsO_yes {code : List Int} {a : Nat} (h : okH code a) : heightsO code a = some ((reachL code [(a : Int)] false).map fun x => hgt code a x.toNat) := by unfold heightsO; rw [pdec_yes h]; rfl
structure ShRel (code : List Int) (a g : Nat) (w4 : World) (line : List Nat) (k : Nat) (f : Nat → Int) (v : Value) (wr : World) : Prop where
  inv : BHt code a line k f
  own : wr.ownsRow w4.heap.size 3 1 v line.length (ints (natI line))
  at_ : NAt wr g code.length f
  only : Only (fun b => b = g) w4 wr
  le : k ≤ line.length
  bd : ∀ q, q < code.length → -1 ≤ f q ∧ f q ≤ 40
theorem natI_get2 (l : List Nat) (k : Nat) (h : k < l.length) : (ints (natI l))[k]? = some (.int .i64 (l[k] : Nat)) := by
  rw [ints, List.getElem?_map, natI, List.getElem?_map, List.getElem?_eq_getElem h]
  rfl
theorem frame_n {i : IIns} (h : validIns i = true) (ho : i.op = 23 ∨ i.op = 24 ∨ i.op = 25 ∨ i.op = 26) : 0 ≤ i.n ∧ i.n ≤ 255 := by
  obtain ⟨op, a, b, n⟩ := i
  simp only at ho ⊢
  have key : ∀ k : Nat, (stab.getD k .none).low = 0 → (stab.getD k .none).high = 255 → op = k → 0 ≤ n ∧ n ≤ 255 := by
    intro k e2 e3 hk
    subst hk
    have hv : validAt (stab.getD k .none) ⟨(k : Int), a, b, n⟩ = true := by
      unfold validIns at h
      rw [Bool.and_eq_true] at h
      simpa using h.2
    unfold validAt at hv
    rw [e2, e3] at hv
    simp [inRange] at hv
    omega
  rcases ho with h1 | h1 | h1 | h1
  · exact key 23 rfl rfl h1
  · exact key 24 rfl rfl h1
  · exact key 25 rfl rfl h1
  · exact key 26 rfl rfl h1
theorem rise_bd {i : IIns} (h : validIns i = true) : -255 ≤ riseP i ∧ riseP i ≤ 255 ∧ 0 ≤ needsP i ∧ needsP i ≤ 256 := by
  have hn := frame_n h
  unfold riseP needsP
  by_cases h3 : i.op = 3
  · simp [h3]
  by_cases h4 : i.op = 4
  · simp [h4]
  by_cases h23 : i.op = 23 ∨ i.op = 24
  · have := hn (by omega)
    rw [if_neg h3, if_neg h4, if_neg (by omega), if_neg (by omega), if_neg h4, if_pos h23]
    omega
  by_cases h25 : i.op = 25
  · have := hn (by omega)
    rw [if_neg h3, if_neg h4, if_pos h25, if_neg h4, if_neg h23, if_neg (by omega)]
    omega
  by_cases h26 : i.op = 26
  · have := hn (by omega)
    rw [if_neg h3, if_neg h4, if_neg h25, if_pos h26, if_neg h4, if_neg h23, if_pos h26]
    omega
  · rw [if_neg h3, if_neg h4, if_neg h25, if_neg h26, if_neg h4, if_neg h23, if_neg h26]
    omega
structure ShIn (code : List Int) (a g : Nat) (w4 : World) (line0 : List Nat) (k p : Nat) (i : IIns) (f0 : Nat → Int) (v6 : Value) (t : Nat) (line : List Nat) (f : Nat → Int) (v : Value) (wr : World) : Prop where
  inv : BHn code a line0 k p i f0 t line f
  own : wr.ownsRow w4.heap.size 3 1 v line.length (ints (natI line))
  at_ : NAt wr g code.length f
  own6 : wr.ownsRow w4.heap.size 3 1 v6 (Gm code false p).length (ints (Gm code false p))
  ne : ∀ b, v.ownBlock = some b → ¬ v6.ownBlock = some b
  only : Only (fun b => b = g) w4 wr
  le : t ≤ (Gm code false p).length
  bd : ∀ q, q < code.length → -1 ≤ f q ∧ f q ≤ 40
end Go.Proofs.YtihhpgklpichgaaGreat.Wk
/- Heights of the program: highBehind, exit, ways of any exit, the closure of heights. -/
namespace Go.Proofs.YtihhpgklpichgaaGreat.Wk
open Go.RowKit Pl Ft Mm In C2 Im Sw Gp

def HbPost (i : IIns) (h : Int) (w : World) (e : Ending) (w' : World) : Prop := e = .returned (.tuple #[.int .i64 (h + riseP i), .bool (mayP i h)]) ∧ Below w.heap.size w w'
theorem mayP_2 {i : IIns} (h : i.op ≠ 1) (x : Int) : mayP i x = (decide (needsP i ≤ x) && decide (x + riseP i ≤ 40)) := by unfold mayP; simp [h]
set_option maxHeartbeats 2000000 in
theorem highBehind_c (i : IIns) (h : Int) (hb : -1000000000 ≤ h ∧ h ≤ 1000000000) (hn : (i.op = 23 ∨ i.op = 24 ∨ i.op = 25 ∨ i.op = 26) → 0 ≤ i.n ∧ i.n ≤ 255) (w : World) : Calls Tryz.prog 118 #[i.val, .int .i64 h] w (HbPost i h w) := by
  obtain ⟨op, ia, ib, n⟩ := i
  have HN := hid hn
  clear hn
  obtain ⟨hb1, hb2⟩ := hb
  obtain ⟨w1, hw1, hr1, hbb, hz1⟩ := new_ex w 70 #[.int .i64 op, .int .i64 ia, .int .i64 ib, .int .i64 n]
  have HR1 := hid hr1
  have HB1 := hid hbb
  have x0 := hr1.cell 0
  have x3 := hr1.cell 3
  simp at x0 x3
  clear hr1 hbb
  unfold IIns.val
  simp only
  unfold HbPost
  by_cases h1 : op = 1
  · subst h1
    have HR := hid (show riseP ⟨1, ia, ib, n⟩ = 0 ∧ mayP ⟨1, ia, ib, n⟩ h = decide (h = 0) by
      constructor
      · rfl
      · unfold mayP needsP riseP
        by_cases h0 : h = 0
        · subst h0; simp
        · simp [h0])
    rw [HR.out.1, HR.out.2, Int.add_zero]
    by_cases h0 : h = 0
    · subst h0
      go_enter Tryz.func118, Tryz.ntmps118
      go_wp2_with fail
      go_ret2
      exact ⟨rfl, by first | exact HB1.out | exact HB1.out.drew | exact (Below.refl _ _).alloc (Nat.le_refl _) _ | exact ((Below.refl w.heap.size w).alloc (Nat.le_refl _) _).drew | exact ((Below.refl w.heap.size w).alloc (Nat.le_refl _) _).trans ⟨rfl, rfl, rfl, Nat.le_refl _, fun _ _ => rfl⟩⟩
    · have hne : (h == 0) = false := by simpa using h0
      rw [decide_eq_false h0]
      go_enter Tryz.func118, Tryz.ntmps118
      go_wp2_with fail
      go_ret2
      exact ⟨rfl, by first | exact HB1.out | exact HB1.out.drew | exact (Below.refl _ _).alloc (Nat.le_refl _) _ | exact ((Below.refl w.heap.size w).alloc (Nat.le_refl _) _).drew | exact ((Below.refl w.heap.size w).alloc (Nat.le_refl _) _).trans ⟨rfl, rfl, rfl, Nat.le_refl _, fun _ _ => rfl⟩⟩
  have HM := hid (mayP_2 (i := ⟨op, ia, ib, n⟩) h1 h)
  rw [HM.out]
  by_cases h3 : op = 3
  · have HR := hid (show riseP ⟨op, ia, ib, n⟩ = 1 ∧ needsP ⟨op, ia, ib, n⟩ = 0 by unfold riseP needsP; simp [h3])
    rw [HR.out.1, HR.out.2]
    by_cases hx : 0 ≤ h
    · rw [decide_eq_true hx, Bool.true_and]
      go_enter Tryz.func118, Tryz.ntmps118
      go_wp2_with fail
      go_ret2
      exact ⟨rfl, by first | exact HB1.out | exact HB1.out.drew | exact (Below.refl _ _).alloc (Nat.le_refl _) _ | exact ((Below.refl w.heap.size w).alloc (Nat.le_refl _) _).drew | exact ((Below.refl w.heap.size w).alloc (Nat.le_refl _) _).trans ⟨rfl, rfl, rfl, Nat.le_refl _, fun _ _ => rfl⟩⟩
    · rw [decide_eq_false hx, Bool.false_and]
      go_enter Tryz.func118, Tryz.ntmps118
      go_wp2_with fail
      go_ret2
      exact ⟨rfl, by first | exact HB1.out | exact HB1.out.drew | exact (Below.refl _ _).alloc (Nat.le_refl _) _ | exact ((Below.refl w.heap.size w).alloc (Nat.le_refl _) _).drew | exact ((Below.refl w.heap.size w).alloc (Nat.le_refl _) _).trans ⟨rfl, rfl, rfl, Nat.le_refl _, fun _ _ => rfl⟩⟩
  by_cases h4 : op = 4
  · have HR := hid (show riseP ⟨op, ia, ib, n⟩ = -1 ∧ needsP ⟨op, ia, ib, n⟩ = 1 by unfold riseP needsP; simp [h4])
    rw [HR.out.1, HR.out.2]
    by_cases hx : 1 ≤ h
    · rw [decide_eq_true hx, Bool.true_and]
      go_enter Tryz.func118, Tryz.ntmps118
      go_wp2_with fail
      go_ret2
      exact ⟨rfl, by first | exact HB1.out | exact HB1.out.drew | exact (Below.refl _ _).alloc (Nat.le_refl _) _ | exact ((Below.refl w.heap.size w).alloc (Nat.le_refl _) _).drew | exact ((Below.refl w.heap.size w).alloc (Nat.le_refl _) _).trans ⟨rfl, rfl, rfl, Nat.le_refl _, fun _ _ => rfl⟩⟩
    · rw [decide_eq_false hx, Bool.false_and]
      go_enter Tryz.func118, Tryz.ntmps118
      go_wp2_with fail
      go_ret2
      exact ⟨rfl, by first | exact HB1.out | exact HB1.out.drew | exact (Below.refl _ _).alloc (Nat.le_refl _) _ | exact ((Below.refl w.heap.size w).alloc (Nat.le_refl _) _).drew | exact ((Below.refl w.heap.size w).alloc (Nat.le_refl _) _).trans ⟨rfl, rfl, rfl, Nat.le_refl _, fun _ _ => rfl⟩⟩
  by_cases h23 : op = 23 ∨ op = 24
  · have HR := hid (show riseP ⟨op, ia, ib, n⟩ = 0 ∧ needsP ⟨op, ia, ib, n⟩ = n + 1 by unfold riseP needsP; rcases h23 with h | h <;> simp [h])
    have hnn := HN.out (by rcases h23 with h | h <;> simp [h])
    simp only at hnn
    rw [HR.out.1, HR.out.2, Int.add_zero]
    have hcase : op = 23 ∨ (op ≠ 23 ∧ op = 24) := by omega
    clear h23
    rcases hcase with h23 | ⟨h23, h24⟩
    all_goals
      by_cases hx : n + 1 ≤ h
      · rw [decide_eq_true hx, Bool.true_and]
        go_enter Tryz.func118, Tryz.ntmps118
        go_wp2_with fail
        go_ret2
        exact ⟨rfl, by first | exact HB1.out | exact HB1.out.drew | exact (Below.refl _ _).alloc (Nat.le_refl _) _ | exact ((Below.refl w.heap.size w).alloc (Nat.le_refl _) _).drew | exact ((Below.refl w.heap.size w).alloc (Nat.le_refl _) _).trans ⟨rfl, rfl, rfl, Nat.le_refl _, fun _ _ => rfl⟩⟩
      · rw [decide_eq_false hx, Bool.false_and]
        go_enter Tryz.func118, Tryz.ntmps118
        go_wp2_with fail
        go_ret2
        exact ⟨rfl, by first | exact HB1.out | exact HB1.out.drew | exact (Below.refl _ _).alloc (Nat.le_refl _) _ | exact ((Below.refl w.heap.size w).alloc (Nat.le_refl _) _).drew | exact ((Below.refl w.heap.size w).alloc (Nat.le_refl _) _).trans ⟨rfl, rfl, rfl, Nat.le_refl _, fun _ _ => rfl⟩⟩
  have h23a : op ≠ 23 := fun h => h23 (.inl h)
  have h24a : op ≠ 24 := fun h => h23 (.inr h)
  by_cases h25 : op = 25
  · have HR := hid (show riseP ⟨op, ia, ib, n⟩ = n ∧ needsP ⟨op, ia, ib, n⟩ = 0 by unfold riseP needsP; simp [h25])
    have hnn := HN.out (by simp [h25])
    simp only at hnn
    rw [HR.out.1, HR.out.2]
    by_cases hx : 0 ≤ h
    · rw [decide_eq_true hx, Bool.true_and]
      go_enter Tryz.func118, Tryz.ntmps118
      go_wp2_with fail
      go_ret2
      exact ⟨rfl, by first | exact HB1.out | exact HB1.out.drew | exact (Below.refl _ _).alloc (Nat.le_refl _) _ | exact ((Below.refl w.heap.size w).alloc (Nat.le_refl _) _).drew | exact ((Below.refl w.heap.size w).alloc (Nat.le_refl _) _).trans ⟨rfl, rfl, rfl, Nat.le_refl _, fun _ _ => rfl⟩⟩
    · rw [decide_eq_false hx, Bool.false_and]
      go_enter Tryz.func118, Tryz.ntmps118
      go_wp2_with fail
      go_ret2
      exact ⟨rfl, by first | exact HB1.out | exact HB1.out.drew | exact (Below.refl _ _).alloc (Nat.le_refl _) _ | exact ((Below.refl w.heap.size w).alloc (Nat.le_refl _) _).drew | exact ((Below.refl w.heap.size w).alloc (Nat.le_refl _) _).trans ⟨rfl, rfl, rfl, Nat.le_refl _, fun _ _ => rfl⟩⟩
  by_cases h26 : op = 26
  · have HR := hid (show riseP ⟨op, ia, ib, n⟩ = -n ∧ needsP ⟨op, ia, ib, n⟩ = n by unfold riseP needsP; simp [h26])
    have hnn := HN.out (by simp [h26])
    simp only at hnn
    rw [HR.out.1, HR.out.2, show h + -n = h - n by omega]
    by_cases hx : n ≤ h
    · rw [decide_eq_true hx, Bool.true_and]
      go_enter Tryz.func118, Tryz.ntmps118
      go_wp2_with fail
      go_quiet (fail)
      go_wp2_with fail
      go_ret2
      exact ⟨rfl, by first | exact HB1.out | exact HB1.out.drew | exact (Below.refl _ _).alloc (Nat.le_refl _) _ | exact ((Below.refl w.heap.size w).alloc (Nat.le_refl _) _).drew | exact ((Below.refl w.heap.size w).alloc (Nat.le_refl _) _).trans ⟨rfl, rfl, rfl, Nat.le_refl _, fun _ _ => rfl⟩⟩
    · rw [decide_eq_false hx, Bool.false_and]
      go_enter Tryz.func118, Tryz.ntmps118
      go_wp2_with fail
      go_quiet (fail)
      go_wp2_with fail
      go_ret2
      exact ⟨rfl, by first | exact HB1.out | exact HB1.out.drew | exact (Below.refl _ _).alloc (Nat.le_refl _) _ | exact ((Below.refl w.heap.size w).alloc (Nat.le_refl _) _).drew | exact ((Below.refl w.heap.size w).alloc (Nat.le_refl _) _).trans ⟨rfl, rfl, rfl, Nat.le_refl _, fun _ _ => rfl⟩⟩
  · have HR := hid (show riseP ⟨op, ia, ib, n⟩ = 0 ∧ needsP ⟨op, ia, ib, n⟩ = 0 by unfold riseP needsP; simp [h3, h4, h25, h26, h23a, h24a])
    rw [HR.out.1, HR.out.2, Int.add_zero]
    by_cases hx : 0 ≤ h
    · rw [decide_eq_true hx, Bool.true_and]
      go_enter Tryz.func118, Tryz.ntmps118
      go_wp2_with fail
      go_ret2
      exact ⟨rfl, by first | exact HB1.out | exact HB1.out.drew | exact (Below.refl _ _).alloc (Nat.le_refl _) _ | exact ((Below.refl w.heap.size w).alloc (Nat.le_refl _) _).drew | exact ((Below.refl w.heap.size w).alloc (Nat.le_refl _) _).trans ⟨rfl, rfl, rfl, Nat.le_refl _, fun _ _ => rfl⟩⟩
    · rw [decide_eq_false hx, Bool.false_and]
      go_enter Tryz.func118, Tryz.ntmps118
      go_wp2_with fail
      go_ret2
      exact ⟨rfl, by first | exact HB1.out | exact HB1.out.drew | exact (Below.refl _ _).alloc (Nat.le_refl _) _ | exact ((Below.refl w.heap.size w).alloc (Nat.le_refl _) _).drew | exact ((Below.refl w.heap.size w).alloc (Nat.le_refl _) _).trans ⟨rfl, rfl, rfl, Nat.le_refl _, fun _ _ => rfl⟩⟩
theorem ways_any (code : List Int) (i : IIns) (x : Int) (tv : Value) (hv : validIns i = true) :
    ∃ (F : Nat) (recv : Value) (T : TypeId) (v : Value), exVal i x tv (tabP code i).isSome = .iface T v ∧ (∀ w : World, (method 342 T v "loop.example/liftedcode/impl.ways").run Tryz.prog w = .ok (F, recv) w) ∧ (∀ (xs : Array Value) (w : World), (callFunc F xs).run Tryz.prog w = .ok (.enter F xs) w) ∧
      ∀ (w : World) (B : Nat), (i.op = 30 → w.ownsRow B 3 1 tv ((tabP code i).getD []).length (ints ((tabP code i).getD []))) → Calls Tryz.prog F #[recv] w (WaysPost2 (nextsP code i x) w) := by
  unfold exVal nextsP
  by_cases h0 : i.op = 0 ∨ i.op = 1
  · rw [if_pos h0, if_pos h0]
    exact ⟨_, _, _, _, rfl, mt_stop, fun xs w => by kernel_rfl, fun w B _ => stopWays_c w⟩
  rw [if_neg h0, if_neg h0]
  by_cases h27 : i.op = 27
  · rw [if_pos h27, if_pos h27]
    exact ⟨_, _, _, _, rfl, mt_jump i.n, fun xs w => by kernel_rfl, fun w B _ => jumpWays_c i.n w⟩
  rw [if_neg h27, if_neg h27]
  by_cases h28 : i.op = 28
  · rw [if_pos h28, if_pos h28]
    exact ⟨_, _, _, _, rfl, mt_if i.n x, fun xs w => by kernel_rfl, fun w B _ => ifWays_c i.n x w⟩
  rw [if_neg h28, if_neg h28]
  by_cases h29 : i.op = 29
  · rw [if_pos h29, if_neg (by omega)]
    exact ⟨_, _, _, _, rfl, mt_call x i.n, fun xs w => by kernel_rfl, fun w B _ => nextWays_c x w⟩
  rw [if_neg h29]
  by_cases h30 : i.op = 30
  · rw [if_pos h30, if_pos h30]
    exact ⟨_, _, _, _, rfl, mt_table tv _ x, fun xs w => by kernel_rfl, fun w B ho => tableWays_c _ B tv _ x w (ho h30) (by have := tab_len (code := code) (valid_b hv h30); omega)⟩
  · rw [if_neg h30, if_neg h30]
    exact ⟨_, _, _, _, rfl, mt_next x, fun xs w => by kernel_rfl, fun w B _ => nextWays_c x w⟩
set_option maxRecDepth 100000 in
set_option maxHeartbeats 2000000 in
theorem exit_c (code : List Int) (ac : Option Addr) (cc : Nat) (lb : Value) (gw gm : Nat) (ms0 : List Nat) (at_ : Int) (sv : Option Addr) (nv cv : Nat) (p : Nat) (i : IIns) (w : World) (hr : Rd w (.slice ac code.length cc) code) (hcap : code.length ≤ cc) (hby : code.all isByte = true) (hlen : code.length ≤ 2000)
    (hw : Row w gw 88 #[.slice ac code.length cc, .map (some gm), lb]) (hm : MapAt w gm code ms0) (hp : p ∈ ms0) (hi : readP code p = some i) :
    Calls Tryz.prog 116 #[.agg #[.pointer (some ⟨gw, 0, none⟩), .int .i64 at_, .slice sv nv cv], .int .i64 p] w (ExPost code i (p + slong i) w) := by
  have HRd := hid hr
  have HBy := hid hby
  have hf := readP_facts hi
  have HV := hid hf.2.1
  obtain ⟨w1, hw1, hr1, hb1, hz1⟩ := new_ex w 77 #[.pointer (some ⟨gw, 0, none⟩), .int .i64 at_, .slice sv nv cv]
  have HB1 := hid hb1
  have HM1 := hid (hm.on hb1)
  have HW1 := hid (hw.on hb1)
  have hrdo : rdOf code p = rdArr i (p + slong i) := by unfold rdOf nextP; rw [hi]; rfl
  have hlk := look1_yes (w := w1.drew) (show MapAt w1.drew gm code ms0 from HM1.out) hp
  rw [hrdo] at hlk
  obtain ⟨x, hx⟩ : ∃ x, (p : Int) + slong i = x := ⟨_, rfl⟩
  rw [hx] at hlk ⊢
  have x0 := hr1.cell 0
  have y0 := HW1.out.cell 0
  have y1 := HW1.out.cell 1
  simp at x0 y0 y1
  clear hr hby hf hw hm hrdo hx hr1 hb1 hi hp
  go_enter Tryz.func116, Tryz.ntmps116
  go_upto_region 1 with fail
  try rw [hw1]
  clear hw1
  go_region_law (first
    | (go_simp; go_at_call 100; refine (exitOf_c code _ i x w1.drew ((HRd.out.on HB1.out).on ((Below.refl _ _).drew)) (fun a k c h => by cases h; exact hcap) HBy.out hlen HV.out).mono ?_; rintro e w2 ⟨tv, rfl, hown2, hb2⟩; have HO2 := hid hown2; have HB2 := hid hb2; clear hown2 hb2))
  all_goals
    go_wp2_with fail
    go_ret
    have hb := ((Below.refl w1.heap.size w1).drew).trans HB2.out
    exact ⟨tv, rfl, fun h => own_mono (HO2.out h) (by have := HB1.out.size; simp only [World.drew]; omega), HB1.out.trans (hb.mono HB1.out.size)⟩
end Go.Proofs.YtihhpgklpichgaaGreat.Wk
/- Where blocks begin, for the program: nextAlone, begins. -/
namespace Go.Proofs.YtihhpgklpichgaaGreat.Wk
open Go.RowKit Pl Ft Mm In C2 Im Sw Gp

theorem tn_stop (w : World) : (Instr.typeAssert (.iface 141 (.agg #[])) 118 147 true).run Tryz.prog w = .ok (.tuple #[.agg #[.int .i64 0], .bool false]) w := by kernel_rfl
theorem tn_next (x : Int) (w : World) : (Instr.typeAssert (.iface 147 (.agg #[.int .i64 x])) 118 147 true).run Tryz.prog w = .ok (.tuple #[.agg #[.int .i64 x], .bool true]) w := by kernel_rfl
theorem tn_jump (x : Int) (w : World) : (Instr.typeAssert (.iface 143 (.agg #[.int .i64 x])) 118 147 true).run Tryz.prog w = .ok (.tuple #[.agg #[.int .i64 0], .bool false]) w := by kernel_rfl
theorem tn_if (x y : Int) (w : World) : (Instr.typeAssert (.iface 145 (.agg #[.int .i64 x, .int .i64 y])) 118 147 true).run Tryz.prog w = .ok (.tuple #[.agg #[.int .i64 0], .bool false]) w := by kernel_rfl
theorem tn_call (x y : Int) (w : World) : (Instr.typeAssert (.iface 149 (.agg #[.int .i64 x, .int .i64 y])) 118 147 true).run Tryz.prog w = .ok (.tuple #[.agg #[.int .i64 0], .bool false]) w := by kernel_rfl
theorem tn_table (v : Value) (b : Bool) (x : Int) (w : World) : (Instr.typeAssert (.iface 151 (.agg #[v, .bool b, .int .i64 x])) 118 147 true).run Tryz.prog w = .ok (.tuple #[.agg #[.int .i64 0], .bool false]) w := by kernel_rfl
def NaPost (i : IIns) (x : Int) (w : World) (e : Ending) (w' : World) : Prop := e = .returned (.tuple #[.int .i64 (if aloneI i = true then x else 0), .bool (aloneI i)]) ∧ Below w.heap.size w w'
set_option maxHeartbeats 1000000 in
theorem nextAlone_c (i : IIns) (x : Int) (tv : Value) (wh : Bool) (w : World) : Calls Tryz.prog 141 #[exVal i x tv wh] w (NaPost i x w) := by
  have HB := hid (Below.refl w.heap.size w)
  unfold exVal NaPost
  by_cases h0 : i.op = 0 ∨ i.op = 1
  · rw [if_pos h0, show aloneI i = false by simp only [aloneI, Bool.not_eq_false', decide_eq_true_eq]; omega]
    have t1 := tn_stop
    have t2 := ta_stop_call
    clear h0
    go_enter Tryz.func141, Tryz.ntmps141
    go_wp2_with fail
    go_ret2
    exact ⟨rfl, HB.out⟩
  rw [if_neg h0]
  by_cases h27 : i.op = 27
  · rw [if_pos h27, show aloneI i = false by simp only [aloneI, Bool.not_eq_false', decide_eq_true_eq]; omega]
    have t1 := tn_jump i.n
    have t2 := ta_jump_call i.n
    clear h0 h27
    go_enter Tryz.func141, Tryz.ntmps141
    go_wp2_with fail
    go_ret2
    exact ⟨rfl, HB.out⟩
  rw [if_neg h27]
  by_cases h28 : i.op = 28
  · rw [if_pos h28, show aloneI i = false by simp only [aloneI, Bool.not_eq_false', decide_eq_true_eq]; omega]
    have t1 := tn_if i.n x
    have t2 := ta_if_call i.n x
    clear h0 h27 h28
    go_enter Tryz.func141, Tryz.ntmps141
    go_wp2_with fail
    go_ret2
    exact ⟨rfl, HB.out⟩
  rw [if_neg h28]
  by_cases h29 : i.op = 29
  · rw [if_pos h29, show aloneI i = true by simp only [aloneI, Bool.not_eq_true', decide_eq_false_iff_not]; omega]
    have t1 := tn_call x i.n
    have t2 := ta_call_call x i.n
    clear h0 h27 h28 h29
    go_enter Tryz.func141, Tryz.ntmps141
    go_wp2_with fail
    go_ret2
    exact ⟨rfl, HB.out.alloc (Nat.le_refl _) _⟩
  rw [if_neg h29]
  by_cases h30 : i.op = 30
  · rw [if_pos h30, show aloneI i = false by simp only [aloneI, Bool.not_eq_false', decide_eq_true_eq]; omega]
    have t1 := tn_table tv wh x
    have t2 := ta_table_call tv wh x
    clear h0 h27 h28 h29 h30
    go_enter Tryz.func141, Tryz.ntmps141
    go_wp2_with fail
    go_ret2
    exact ⟨rfl, HB.out⟩
  · rw [if_neg h30, show aloneI i = true by simp only [aloneI, Bool.not_eq_true', decide_eq_false_iff_not]; omega]
    have t1 := tn_next x
    clear h0 h27 h28 h29 h30
    go_enter Tryz.func141, Tryz.ntmps141
    go_wp2_with fail
    go_ret2
    exact ⟨rfl, HB.out.alloc (Nat.le_refl _) _⟩
end Go.Proofs.YtihhpgklpichgaaGreat.Wk
/- Heights of the program: the closure of heights. -/
namespace Go.Proofs.YtihhpgklpichgaaGreat.Wk
open Go.RowKit Pl Ft Mm In C2 Im Sw Gp

theorem fold_mem (b : Int) : ∀ (qs : List Nat) (s : Bool × List (Nat × Int)) (e : Nat × Int), e ∈ (qs.foldl (stepE b) s).2 → e ∈ s.2 ∨ e.2 = b
  | [], s, e, h => .inl h
  | q :: qs, s, e, h => by
    rcases fold_mem b qs _ e h with h1 | h1
    · rcases mem_put (show e ∈ putE s.2 q b from h1) with h2 | h2
      · exact .inl h2
      · exact .inr (by rw [h2])
    · exact .inr h1
/-- No height is greater than this. -/
def BdE (n : Nat) (es : List (Nat × Int)) : Prop := ∀ e ∈ es, -(300 * (n : Int)) ≤ e.2 ∧ e.2 ≤ 300 * n
theorem BdE.look {n : Nat} {es : List (Nat × Int)} (h : BdE n es) (p : Nat) : -(300 * (n : Int)) ≤ (lookE es p).getD 0 ∧ (lookE es p).getD 0 ≤ 300 * n := by
  cases hl : lookE es p with
  | none => simp only [Option.getD_none]; omega
  | some x => exact h _ (look_mem hl)
theorem BdE.fold {n : Nat} {es : List (Nat × Int)} (h : BdE n es) {b : Int} (hb : -(300 * ((n : Int) + 1)) ≤ b ∧ b ≤ 300 * ((n : Int) + 1)) (qs : List Nat) (c : Bool) : BdE (n + 1) (qs.foldl (stepE b) (c, es)).2 := fun e he => by
  rcases fold_mem b qs _ e he with h1 | h1
  · have := h e h1
    omega
  · omega
theorem fld_ins (op ia ib n x : Int) (w : World) : (Instr.field 112 (.agg #[.int .i64 op, .int .i64 ia, .int .i64 ib, .int .i64 n, .int .i64 x]) 0).run Tryz.prog w = .ok (.agg #[.int .i64 op, .int .i64 ia, .int .i64 ib, .int .i64 n]) w := by kernel_rfl
/-- What the closure stands on: the boxes of the map, of the truth; the map. -/
structure HtSt (code : List Int) (a gah gao gok : Nat) (wS : World) (ms : List Nat) (T : Nat → Prop) (w : World) : Prop where
  T : T = fun k => k < wS.heap.size
  ah : EAt w gah encI (heldE code a ms).2
  ok : Row w gok 4 #[.bool (heldE code a ms).1]
  only : Only (fun k => k = gah ∨ k = gok) wS w
  bd : BdE (ms.length + 1) (heldE code a ms).2
structure HfRel (gah gok : Nat) (b : Int) (s0 : Bool × List (Nat × Int)) (qs : List Nat) (w8 : World) (k : Nat) (wr : World) : Prop where
  ah : EAt wr gah encI ((qs.take k).foldl (stepE b) s0).2
  ok : Row wr gok 4 #[.bool ((qs.take k).foldl (stepE b) s0).1]
  only : Only (fun k => k = gah ∨ k = gok) w8 wr
theorem foldl_take_succ {α β : Type} (f : β → α → β) (s : β) (l : List α) (k : Nat) (h : k < l.length) : (l.take (k + 1)).foldl f s = f ((l.take k).foldl f s) l[k] := by
  rw [List.take_succ_eq_append_getElem h, List.foldl_append]
  rfl
def HfPost (code : List Int) (a gah gao gok : Nat) (wS : World) (ms : List Nat) (T : Nat → Prop) (p : Nat) (w : World) (e : Ending) (w' : World) : Prop :=
  ∃ v, e = .returned v ∧ Rd w' v (Gm code false p) ∧ (∀ k, v.ownBlock = some k → w.heap.size ≤ k) ∧ HtSt code a gah gao gok wS (ms ++ [p]) T w' ∧ Only (fun k => k = gah ∨ k = gok) w w'
set_option maxRecDepth 100000 in
set_option maxHeartbeats 4000000 in
theorem heightsFn_c (code : List Int) (ac : Option Addr) (cc : Nat) (lb : Value) (gw gm gr gao gah gok : Nat) (at_ : Int) (sv : Option Addr) (nv cv : Nat) (ms0 : List Nat) (a : Nat) (w00 wS : World) (ms : List Nat) (T : Nat → Prop) (p : Nat) (i : IIns) (w : World)
    (hr : Rd w00 (.slice ac code.length cc) code) (hb00 : Below w00.heap.size w00 wS) (g1 : w00.heap.size ≤ gah) (g2 : w00.heap.size ≤ gok) (hcap : code.length ≤ cc) (hby : code.all isByte = true) (hlen : code.length ≤ 2000)
    (hw : Row wS gw 88 #[.slice ac code.length cc, .map (some gm), lb]) (hm : MapAt wS gm code ms0) (hrt : Row wS gr 77 #[.pointer (some ⟨gw, 0, none⟩), .int .i64 at_, .slice sv nv cv]) (hao : Row wS gao 130 #[.map (some gah)])
    (n1 : gw ≠ gah ∧ gw ≠ gok) (n2 : gm ≠ gah ∧ gm ≠ gok) (n3 : gr ≠ gah ∧ gr ≠ gok) (n4 : gao ≠ gah ∧ gao ≠ gok) (n5 : gah ≠ gok) (hs : HtSt code a gah gao gok wS ms T w) (hp : p ∈ ms0) (hi : readP code p = some i) (hnn : ∀ q ∈ Gm code false p, 0 ≤ q) (hml : ms.length ≤ 1000000) :
    Calls Tryz.prog 117 #[.int .i64 p, .pointer (some ⟨gr, 0, none⟩), .pointer (some ⟨gao, 0, none⟩), .pointer (some ⟨gok, 0, none⟩)] w (HfPost code a gah gao gok wS ms T p w) := by
  have HSt := hid hs
  have HBy := hid hby
  have hf := readP_facts hi
  have HV := hid hf.2.1
  have HI := hid hi
  have HNn := hid hnn
  have hno : ∀ k, k ≠ gah ∧ k ≠ gok → ¬ (k = gah ∨ k = gok) := fun k h h2 => h2.elim h.1 h.2
  have HRr := hid hr
  have HG12 := hid (And.intro g1 g2)
  have HBw := hid (hb00.trans (hs.only.below hb00.size (fun k hk => by rcases hk with rfl | rfl <;> assumption)))
  have HRd := hid (hr.on (hb00.trans (hs.only.below hb00.size (fun k hk => by rcases hk with rfl | rfl <;> assumption))))
  have HW := hid (row_only hw (hno _ n1) hs.only)
  have HM := hid (show MapAt w gm code ms0 from (hs.only.block gm hm.lt (hno _ n2)).trans hm)
  have HR := hid (row_only hrt (hno _ n3) hs.only)
  have HA := hid (row_only hao (hno _ n4) hs.only)
  have HN := hid (And.intro n1 (And.intro n2 (And.intro n3 (And.intro n4 n5))))
  have HPm := hid hp
  have hbl := hs.bd.look p
  have hvis : heldE code a (ms ++ [p]) = (toL (Gm code false) p).foldl (stepE ((lookE (heldE code a ms).2 p).getD 0 + riseP i)) ((heldE code a ms).1 && mayP i ((lookE (heldE code a ms).2 p).getD 0), (heldE code a ms).2) := by
    rw [heldE_push]
    unfold visitE
    rw [hi]
  have HVis := hid hvis
  have hah := hs.ah
  have hok := hs.ok
  have HRb := hid (rise_bd hf.2.1)
  obtain ⟨⟨b, es⟩, hse⟩ : ∃ s, heldE code a ms = s := ⟨_, rfl⟩
  have HSe := hid hse
  rw [hse] at hah hok hbl
  simp only at hah hok hbl
  have HAh := hid hah
  have HOk := hid hok
  obtain ⟨h0, hh0⟩ : ∃ h, (lookE es p).getD 0 = h := ⟨_, rfl⟩
  have HH0 := hid hh0
  rw [hh0] at hbl
  have hget := run_get_i (w := w.drew) (show EAt w.drew gah encI es from hah) p
  rw [hh0] at hget
  simp only [encI] at hget
  have hlk := look1_yes (w := w.drew) (show MapAt w.drew gm code ms0 from HM.out) hp
  rw [show rdOf code p = rdArr i (p + slong i) by unfold rdOf nextP; rw [hi]; rfl] at hlk
  obtain ⟨op, ia, ib, n⟩ := i
  obtain ⟨x, hx⟩ : ∃ x, (p : Int) + slong ⟨op, ia, ib, n⟩ = x := ⟨_, rfl⟩
  rw [hx] at hlk
  have HX := hid hx
  unfold rdArr at hlk
  simp only at hlk
  have hbl1 : -1000000000 ≤ h0 ∧ h0 ≤ 1000000000 := by omega
  have HBl1 := hid hbl1
  have HBl := hid hbl
  obtain ⟨bh, hbh⟩ : ∃ y, h0 + riseP ⟨op, ia, ib, n⟩ = y := ⟨_, rfl⟩
  obtain ⟨my, hmy⟩ : ∃ y, mayP ⟨op, ia, ib, n⟩ h0 = y := ⟨_, rfl⟩
  have HBh := hid hbh
  have HMy := hid hmy
  have x0 := HR.out.cell 0
  have y1 := HW.out.cell 1
  have a0 := HA.out.cell 0
  simp at x0 y1 a0
  clear hr hb00 hby hf hw hm hrt hao n1 n2 n3 n4 hs hp hi hnn hno hvis hse hah hok hh0 hx hbl hbl1 hbh hmy
  have hfl := fld_ins op ia ib n x
  go_enter Tryz.func117, Tryz.ntmps117
  go_upto_region 1 with fail
  go_cut [6, 7] (fun s6 s7 wx => s6 = .int .i64 bh ∧ s7 = .bool my ∧ Below w.heap.size w wx)
  case first =>
    go_region_law (first
      | (go_simp; go_at_call 118; refine (highBehind_c ⟨op, ia, ib, n⟩ h0 HBl1.out (frame_n HV.out) w.drew).mono ?_; rintro e w2 ⟨rfl, hb2⟩; rw [HBh.out, HMy.out]; have HB2 := hid (((Below.refl w.heap.size w).drew).trans hb2); clear hb2))
    all_goals
      go_wp2_with fail
      go_meet
      exact ⟨rfl, rfl, HB2.out⟩
  case rest =>
    obtain ⟨rfl, rfl, hb2⟩ := hcut
    generalize wc = w2 at hb2 ⊢
    have HB2 := hid hb2
    have HOk2 := hid (HOk.out.on hb2)
    have HR2 := hid (HR.out.on hb2)
    have HA2 := hid (HA.out.on hb2)
    have HW2 := hid (HW.out.on hb2)
    have HM2 := hid (HM.out.on hb2)
    have HAh2 := hid (HAh.out.on hb2)
    have HRd2 := hid (HRd.out.on hb2)
    clear hget hlk x0 y1 a0 hb2
    have o0 := HOk2.out.cell 0
    have of_ := HOk2.out.free
    simp at o0
    go_upto_region 2 with fail
    go_cut [] (fun wx => Row wx gok 4 #[.bool (b && my)] ∧ Only (fun k => k = gok) w2 wx)
    case first =>
      cases b
      · go_wp2_with fail
        go_meet
        exact ⟨HOk2.out.set 0 (.bool false), (Only.refl (fun k => k = gok) w2).setCell (g := gok) rfl 0 _⟩
      · go_wp2_with fail
        go_meet
        exact ⟨HOk2.out.set 0 (.bool my), (Only.refl (fun k => k = gok) w2).setCell (g := gok) rfl 0 _⟩
    case rest =>
      obtain ⟨hok3, ho3⟩ := hcut
      generalize wc = w3 at hok3 ho3 ⊢
      obtain ⟨c, hc⟩ : ∃ c, (b && my) = c := ⟨_, rfl⟩
      rw [hc] at hok3
      have HC := hid hc
      have HOk3 := hid hok3
      have HO3 := hid ho3
      have hk : ∀ k, k ≠ gah ∧ k ≠ gok → ¬ k = gok := fun k h => h.2
      have HR3 := hid (row_only HR2.out (hk _ HN.out.2.2.1) ho3)
      have HA3 := hid (row_only HA2.out (hk _ HN.out.2.2.2.1) ho3)
      have HW3 := hid (row_only HW2.out (hk _ HN.out.1) ho3)
      have HM3 := hid (show MapAt w3 gm code ms0 from (ho3.block gm HM2.out.lt (hk _ HN.out.2.1)).trans HM2.out)
      have HAh3 := hid (HAh2.out.only (HN.out.2.2.2.2) ho3)
      have HBw3 := hid ((HBw.out.trans (HB2.out.mono HBw.out.size)).trans (ho3.below (Nat.le_trans HBw.out.size HB2.out.size) (fun k hk => by rw [hk]; exact HG12.out.2)))
      have HRd3 := hid (HRr.out.on HBw3.out)
      have hz3 := ho3.size
      have r0 := HR3.out.cell 0
      have r1 := HR3.out.cell 1
      have r2 := HR3.out.cell 2
      simp at r0 r1 r2
      clear hok3 ho3 hk hc o0 of_
      go_upto_region 3 with fail
      go_cut [8] (fun s8 wx => ∃ s c8, s8 = .slice s (Gm code false p).length c8 ∧ wx.ownsRow w3.heap.size 3 1 s8 (Gm code false p).length (ints (Gm code false p)) ∧ Below w3.heap.size w3 wx)
      case first =>
        have HGm := hid (show nextsP code ⟨op, ia, ib, n⟩ x = Gm code false p from by rw [gm_off HI.out, HX.out])
        go_wp2_with fail
        refine (exit_c code ac cc lb gw gm ms0 at_ sv nv cv p ⟨op, ia, ib, n⟩ w3 HRd3.out hcap HBy.out hlen HW3.out HM3.out HPm.out HI.out).mono ?_
        rintro e w4 ⟨tv, rfl, hown4, hb4⟩
        obtain ⟨F, recv, T', v', he, hmt, hen, hcl⟩ := ways_any code ⟨op, ia, ib, n⟩ x tv HV.out
        rw [HX.out, he]
        have HO4 := hid hown4
        have HB4 := hid hb4
        have HCl := hid hcl
        clear hown4 hb4 hcl he r0 r1 r2
        go_wp2_with fail
        refine (HCl.out w4 _ HO4.out).mono ?_
        rintro e w5 ⟨v5, rfl, hown5, hb5⟩
        rw [HGm.out] at hown5
        have HO5 := hid hown5
        have HB5 := hid hb5
        obtain ⟨s5, c5, rfl⟩ := own_slice hown5
        clear hown5 hb5 hmt hen
        go_wp2_with fail
        go_meet
        exact ⟨_, _, rfl, own_mono HO5.out HB4.out.size, HB4.out.trans (HB5.out.mono HB4.out.size)⟩
      case rest =>
        obtain ⟨s8, c8, rfl, hown8, hb8⟩ := hcut
        generalize wc = w8 at hown8 hb8 ⊢
        obtain ⟨l, hl⟩ : ∃ l, Gm code false p = l := ⟨_, rfl⟩
        rw [hl] at hown8
        rw [hl]
        have HGl := hid hl
        have HO8 := hid hown8
        have HB8 := hid hb8
        have HA8 := hid (HA3.out.on hb8)
        have HAh8 := hid (HAh3.out.on hb8)
        have HOk8 := hid (HOk3.out.on hb8)
        have hz8 := hb8.size
        have hll : l.length ≤ 100 := by
          have := (gm_bd HBy.out hlen false (S := []) (fun q hq => by cases hq)).len p (by have := (readP_facts HI.out).1; omega)
          rw [hl] at this
          omega
        have HQ := hid (show ∀ k (h : k < l.length), ∃ q : Nat, l[k] = (q : Int) ∧ (toL (Gm code false) p)[k]? = some q from fun k h => by
          have h1 : l[k] ∈ Gm code false p := by rw [hl]; exact List.getElem_mem h
          have h2 := HNn.out _ h1
          refine ⟨l[k].toNat, by omega, ?_⟩
          unfold toL
          rw [hl, List.getElem?_map, List.getElem?_eq_getElem h]
          rfl)
        have HQl := hid (show (toL (Gm code false) p).length = l.length by unfold toL; rw [List.length_map, hl])
        clear hown8 hb8 hl r0 r1 r2
        go_wp2_with fail
        go_loopw [38] (fun y wr => ∃ k : Nat, y = .int .i64 k ∧ k ≤ l.length ∧ HfRel gah gok bh (c, es) (toL (Gm code false) p) w8 k wr) (fun y _ => l.length - (intOf y).toNat)
        case atStart => exact ⟨0, rfl, by omega, ⟨HAh8.out, HOk8.out, Only.refl _ _⟩⟩
        case round =>
          obtain ⟨k, rfl, hk, hrel⟩ := hrel
          have HR9 := hid hrel
          have hz9 := hrel.only.size
          have hno2 : ∀ b, (Value.slice s8 l.length c8).ownBlock = some b → ¬ (b = gah ∨ b = gok) := fun b hb h => by
            have h1 := (HO8.out.lt b hb).1
            have h2 := HAh3.out.lt
            have h3 := HOk3.out.lt
            rcases h with h | h <;> omega
          have HO9 := hid (own_only HO8.out hno2 hrel.only)
          clear hrel hno2
          by_cases hlt : k < l.length
          case neg =>
            obtain rfl : k = l.length := by omega
            have hfin : ((toL (Gm code false) p).take l.length).foldl (stepE bh) (c, es) = heldE code a (ms ++ [p]) := by
              rw [List.take_of_length_le (by rw [HQl.out]; exact Nat.le_refl _)]
              have h1 := HVis.out
              rw [HSe.out] at h1
              simp only at h1
              rw [HH0.out, HBh.out, HMy.out, HC.out] at h1
              exact h1.symm
            have HFin := hid hfin
            clear hfin
            go_wp2_with fail
            go_ret
            have hA := HR9.out.ah
            have hO := HR9.out.ok
            rw [HFin.out] at hA hO
            have ho08 : Only (fun k => k = gah ∨ k = gok) w w8 := (Only.of_below HB2.out).trans ((HO3.out.mono (fun _ h => .inr h)).trans (.of_below HB8.out))
            refine ⟨_, rfl, by rw [HGl.out]; exact Rd.of_own HO9.out, fun b hb => ?_, ⟨HSt.out.T, hA, hO, HSt.out.only.trans (ho08.trans HR9.out.only), ?_⟩, ho08.trans HR9.out.only⟩
            · have := (HO9.out.lt b hb).1
              have := HB2.out.size
              omega
            · rw [List.length_append, List.length_singleton]
              have h1 := HVis.out
              rw [h1, HSe.out]
              simp only
              rw [HH0.out, HBh.out]
              have hb0 := HSt.out.bd
              rw [HSe.out] at hb0
              refine hb0.fold ?_ _ _
              have h2 := HBl.out
              have h3 := HRb.out
              have h4 := HBh.out
              omega
          obtain ⟨q, hq1, hq2⟩ := HQ.out k hlt
          have HQ2 := hid hq2
          obtain ⟨_, _, he, hcs⟩ := Rd.of_own HO9.out
          cases he
          rcases hcs with h | ⟨g8, o8, rfl, hg8, hcs⟩
          · subst h; simp at hlt
          have hnc := hcs k hlt
          rw [show l.getD k 0 = (q : Int) by simp [hlt, hq1]] at hnc
          obtain ⟨⟨b1, es1⟩, hs1⟩ : ∃ s, ((toL (Gm code false) p).take k).foldl (stepE bh) (c, es) = s := ⟨_, rfl⟩
          have hah := HR9.out.ah
          have hok := HR9.out.ok
          rw [hs1] at hah hok
          simp only at hah hok
          have HS1 := hid hs1
          have HAh9 := hid hah
          have HOk9 := hid hok
          have HA9 := hid (row_only HA8.out (fun h => by have := HN.out.2.2.2.1; omega) HR9.out.only)
          have a0 := HA9.out.cell 0
          simp at a0
          have hlk := run_look_i hah q
          obtain ⟨lk, hlk2⟩ : ∃ o, lookE es1 q = o := ⟨_, rfl⟩
          rw [hlk2] at hlk
          simp only [encI] at hlk
          have HLk := hid hlk2
          have o0 := HOk9.out.cell 0
          have of_ := HOk9.out.free
          simp at o0
          obtain ⟨wo, rfl⟩ : ∃ y : World, y = wr := ⟨_, rfl⟩
          clear hcs hq1 hq2 hs1 hah hok hlk2
          go_upto_region 8 with fail
          clear hlk
          go_cut [] (fun wx => Row wx gok 4 #[.bool (b1 && agreeE lk bh)] ∧ Only (fun k => k = gok) wo wx)
          case first =>
            cases b1
            · go_wp2_with fail
              go_meet
              exact ⟨HOk9.out.set 0 (.bool false), (Only.refl (fun k => k = gok) wo).setCell (g := gok) rfl 0 _⟩
            · cases lk with
              | none =>
                try simp only [Option.isSome_none, Option.getD_none]
                go_wp2_with fail
                go_meet
                exact ⟨HOk9.out.set 0 (.bool true), (Only.refl (fun k => k = gok) wo).setCell (g := gok) rfl 0 _⟩
              | some y =>
                try simp only [Option.isSome_some, Option.getD_some]
                by_cases hyb : y = bh
                · have hyb2 : (y == bh) = true := by simpa using hyb
                  have HAg := hid (show agreeE (some y) bh = true by simp [agreeE, hyb])
                  clear hyb
                  go_wp2_with fail
                  go_meet
                  rw [HAg.out]
                  exact ⟨HOk9.out.set 0 (.bool true), (Only.refl (fun k => k = gok) wo).setCell (g := gok) rfl 0 _⟩
                · have hyb2 : (y == bh) = false := by simpa using hyb
                  have HAg := hid (show agreeE (some y) bh = false by simp [agreeE, hyb])
                  clear hyb
                  go_wp2_with fail
                  go_meet
                  rw [HAg.out]
                  exact ⟨HOk9.out.set 0 (.bool false), (Only.refl (fun k => k = gok) wo).setCell (g := gok) rfl 0 _⟩
          case rest =>
            obtain ⟨hok10, ho10⟩ := hcut
            generalize wc = w10 at hok10 ho10 ⊢
            have HOk10 := hid hok10
            have HO10 := hid ho10
            have HAh10 := hid (HAh9.out.only HN.out.2.2.2.2 ho10)
            have HA10 := hid (row_only HA9.out (fun h => by have := HN.out.2.2.2.1; omega) ho10)
            have a1 := HA10.out.cell 0
            simp at a1
            have hput := run_put_i HAh10.out q bh
            rw [show encI bh = .int .i64 bh from rfl] at hput
            clear hok10 ho10 o0 of_ a0 hnc
            go_upto_region 10 with fail
            clear hput a1
            have hm11 := setE_at HAh10.out.lt encI (putE es1 q bh)
            have ho11 := setE_only w10 gah encI (putE es1 q bh)
            generalize setE w10 gah encI (putE es1 q bh) = w11 at hm11 ho11 ⊢
            have HM11 := hid hm11
            have HO11 := hid ho11
            clear hm11 ho11
            go_wp2_with fail
            go_roundw
            case rel =>
              have hlt2 : k < (toL (Gm code false) p).length := by rw [HQl.out]; exact hlt
              have hqk : (toL (Gm code false) p)[k] = q := by
                have := HQ2.out
                rw [List.getElem?_eq_getElem hlt2] at this
                exact Option.some.inj this
              have hst : ((toL (Gm code false) p).take (k + 1)).foldl (stepE bh) (c, es) = (b1 && agreeE lk bh, putE es1 q bh) := by
                rw [foldl_take_succ _ _ _ _ hlt2, HS1.out, hqk]
                unfold stepE
                rw [HLk.out]
              refine ⟨k + 1, by go_num, by omega, ⟨by rw [hst]; exact HM11.out, by rw [hst]; exact row_only HOk10.out (fun h => HN.out.2.2.2.2 h.symm) HO11.out, HR9.out.only.trans ((HO10.out.mono (fun _ h => .inr h)).trans (HO11.out.mono (fun _ h => .inl h)))⟩⟩
            case measure => simp [intOf]; omega
end Go.Proofs.YtihhpgklpichgaaGreat.Wk
/- Where blocks begin, for the program: begins. -/
namespace Go.Proofs.YtihhpgklpichgaaGreat.Wk
open Go.RowKit Pl Ft Mm In C2 Im Sw Gp

structure BgRel (code : List Int) (gM gB : Nat) (P : List Nat) (w3 : World) (k : Nat) (wr : World) : Prop where
  met : EAt wr gM encB ((P.take k).foldl (visitB code) ([], [])).1
  beg : EAt wr gB encB ((P.take k).foldl (visitB code) ([], [])).2
  only : Only (fun g => g = gM ∨ g = gB) w3 wr
structure BiRel (gM gB : Nat) (al : Bool) (s0 : List (Nat × Bool) × List (Nat × Bool)) (qs : List Nat) (w8 : World) (t : Nat) (wr : World) : Prop where
  met : EAt wr gM encB ((qs.take t).foldl (stepB al) s0).1
  beg : EAt wr gB encB ((qs.take t).foldl (stepB al) s0).2
  only : Only (fun g => g = gM ∨ g = gB) w8 wr
structure BlRel (code : List Int) (a : Nat) (rl : List Int) (w9 : World) (j : Nat) (xs : List Int) (v : Value) (wr : World) : Prop where
  xs_ : xs = (a : Int) :: (rl.take j).filter (begB code a)
  own : wr.ownsRow w9.heap.size 3 1 v xs.length (ints xs)
  bel : Below w9.heap.size w9 wr
set_option maxRecDepth 100000 in
set_option maxHeartbeats 8000000 in
theorem begins_c (code : List Int) (ac : Option Addr) (cc : Nat) (lb : Value) (gw gm : Nat) (sv : Option Addr) (cv : Nat) (ms0 : List Nat) (a : Nat) (w : World)
    (hr : Rd w (.slice ac code.length cc) code) (hcap : code.length ≤ cc) (hby : code.all isByte = true) (hlen : code.length ≤ 2000)
    (hw : Row w gw 88 #[.slice ac code.length cc, .map (some gm), lb]) (hm : MapAt w gm code ms0) (hS : Snd code a) (hms0 : ∀ q, Rc (Gm code false) [(a : Int)] q → q ∈ ms0) (hpl : Rd w (.slice sv (reachL code [(a : Int)] false).length cv) (reachL code [(a : Int)] false)) :
    Calls Tryz.prog 113 #[.agg #[.pointer (some ⟨gw, 0, none⟩), .int .i64 a, .slice sv (reachL code [(a : Int)] false).length cv]] w (WaysPost2 (leadL code a) w) := by
  have HRd := hid hr
  have HBy := hid hby
  have HSn := hid hS
  have HMs := hid hms0
  obtain ⟨P, hP⟩ : ∃ P, placesN code a = P := ⟨_, rfl⟩
  have HP := hid hP
  obtain ⟨rl, hrl⟩ : ∃ l, reachL code [(a : Int)] false = l := ⟨_, rfl⟩
  have HPr := hid (show P = rl.map Int.toNat from by rw [← hP, placesN, hrl])
  have HLead := hid (show leadL code a = (a : Int) :: rl.filter (begB code a) from by unfold leadL; rw [hrl])
  rw [hrl] at hpl ⊢
  have HRl := hid hrl
  have HPl := hid hpl
  have hrlen : rl.length ≤ 2000 := by rw [← hrl]; have := reachL_len code [(a : Int)] false; omega
  have HMb := hid (show ∀ y ∈ rl, ∃ p : Nat, y = (p : Int) ∧ Rc (Gm code false) [(a : Int)] p ∧ (readP code p).isSome = true from fun y hy => mem_rl.1 (by rw [hrl]; exact hy))
  have HNd := hid (show P.Nodup from by
    rw [← hP, placesN]
    unfold reachL truesL
    rw [List.map_map]
    have : (Int.toNat ∘ fun (j : Nat) => (j : Int)) = id := by funext j; simp
    rw [this, List.map_id]
    exact List.Pairwise.filter _ List.nodup_range)
  obtain ⟨w1, hw1, hr1, hb1, hz1⟩ := new_ex w 77 #[.pointer (some ⟨gw, 0, none⟩), .int .i64 a, .slice sv rl.length cv]
  obtain ⟨w2, hw2, he2, hb2, hz2⟩ : ∃ w2, w1.alloc (.map #[] 0) = w2 ∧ EAt w2 w1.heap.size encB [] ∧ Below w1.heap.size w1 w2 ∧ w1.heap.size < w2.heap.size := ⟨_, rfl, eAt_new encB w1, (Below.refl _ _).alloc (Nat.le_refl _) _, by simp⟩
  obtain ⟨w3, hw3, he3, hb3, hz3⟩ : ∃ w3, w2.alloc (.map #[] 0) = w3 ∧ EAt w3 w2.heap.size encB [] ∧ Below w2.heap.size w2 w3 ∧ w2.heap.size < w3.heap.size := ⟨_, rfl, eAt_new encB w2, (Below.refl _ _).alloc (Nat.le_refl _) _, by simp⟩
  have hb13 := hb2.trans (hb3.mono (Nat.le_of_lt hz2))
  have HB3 := hid (hb1.trans (hb13.mono (Nat.le_of_lt hz1)))
  have HR3 := hid (hr1.on hb13)
  have HMet3 := hid (he2.on hb3)
  have HBeg3 := hid he3
  have hmm := @run_makeMap Tryz.prog
  have HW := hid hw
  have HM := hid hm
  have x2 := HR3.out.cell 2
  simp at x2
  clear hr hby hS hms0 hpl hrl hw hm hr1 hb1 he2 hb2 he3 hb3 hb13 hP
  go_enter Tryz.func113, Tryz.ntmps113
  go_upto_region 3 with fail
  clear hmm
  obtain ⟨gM, hgM⟩ : ∃ g, w1.heap.size = g := ⟨_, rfl⟩
  obtain ⟨gB, hgB⟩ : ∃ g, w2.heap.size = g := ⟨_, rfl⟩
  have HZ := hid (show w.heap.size < gM ∧ gM < gB ∧ gB < w3.heap.size by omega)
  rw [hgM] at HMet3
  rw [hgB] at HBeg3
  try rw [hgM]
  try rw [hgB]
  clear hw1 hw2 hw3 hgM hgB hz1 hz2 hz3
  go_wp2_with fail
  go_loopw [20] (fun y wr => ∃ k : Nat, y = .int .i64 k ∧ k ≤ rl.length ∧ BgRel code gM gB P w3 k wr) (fun y _ => rl.length - (intOf y).toNat)
  case atStart => exact ⟨0, rfl, by omega, ⟨HMet3.out, HBeg3.out, Only.refl _ _⟩⟩
  case round =>
    obtain ⟨k, rfl, hk, hrel⟩ := hrel
    have HR := hid hrel
    have hbw := HB3.out.trans (hrel.only.below HB3.out.size (fun g hg => by have := HZ.out; omega))
    have HBw := hid hbw
    have HRr := hid (row_only HR3.out (fun h => by have := HZ.out; omega) hrel.only)
    have hzr := hrel.only.size
    obtain ⟨wo, rfl⟩ : ∃ y : World, y = wr := ⟨_, rfl⟩
    clear hrel hbw
    by_cases hlt : k < rl.length
    case neg =>
      obtain rfl : k = rl.length := by omega
      have hPl : P.length = rl.length := by rw [HPr.out, List.length_map]
      have hinv : BInv code P (P.foldl (visitB code) ([], [])) := by
        have h := foldB_inv (code := code) P [] ([], []) (BInv.nil code) (by simpa using HNd.out) (fun p hp => by
          rw [HPr.out] at hp
          obtain ⟨y, hy, rfl⟩ := List.mem_map.1 hp
          obtain ⟨q, rfl, _, hq⟩ := HMb.out y hy
          exact ⟨by simpa using hq, HSn.out.nn _⟩)
        simpa using h
      have hbeg := HR.out.beg
      rw [List.take_of_length_le (by omega)] at hbeg
      obtain ⟨⟨s1, s2⟩, hs⟩ : ∃ s, P.foldl (visitB code) ([], []) = s := ⟨_, rfl⟩
      rw [hs] at hbeg hinv
      simp only at hbeg
      have HBeg := hid hbeg
      have HInv := hid hinv
      have HBq := hid (show ∀ p : Nat, begB code a (p : Int) = (gb s2 p && !decide ((p : Int) = (a : Int))) from fun p => by
        unfold begB
        rw [HP.out, Int.toNat_natCast]
        have h := HInv.out.beg p
        simp only at h
        cases hb : gb s2 p with
        | true => rw [pdec_yes (h.1 hb)]
        | false => rw [pdec_no (fun h2 => by rw [h.2 h2] at hb; cases hb)])
      have r1 := HRr.out.cell 1
      simp at r1
      have r2 := (HRr.out.alloc (.cells #[.int .i64 a] 3)).cell 2
      simp at r2
      have HL9 := hid (own_lit wo [(a : Int)] #[.int .i64 a] rfl (by simp) 1 rfl)
      have HB9 := hid ((Below.refl wo.heap.size wo).alloc (Nat.le_refl _) (.cells #[.int .i64 a] 3))
      have hzw := HBw.out.size
      have hrlt := HRr.out.lt
      clear hbeg hinv hs hPl
      go_wp2_with fail
      go_loopw [12, 63] (fun v c wr => ∃ (j : Nat) (xs : List Int), c = .int .i64 j ∧ j ≤ rl.length ∧ BlRel code a rl wo j xs v wr) (fun _ c _ => rl.length - (intOf c).toNat)
      case atStart => exact ⟨0, [(a : Int)], rfl, by omega, ⟨by simp, HL9.out, HB9.out⟩⟩
      case round =>
        obtain ⟨j, xs, rfl, hj, hrel⟩ := hrel
        have HXs := hid hrel.xs_
        have HOx := hid hrel.own
        have HBx := hid hrel.bel
        have hzx := hrel.bel.size
        have hxl : xs.length ≤ j + 1 := by
          rw [hrel.xs_, List.length_cons]
          have h1 := List.length_filter_le (begB code a) (rl.take j)
          rw [List.length_take] at h1
          omega
        have hbx := HBeg.out.on hrel.bel
        have HRx := hid (HRr.out.on hrel.bel)
        obtain ⟨sx, cx, rfl⟩ := own_slice hrel.own
        have HPx := hid ((HPl.out.on HBw.out).on hrel.bel)
        clear hrel
        by_cases hlj : j < rl.length
        · obtain ⟨p, hp, _, _⟩ := HMb.out rl[j] (List.getElem_mem hlj)
          obtain ⟨_, _, he, hcs⟩ := HPx.out
          cases he
          rcases hcs with h | ⟨gp, op_, rfl, hgp, hcs⟩
          · subst h; simp at hlj
          have q0 := hcs j hlj
          rw [show rl.getD j 0 = (p : Int) by simp [hlj, hp]] at q0
          have HTk := hid (show (rl.take (j + 1)).filter (begB code a) = (rl.take j).filter (begB code a) ++ (if begB code a (p : Int) = true then [(p : Int)] else []) from by
            rw [List.take_succ_eq_append_getElem hlj, List.filter_append, hp]
            congr 1
            by_cases hb : begB code a (p : Int) = true
            · rw [if_pos hb]; simp [hb]
            · rw [if_neg hb]; simp [hb])
          have hg2 := run_get_b hbx p
          rw [show encB ((lookE s2 p).getD false) = .bool (gb s2 p) from rfl] at hg2
          have HB2q := hid (HBq.out p)
          obtain ⟨b2, hb2⟩ : ∃ b, gb s2 p = b := ⟨_, rfl⟩
          rw [hb2] at hg2
          have HB2 := hid hb2
          have r1 := HRx.out.cell 1
          simp at r1
          clear hcs hp hb2 hbx
          cases b2
          · have hno : begB code a (p : Int) = false := by rw [HB2q.out, HB2.out]; rfl
            have HNo := hid hno
            clear hno
            go_wp2_with fail
            go_roundw
            case rel => exact ⟨j + 1, xs, by go_num, by omega, ⟨by rw [HTk.out, HNo.out, HXs.out]; simp, HOx.out, HBx.out⟩⟩
            case measure => simp [intOf]; omega
          · by_cases hpa : (p : Int) = (a : Int)
            · have hno : begB code a (p : Int) = false := by rw [HB2q.out, HB2.out, decide_eq_true hpa]; rfl
              have HNo := hid hno
              have hbn : ((p : Int) == (a : Int)) = true := by simpa using hpa
              clear hno hpa
              go_wp2_with fail
              go_roundw
              case rel => exact ⟨j + 1, xs, by go_num, by omega, ⟨by rw [HTk.out, HNo.out, HXs.out]; simp, HOx.out, HBx.out⟩⟩
              case measure => simp [intOf]; omega
            · have hyes : begB code a (p : Int) = true := by rw [HB2q.out, HB2.out, decide_eq_false hpa]; rfl
              have HYes := hid hyes
              have hbn : ((p : Int) == (a : Int)) = false := by simpa using hpa
              have hA : xs.length + [(p : Int)].length ≤ 1000000000 := by simp only [List.length_singleton]; omega
              have HA10 := hid hA
              have HB10 := hid (show wo.heap.size ≤ (wr.alloc (.cells #[.int .i64 p] 3)).heap.size by simp only [World.size_alloc]; omega)
              clear hyes hpa hA
              go_wp2_with (at_builtin; refine app_ints _ rfl _ _ rfl wo.heap.size xs [(p : Int)] _ rfl (HOx.out.alloc _) _ _ _ rfl rfl (SrcAt.at_ _ [(p : Int)] #[.int .i64 p] _ 1 rfl (by simp) rfl) HA10.out HB10.out ?_)
              intro v2 w8 hg8
              have HO8 := hid hg8.own
              have HB8 := hid ((HBx.out.alloc HBx.out.size (.cells #[.int .i64 p] 3)).trans hg8.bel)
              obtain ⟨s8, c8, rfl⟩ := own_slice hg8.own
              clear hg8 hg2 q0
              go_wp2_with fail
              go_roundw
              case rel => exact ⟨j + 1, xs ++ [(p : Int)], by go_num, by omega, ⟨by rw [HTk.out, HYes.out, HXs.out]; simp, HO8.out, HB8.out⟩⟩
              case measure => simp [intOf]; omega
        · obtain rfl : j = rl.length := by omega
          have HX2 := HXs.out
          rw [List.take_length] at HX2
          have HX3 := hid (show xs = leadL code a from by rw [HLead.out, HX2])
          clear HX2 hbx
          go_wp2_with fail
          go_ret
          refine ⟨_, rfl, ?_, HBw.out.trans (HBx.out.mono hzw)⟩
          rw [← HX3.out]
          exact own_mono HOx.out hzw
    obtain ⟨p, hp, hrc, hps⟩ := HMb.out rl[k] (List.getElem_mem hlt)
    obtain ⟨⟨op, ia, ib, n⟩, hi⟩ := Option.isSome_iff_exists.1 hps
    have hV := (readP_facts hi).2.1
    have HV := hid hV
    have HI := hid hi
    have HMp := hid (HMs.out p hrc)
    obtain ⟨x, hx⟩ : ∃ x, (p : Int) + slong ⟨op, ia, ib, n⟩ = x := ⟨_, rfl⟩
    have HX := hid hx
    have hPk : P[k]? = some p := by rw [HPr.out, List.getElem?_map, List.getElem?_eq_getElem hlt, hp]; rfl
    have HPk := hid hPk
    obtain ⟨s0, hs0⟩ : ∃ s, (P.take k).foldl (visitB code) ([], []) = s := ⟨_, rfl⟩
    have hmet := HR.out.met
    have hbeg := HR.out.beg
    rw [hs0] at hmet hbeg
    have HS0 := hid hs0
    have HMet := hid hmet
    have HBeg := hid hbeg
    obtain ⟨_, _, he, hcs⟩ := HPl.out.on HBw.out
    cases he
    rcases hcs with h | ⟨gp, op_, rfl, hgp, hcs⟩
    · subst h; simp at hlt
    have q0 := hcs k hlt
    rw [show rl.getD k 0 = (p : Int) by simp [hlt, hp]] at q0
    have r0 := HRr.out.cell 0
    have r1 := HRr.out.cell 1
    have r2 := HRr.out.cell 2
    simp at r0 r1 r2
    have HRdw := hid (HRd.out.on HBw.out)
    have HWw := hid (HW.out.on HBw.out)
    have HMw := hid (show MapAt wo gm code ms0 from MapAt.on (show MapAt w gm code ms0 from HM.out) HBw.out)
    clear hcs hp hrc hps hi hV hx hPk hs0 hmet hbeg
    go_wp2_with fail
    refine (exit_c code ac cc lb gw gm ms0 a _ rl.length cv p ⟨op, ia, ib, n⟩ wo HRdw.out hcap HBy.out hlen HWw.out HMw.out HMp.out HI.out).mono ?_
    rintro e w4 ⟨tv, rfl, hown4, hb4⟩
    obtain ⟨F, recv, T', v', he, hmt, hen, hcl⟩ := ways_any code ⟨op, ia, ib, n⟩ x tv HV.out
    have hna := nextAlone_c ⟨op, ia, ib, n⟩ x tv (tabP code ⟨op, ia, ib, n⟩).isSome w4
    rw [he] at hna
    rw [HX.out, he]
    have HO4 := hid hown4
    have HB4 := hid hb4
    have HCl := hid hcl
    obtain ⟨al, hal⟩ : ∃ b, aloneI ⟨op, ia, ib, n⟩ = b := ⟨_, rfl⟩
    have HAl := hid hal
    have HNa := hid hna
    have HMt := hid hmt
    have HEn := hid hen
    clear hown4 hb4 hcl he hna hal hmt hen r0 r1 r2 q0
    go_wp2_with fail
    refine HNa.out.mono ?_
    rintro e w5 ⟨rfl, hb5⟩
    rw [HAl.out]
    have HB5 := hid (HB4.out.trans (hb5.mono HB4.out.size))
    have HO5 := hid (fun h30 => own_on (HO4.out h30) hb5)
    have hmt := HMt.out
    have hen := HEn.out
    obtain ⟨nx, hnx⟩ : ∃ z, (if al = true then x else 0) = z := ⟨_, rfl⟩
    rw [hnx]
    clear hb5 hnx
    go_wp2_with fail
    refine (HCl.out w5 _ HO5.out).mono ?_
    rintro e w8 ⟨v8, rfl, hown8, hb8⟩
    have HGm := hid (show nextsP code ⟨op, ia, ib, n⟩ x = Gm code false p from by rw [gm_off HI.out, HX.out])
    rw [HGm.out] at hown8
    obtain ⟨l, hl⟩ : ∃ l, Gm code false p = l := ⟨_, rfl⟩
    rw [hl] at hown8
    have HGl := hid hl
    have HO8 := hid hown8
    have HB8 := hid (HB5.out.trans (hb8.mono HB5.out.size))
    have hll : l.length ≤ 100 := by
      have := (gm_bd HBy.out hlen false (S := []) (fun q hq => by cases hq)).len p (by have := (readP_facts HI.out).1; omega)
      rw [hl] at this
      omega
    have HQ := hid (show ∀ k (h : k < l.length), ∃ q : Nat, l[k] = (q : Int) ∧ (toL (Gm code false) p)[k]? = some q from fun k h => by
      have h1 : l[k] ∈ Gm code false p := by rw [hl]; exact List.getElem_mem h
      have h2 := HSn.out.nn p _ h1
      refine ⟨l[k].toNat, by omega, ?_⟩
      unfold toL
      rw [hl, List.getElem?_map, List.getElem?_eq_getElem h]
      rfl)
    have HQl := hid (show (toL (Gm code false) p).length = l.length by unfold toL; rw [List.length_map, hl])
    have HMet8 := hid (HMet.out.on HB8.out)
    have HBeg8 := hid (HBeg.out.on HB8.out)
    have hz8 := HB8.out.size
    have hz5 := HB5.out.size
    obtain ⟨s8, c8, rfl⟩ := own_slice hown8
    clear hown8 hb8 hl hmt hen
    go_wp2_with fail
    go_loopw [35] (fun y wr => ∃ t : Nat, y = .int .i64 t ∧ t ≤ l.length ∧ BiRel gM gB al s0 (toL (Gm code false) p) w8 t wr) (fun y _ => l.length - (intOf y).toNat)
    case atStart => exact ⟨0, rfl, by omega, ⟨HMet8.out, HBeg8.out, Only.refl _ _⟩⟩
    case round =>
      obtain ⟨t, rfl, ht, hrel⟩ := hrel
      have HT := hid hrel
      have HO9 := hid (own_only HO8.out (fun b hb h => by
        have h1 := (HO8.out.lt b hb).1
        have h2 := HZ.out
        omega) hrel.only)
      clear hrel
      by_cases hlt' : t < l.length
      case neg =>
        obtain rfl : t = l.length := by omega
        go_wp2_with fail
        go_roundw
        case rel =>
          have hst : (P.take (k + 1)).foldl (visitB code) ([], []) = ((toL (Gm code false) p).take l.length).foldl (stepB al) s0 := by
            have hkP : k < P.length := by rw [HPr.out, List.length_map]; exact hlt
            rw [foldl_take_succ _ _ _ _ hkP, HS0.out, List.take_of_length_le (by rw [HQl.out]; exact Nat.le_refl _)]
            have hpk : P[k] = p := by have := HPk.out; rw [List.getElem?_eq_getElem hkP] at this; exact Option.some.inj this
            rw [hpk]
            unfold visitB
            rw [HI.out]
            simp only
            rw [HAl.out]
          exact ⟨k + 1, by go_num, by omega, ⟨by rw [hst]; exact HT.out.met, by rw [hst]; exact HT.out.beg, HR.out.only.trans ((Only.of_below HB8.out).trans HT.out.only)⟩⟩
        case measure => simp [intOf]; omega
      obtain ⟨q, hq1, hq2⟩ := HQ.out t hlt'
      have HQ2 := hid hq2
      obtain ⟨_, _, he, hcs⟩ := Rd.of_own HO9.out
      cases he
      rcases hcs with h | ⟨g8, o8, rfl, hg8, hcs⟩
      · subst h; simp at hlt'
      have hnc := hcs t hlt'
      rw [show l.getD t 0 = (q : Int) by simp [hlt', hq1]] at hnc
      obtain ⟨⟨s1, s2⟩, hs1⟩ : ∃ s, ((toL (Gm code false) p).take t).foldl (stepB al) s0 = s := ⟨_, rfl⟩
      have hmet := HT.out.met
      have hbeg := HT.out.beg
      rw [hs1] at hmet hbeg
      simp only at hmet hbeg
      have HS1 := hid hs1
      have HMet9 := hid hmet
      have HBeg9 := hid hbeg
      obtain ⟨b2, hb2⟩ : ∃ b, gb s2 q = b := ⟨_, rfl⟩
      obtain ⟨b1, hb1⟩ : ∃ b, gb s1 q = b := ⟨_, rfl⟩
      have HB2 := hid hb2
      have HB1 := hid hb1
      have hg2 := run_get_b hbeg q
      rw [show encB ((lookE s2 q).getD false) = .bool (gb s2 q) from rfl, hb2] at hg2
      have hg1 := run_get_b hmet q
      rw [show encB ((lookE s1 q).getD false) = .bool (gb s1 q) from rfl, hb1] at hg1
      have hput := run_put_b hbeg q (b2 || (b1 || !al))
      obtain ⟨wi, rfl⟩ : ∃ y : World, y = wr := ⟨_, rfl⟩
      clear hcs hq1 hq2 hs1 hmet hbeg hb2 hb1
      go_upto_region 11 with fail
      go_cut [] (fun wx => EAt wx gB encB (putE s2 q (b2 || (b1 || !al))) ∧ Only (fun g => g = gB) wi wx)
      case first =>
        cases b2
        · cases b1
          · rw [show encB (false || (false || !al)) = .bool (!al) by simp [encB]] at hput
            go_wp2_with fail
            go_meet
            exact ⟨setE_at HBeg9.out.lt encB _, setE_only wi gB encB _⟩
          · rw [show encB (false || (true || !al)) = .bool true from rfl] at hput
            go_wp2_with fail
            go_meet
            exact ⟨setE_at HBeg9.out.lt encB _, setE_only wi gB encB _⟩
        · rw [show encB (true || (b1 || !al)) = .bool true by simp [encB]] at hput
          go_wp2_with fail
          go_meet
          exact ⟨setE_at HBeg9.out.lt encB _, setE_only wi gB encB _⟩
      case rest =>
        obtain ⟨hbeg10, ho10⟩ := hcut
        generalize wc = w10 at hbeg10 ho10 ⊢
        have HBeg10 := hid hbeg10
        have HO10 := hid ho10
        have hmet10 := HMet9.out.only (fun h => by have := HZ.out; omega) ho10
        have HMet10 := hid hmet10
        have hput2 := run_put_b hmet10 q true
        rw [show encB true = .bool true from rfl] at hput2
        clear hbeg10 ho10 hmet10 hput hg1 hg2 hnc
        go_upto_region 13 with fail
        clear hput2
        have hm11 := setE_at HMet10.out.lt encB (putE s1 q true)
        have ho11 := setE_only w10 gM encB (putE s1 q true)
        generalize setE w10 gM encB (putE s1 q true) = w11 at hm11 ho11 ⊢
        have HM11 := hid hm11
        have HO11 := hid ho11
        clear hm11 ho11
        go_wp2_with fail
        go_roundw
        case rel =>
          have hlt2 : t < (toL (Gm code false) p).length := by rw [HQl.out]; exact hlt'
          have hqk : (toL (Gm code false) p)[t] = q := by
            have := HQ2.out
            rw [List.getElem?_eq_getElem hlt2] at this
            exact Option.some.inj this
          have hst : ((toL (Gm code false) p).take (t + 1)).foldl (stepB al) s0 = (putE s1 q true, putE s2 q (b2 || (b1 || !al))) := by
            rw [foldl_take_succ _ _ _ _ hlt2, HS1.out, hqk]
            unfold stepB
            simp only
            rw [HB2.out, HB1.out]
          exact ⟨t + 1, by go_num, by omega, ⟨by rw [hst]; exact HM11.out, by rw [hst]; exact HBeg10.out.only (fun h => by have := HZ.out; omega) HO11.out, HT.out.only.trans ((HO10.out.mono (fun _ h => .inr h)).trans (HO11.out.mono (fun _ h => .inl h)))⟩⟩
        case measure => simp [intOf]; omega
end Go.Proofs.YtihhpgklpichgaaGreat.Wk
/- Heights of the program: heights, routine, routineOf. -/
namespace Go.Proofs.YtihhpgklpichgaaGreat.Wk
open Go.RowKit Pl Ft Mm In C2 Im Sw Gp

theorem heights_leads (code : List Int) (ac : Option Addr) (cc : Nat) (lb : Value) (gw gm gr gao gah gok : Nat) (at_ : Int) (sv : Option Addr) (nv cv : Nat) (ms0 : List Nat) (a : Nat) (w00 wS : World)
    (hr : Rd w00 (.slice ac code.length cc) code) (hb00 : Below w00.heap.size w00 wS) (g1 : w00.heap.size ≤ gah) (g2 : w00.heap.size ≤ gok) (hcap : code.length ≤ cc) (hby : code.all isByte = true) (hlen : code.length ≤ 2000)
    (hw : Row wS gw 88 #[.slice ac code.length cc, .map (some gm), lb]) (hm : MapAt wS gm code ms0) (hrt : Row wS gr 77 #[.pointer (some ⟨gw, 0, none⟩), .int .i64 at_, .slice sv nv cv]) (hao : Row wS gao 130 #[.map (some gah)])
    (n1 : gw ≠ gah ∧ gw ≠ gok) (n2 : gm ≠ gah ∧ gm ≠ gok) (n3 : gr ≠ gah ∧ gr ≠ gok) (n4 : gao ≠ gah ∧ gao ≠ gok) (n5 : gah ≠ gok) (l1 : gah < wS.heap.size) (l2 : gok < wS.heap.size) (hS : Snd code a) (hms0 : ∀ q, Rc (Gm code false) [(a : Int)] q → q ∈ ms0) (hGB : GBd (Gm code false) [(a : Int)] 100000 10) :
    LeadsF (toL (Gm code false)) [a] 100001 117 #[] #[.pointer (some ⟨gr, 0, none⟩), .pointer (some ⟨gao, 0, none⟩), .pointer (some ⟨gok, 0, none⟩)] (fun ms T w => HtSt code a gah gao gok wS ms T w ∧ ms.Nodup ∧ ∀ q ∈ ms, q < 100001) where
  call ms T p w hI hp hn hav _ := by
    have hrc := (rc_av hGB p).2 (by simpa using hav)
    obtain ⟨i, hi⟩ := Option.isSome_iff_exists.1 (hS.rd p hrc)
    refine (heightsFn_c code ac cc lb gw gm gr gao gah gok at_ sv nv cv ms0 a w00 wS ms T p i w hr hb00 g1 g2 hcap hby hlen hw hm hrt hao n1 n2 n3 n4 n5 hI.1 (hms0 p hrc) hi (hS.nn p) (by have := nodup_le _ ms hI.2.1 hI.2.2; omega)).mono ?_
    rintro e w' ⟨v, rfl, hrd, hv, hst, ho⟩
    have hsz := hI.1.only.size
    refine ⟨v, T, rfl, by rw [show natI (toL (Gm code false) p) = Gm code false p from natI_toN (fun q hq => hS.nn p q hq)]; exact hrd, fun k hk => ⟨hv k hk, fun h => ?_⟩, ⟨hst, snoc_nodup hI.2.1 hn, snoc_lt hI.2.2 hp⟩, fun k hk => .inl hk, ho.mono (fun k hk => ?_)⟩
    · rw [hI.1.T] at h
      have := hv k hk
      omega
    · rw [hI.1.T]
      rcases hk with rfl | rfl <;> assumption
  enter xs w := by kernel_rfl
  on ms T w w' z hI hz ho := by
    obtain ⟨hst, hnd⟩ := hI
    have hT : ∀ k, k < wS.heap.size → ¬ z k := fun k hk h => hz k h (by rw [hst.T]; exact hk)
    exact ⟨⟨hst.T, hst.ah.only (hT _ l1) ho, row_only hst.ok (hT _ l2) ho, only_mix hst.only ho (fun k hk => by
      rcases Nat.lt_or_ge k wS.heap.size with h | h
      · exact absurd hk (hT k h)
      · exact .inr h), hst.bd⟩, hnd⟩
  lt ms T w hI k hk := by
    have h := hI.1.T
    rw [h] at hk
    exact Nat.lt_of_lt_of_le hk hI.1.only.size
  len p hp := by
    unfold toL
    rw [List.length_map]
    have := hGB.len p (by omega)
    omega
structure HlRel (code : List Int) (a : Nat) (rl : List Int) (w7 : World) (j : Nat) (xs : List Int) (v : Value) (wr : World) : Prop where
  xs_ : xs = (rl.take j).map (fun x => hgt code a x.toNat)
  own : wr.ownsRow w7.heap.size 3 1 v xs.length (ints xs)
  bel : Below w7.heap.size w7 wr
set_option maxRecDepth 100000 in
set_option maxHeartbeats 4000000 in
theorem heights_c (code : List Int) (ac : Option Addr) (cc : Nat) (lb : Value) (gw gm : Nat) (sv : Option Addr) (cv : Nat) (ms0 : List Nat) (a : Nat) (w : World)
    (hr : Rd w (.slice ac code.length cc) code) (hcap : code.length ≤ cc) (hby : code.all isByte = true) (hlen : code.length ≤ 2000) (hal : a < code.length)
    (hw : Row w gw 88 #[.slice ac code.length cc, .map (some gm), lb]) (hm : MapAt w gm code ms0) (hS : Snd code a) (hms0 : ∀ q, Rc (Gm code false) [(a : Int)] q → q ∈ ms0) (hpl : Rd w (.slice sv (reachL code [(a : Int)] false).length cv) (reachL code [(a : Int)] false)) :
    Calls Tryz.prog 73 #[.agg #[.pointer (some ⟨gw, 0, none⟩), .int .i64 a, .slice sv (reachL code [(a : Int)] false).length cv]] w (TabPost (heightsO code a) w) := by
  have HRd := hid hr
  have HBy := hid hby
  have HSn := hid hS
  have HMs := hid hms0
  obtain ⟨rl, hrl⟩ : ∃ l, reachL code [(a : Int)] false = l := ⟨_, rfl⟩
  rw [hrl] at hpl ⊢
  have HRl := hid hrl
  have HPl := hid hpl
  have hrlen : rl.length ≤ 2000 := by rw [← hrl]; have := reachL_len code [(a : Int)] false; omega
  obtain ⟨w1, hw1, hr1, hb1, hz1⟩ := new_ex w 77 #[.pointer (some ⟨gw, 0, none⟩), .int .i64 a, .slice sv rl.length cv]
  obtain ⟨w2, hw2, he2, hb2, hz2⟩ : ∃ w2, w1.alloc (.map #[] 0) = w2 ∧ EAt w2 w1.heap.size encI [] ∧ Below w1.heap.size w1 w2 ∧ w1.heap.size < w2.heap.size := ⟨_, rfl, eAt_new encI w1, (Below.refl _ _).alloc (Nat.le_refl _) _, by simp⟩
  have hput := run_put_i he2 a 0
  rw [show encI 0 = .int .i64 0 from rfl] at hput
  have he3 := setE_at he2.lt encI (putE [] a 0)
  have ho3 := setE_only w2 w1.heap.size encI (putE [] a 0)
  obtain ⟨w3, hw3⟩ : ∃ w3, setE w2 w1.heap.size encI (putE [] a 0) = w3 := ⟨_, rfl⟩
  rw [hw3] at hput he3 ho3
  obtain ⟨w4, hw4, hr4, hb4, hz4⟩ := new_ex w3 130 #[.map (some w1.heap.size)]
  obtain ⟨w5, hw5, hr5, hb5, hz5⟩ := new_ex w4 4 #[.bool true]
  obtain ⟨w6, hw6, hr6, hb6, hz6⟩ := new_ex w5 3 #[.int .i64 a]
  have hz3 := ho3.size
  have HL6 := hid (show w6.ownsRow w5.heap.size 3 1 (.slice (some ⟨w5.heap.size, 0, none⟩) 1 1) 1 (ints [(a : Int)]) by rw [← hw6]; exact own_lit w5 [(a : Int)] #[.int .i64 a] rfl (by simp) 1 rfl)
  have hb45 := hb4.trans (hb5.mono (Nat.le_of_lt hz4))
  have hb12 := hb1.trans (hb2.mono (Nat.le_of_lt hz1))
  have hb13 := hb12.trans (ho3.below (B := w.heap.size) (by omega) (fun k hk => by omega))
  have HB5 := hid (hb13.trans (hb45.mono (by omega)))
  have HB56 := hid hb6
  have HR5 := hid (show Row w5 w.heap.size 77 _ from ((row_only (hr1.on hb2) (by omega) ho3).on hb45))
  have HAo5 := hid (hr4.on hb5)
  have HE5 := hid (he3.on hb45)
  have HOk5 := hid hr5
  have hmm := @run_makeMap Tryz.prog
  have HZ := hid (show w.heap.size < w1.heap.size ∧ w1.heap.size < w3.heap.size ∧ w3.heap.size < w4.heap.size ∧ w4.heap.size < w5.heap.size from ⟨hz1, by omega, hz4, hz5⟩)
  have HW5 := hid (hw.on HB5.out)
  have HM5 := hid (show MapAt w5 gm code ms0 from hm.on HB5.out)
  have hgw := hw.lt
  have hgm := hm.lt
  have x1 := (hr1.on hb2).cell 1
  have x15 := HR5.out.cell 1
  simp at x1 x15
  clear hr hby hS hms0 hpl hrl hw hm hr1 hb1 he2 hb2 he3 ho3 hr4 hb4 hr5 hb5 hr6 hb6 hb45 hb12 hb13
  go_enter Tryz.func73, Tryz.ntmps73
  go_upto_region 3 with fail
  clear hmm hput
  go_wp2_with fail
  have hGB := gm_bd HBy.out hlen false (S := [(a : Int)]) (fun q hq => by obtain rfl : q = (a : Int) := (by simpa using hq); omega)
  have HGB := hid hGB
  have hgb := gbd_lt hGB
  refine (reached_f [a] _ _ (heights_leads code ac cc lb gw gm w.heap.size w3.heap.size w1.heap.size w4.heap.size a sv rl.length cv ms0 a w w5 HRd.out HB5.out (by omega) (by omega) hcap HBy.out hlen HW5.out HM5.out HR5.out HAo5.out (by omega) (by omega) (by omega) (by omega) (by omega) (by omega) (by omega) HSn.out HMs.out hGB) hgb.1 (by omega) (by simp; omega) (by simp) (Rd.of_own HL6.out) (fun k hk => ?_) (T0 := fun k => k < w5.heap.size) ⟨⟨rfl, HE5.out.on HB56.out, HOk5.out.on HB56.out, .of_below HB56.out, fun e he => ?_⟩, List.nodup_nil, fun q hq => by cases hq⟩).mono ?_
  · have h1 := HL6.out.lt k hk
    exact ⟨h1.2, fun h => by have := h1.1; omega⟩
  · obtain rfl : e = (a, 0) := by simpa [heldE] using he
    simp
  rintro e w7 ⟨ms, lf, v7, T, rfl, hd, hown7, ⟨hst, hnd, _⟩, _⟩
  have hmem := dfs_rc HGB.out (S := [(a : Int)]) hd
  have hmet := dfs_met hd (S := [a]) (fun k h => by cases h) (fun q hq => .inl hq)
  have hheld := held_ok HSn.out.rd HSn.out.nn hmet hmem
  obtain ⟨s7, c7, rfl⟩ := own_slice hown7
  have HE7 := hid hst.ah
  have HOk7 := hid hst.ok
  have ho57 := hst.only
  have HAo7 := hid (row_only HAo5.out (by omega) ho57)
  have HR7 := hid (row_only HR5.out (by omega) ho57)
  have HB7 := hid (HB5.out.trans (ho57.below HB5.out.size (fun k hk => by rcases hk with rfl | rfl <;> omega)))
  obtain ⟨⟨b, es⟩, hse⟩ : ∃ s, heldE code a ms = s := ⟨_, rfl⟩
  rw [hse] at hheld HE7 HOk7
  simp only at hheld HE7 HOk7
  have hb := hheld.1
  have HHt := hid hheld.2
  have o0 := HOk7.out.cell 0
  simp at o0
  have HMem := hid hmem
  clear hd hown7 hmem hmet hheld hst hnd ho57 hse hGB hgb x1 x15 hw1 hw2 hw3 hw4 hw5 hw6
  cases b with
  | false =>
    have HNot := hid (show heightsO code a = none from by unfold heightsO; rw [← hb]; rfl)
    clear hb
    go_wp2_with fail
    go_ret2
    rw [HNot.out]
    exact ⟨_, rfl, World.ownsRow_nil _ _ _ _, HB7.out⟩
  | true =>
    have hok : okH code a := by
      unfold pdec at hb
      exact @of_decide_eq_true _ (Classical.propDecidable _) hb.symm
    have HYes := hid (heightsO_yes hok)
    have HHg := hid (HHt.out hok)
    have y2 := HR7.out.cell 2
    simp at y2
    have HFr := hid (show ∀ x ∈ rl, ∃ q : Nat, x = (q : Int) ∧ lookE es q = some (hgt code a q) from fun x hx => by
      rw [← HRl.out] at hx
      obtain ⟨q, rfl, hrc, _⟩ := mem_rl.1 hx
      exact ⟨q, rfl, HHg.out q ((HMem.out q).2 hrc)⟩)
    have HPl7 := hid (HPl.out.on HB7.out)
    have hz7 := HB7.out.size
    clear hb hok
    go_wp2_with fail
    go_loopw [6, 23] (fun v c wr => ∃ (j : Nat) (xs : List Int), c = .int .i64 j ∧ j ≤ rl.length ∧ HlRel code a rl w7 j xs v wr) (fun _ c _ => rl.length - (intOf c).toNat)
    case atStart => exact ⟨0, [], rfl, by omega, ⟨rfl, World.ownsRow_nil _ _ _ _, Below.refl _ _⟩⟩
    case round =>
      obtain ⟨j, xs, rfl, hj, hrel⟩ := hrel
      have HX := hid hrel.xs_
      have HOx := hid hrel.own
      have HBx := hid hrel.bel
      have hzx := hrel.bel.size
      have hxl : xs.length ≤ j := by rw [hrel.xs_, List.length_map, List.length_take]; omega
      have hrd := HPl7.out.on hrel.bel
      have hae := HE7.out.on hrel.bel
      have HA9 := hid (HAo7.out.on hrel.bel)
      have a0 := HA9.out.cell 0
      simp at a0
      obtain ⟨sx, cx, rfl⟩ := own_slice hrel.own
      clear hrel
      by_cases hlj : j < rl.length
      · obtain ⟨q, hq1, hq2⟩ := HFr.out rl[j] (List.getElem_mem hlj)
        obtain ⟨_, _, he, hcs⟩ := hrd
        cases he
        rcases hcs with h | ⟨g2, o2, rfl, hg2, hcs⟩
        · subst h; simp at hlj
        have q0 := hcs j hlj
        rw [show rl.getD j 0 = (q : Int) by simp [hlj, hq1]] at q0
        have hget := run_get_i hae q
        rw [hq2, Option.getD_some] at hget
        simp only [encI] at hget
        have HT := hid (show (rl.take (j + 1)).map (fun x => hgt code a x.toNat) = xs ++ [hgt code a q] from by
          rw [List.take_succ_eq_append_getElem hlj, List.map_append, ← HX.out, hq1]
          simp only [List.map_cons, List.map_nil, Int.toNat_natCast])
        obtain ⟨y, hy⟩ : ∃ y, hgt code a q = y := ⟨_, rfl⟩
        rw [hy] at hget HT
        have hA : xs.length + [y].length ≤ 1000000000 := by simp only [List.length_singleton]; omega
        have HA10 := hid hA
        have HB10 := hid (show w7.heap.size ≤ (wr.alloc (.cells #[.int .i64 y] 3)).heap.size by simp only [World.size_alloc]; omega)
        clear hcs hae hq1 hq2 hy hA
        go_wp2_with (at_builtin; refine app_ints _ rfl _ _ rfl w7.heap.size xs [y] _ rfl (HOx.out.alloc _) _ _ _ rfl rfl (SrcAt.at_ _ [y] #[.int .i64 y] _ 1 rfl (by simp) rfl) HA10.out HB10.out ?_)
        intro v2 w8 hg8
        have HO8 := hid hg8.own
        have HB8 := hid ((HBx.out.alloc HBx.out.size (.cells #[.int .i64 y] 3)).trans hg8.bel)
        obtain ⟨s8, c8, rfl⟩ := own_slice hg8.own
        clear hg8 hget q0
        go_wp2_with fail
        go_roundw
        case rel => exact ⟨j + 1, xs ++ [y], by go_num, by omega, ⟨HT.out.symm, HO8.out, HB8.out⟩⟩
        case measure => simp [intOf]; omega
      · obtain rfl : j = rl.length := by omega
        have HX2 := HX.out
        rw [List.take_length] at HX2
        clear hrd hae
        go_wp2_with fail
        go_ret2
        rw [HYes.out, HRl.out]
        refine ⟨_, rfl, ?_, HB7.out.trans (HBx.out.mono hz7)⟩
        simp only [Option.getD_some]
        rw [← HX2]
        exact own_mono HOx.out hz7
end Go.Proofs.YtihhpgklpichgaaGreat.Wk
/- routine, routineOf, HeightsOf of the program and of the model. -/
namespace Go.Proofs.YtihhpgklpichgaaGreat.Wk
open Go.RowKit Pl Ft Mm In C2 Im Sw Gp

theorem size_rt : (Tryz.prog.info? 77).map (·.size) = some 3 := by kernel_rfl
def RtPost (code : List Int) (gw a : Nat) (w : World) (e : Ending) (w' : World) : Prop :=
  ∃ sv cv, e = .returned (.agg #[.pointer (some ⟨gw, 0, none⟩), .int .i64 a, .slice sv (reachL code [(a : Int)] false).length cv]) ∧ w'.ownsRow w.heap.size 3 1 (.slice sv (reachL code [(a : Int)] false).length cv) (reachL code [(a : Int)] false).length (ints (reachL code [(a : Int)] false)) ∧ Below w.heap.size w w'
set_option maxRecDepth 100000 in
set_option maxHeartbeats 4000000 in
theorem routine_c (code : List Int) (ac : Option Addr) (cc : Nat) (lb : Value) (gw gm a : Nat) (sl : Option Addr) (fn cl : Nat) (ms0 : List Nat) (w : World) (hr : Rd w (.slice ac code.length cc) code) (hcap : code.length ≤ cc) (hby : code.all isByte = true) (hlen : code.length ≤ 2000) (hat : a ≤ 2000)
    (hw : Row w gw 88 #[.slice ac code.length cc, .map (some gm), lb]) (hm : MapAt w gm code ms0) (hms0 : ∀ p, Rc (Gm code false) [(a : Int)] p → (p ∈ ms0 ↔ (readP code p).isSome = true)) :
    Calls Tryz.prog 77 #[.agg #[.pointer (some ⟨gw, 0, none⟩), .slice sl fn cl], .int .i64 a] w (RtPost code gw a w) := by
  have HRd := hid hr
  have HBy := hid hby
  have HMs := hid hms0
  unfold RtPost
  obtain ⟨rl, hrl⟩ : ∃ l, reachL code [(a : Int)] false = l := ⟨_, rfl⟩
  rw [hrl]
  have HRl := hid hrl
  obtain ⟨w1, hw1, hr1, hb1, hz1⟩ := new_ex w 59 #[.pointer (some ⟨gw, 0, none⟩), .slice sl fn cl]
  obtain ⟨w2, hw2, hr2, hb2, hz2⟩ := new_ex w1 77 #[.pointer none, .int .i64 0, .slice none 0 0]
  have HB2 := hid (hb1.trans (hb2.mono (Nat.le_of_lt hz1)))
  have HF2 := hid (hr1.on hb2)
  have HR2 := hid hr2
  have HW2 := hid (hw.on HB2.out)
  have HM2 := hid (show MapAt w2 gm code ms0 from hm.on HB2.out)
  have HZ := hid (show w.heap.size < w1.heap.size ∧ w1.heap.size < w2.heap.size from ⟨hz1, hz2⟩)
  have y0 := HF2.out.cell 0
  simp at y0
  clear hr hby hw hm hms0 hr1 hb1 hr2 hb2 hrl
  go_enter Tryz.func77, Tryz.ntmps77
  go_upto_region 1 with fail
  try rw [hw1]
  try rw [hw2]
  clear hw1 hw2
  obtain ⟨g1, hg1⟩ : ∃ g, w1.heap.size = g := ⟨_, rfl⟩
  rw [hg1] at HR2 HZ
  try rw [hg1]
  clear hz1 hz2 hg1
  go_region_with (go_at_call 57; refine (body_c code ac cc lb gw gm a ms0 _ (HRd.out.on (HB2.out.trans (((Below.refl w2.heap.size w2).drew).mono HB2.out.size))) hcap HBy.out hlen hat HW2.out.drew (show MapAt w2.drew gm code ms0 from HM2.out) HMs.out).mono ?_; rintro e w3 ⟨v3, rfl, hown3, hb3⟩; rw [HRl.out] at hown3; have HO3 := hid hown3; have HB3 := hid (((Below.refl w2.heap.size w2).drew).trans hb3); have HF3 := hid (HF2.out.on HB3.out); have HR3 := hid (HR2.out.on HB3.out); have z0 := HF3.out.cell 0; have rf := HR3.out.free; have q0 := HR3.out.cell 0; have q1 := HR3.out.cell 1; have q2 := HR3.out.cell 2; simp at z0 q0 q1 q2; obtain ⟨s3, c3, rfl⟩ := own_slice hown3; clear hown3 hb3)
  all_goals
    go_wp2_with fail
    refine bodyPost_ret (v := .agg #[.pointer (some ⟨gw, 0, none⟩), .int .i64 a, .slice s3 rl.length c3]) ?_ rfl ?_
    · exact results_cell_row Tryz.results77 _ _ g1 77 #[.pointer (some ⟨gw, 0, none⟩), .int .i64 a, .slice s3 rl.length c3] (0, 0) _ rfl (((HR3.out.set 0 (.pointer (some ⟨gw, 0, none⟩))).set 1 (.int .i64 a)).set 2 (.slice s3 rl.length c3)) Tryz.underlying77 rfl size_rt
    have hz3 := HB3.out.size
    have hne : ∀ b, (Value.slice s3 rl.length c3).ownBlock = some b → b ≠ g1 := fun b hb => by have h1 := (HO3.out.lt b hb).1; have h2 := HZ.out.2; have h3 : w2.drew.heap.size = w2.heap.size := rfl; omega
    have hbb : w.heap.size ≤ g1 := by have := HZ.out; omega
    exact ⟨_, _, rfl, own_mono (own_far (own_far (own_far HO3.out (p := ⟨g1, 0, none⟩) hne _) (p := ⟨g1, 1, none⟩) hne _) (p := ⟨g1, 2, none⟩) hne _) (by have := HZ.out; have h3 : w2.drew.heap.size = w2.heap.size := rfl; omega), (((HB2.out.trans (HB3.out.mono HB2.out.size)).setCell (p := ⟨g1, 0, none⟩) hbb _).setCell (p := ⟨g1, 1, none⟩) hbb _).setCell (p := ⟨g1, 2, none⟩) hbb _⟩
/-- A function of a sound image. -/
noncomputable def isSf (m : Img) (x : Int) : Bool := isFunP m x && !(lostG m.code (Gw m.code) [m.entry])
def RoNo (w : World) (e : Ending) (w' : World) : Prop := e = .returned (.tuple #[.agg #[.pointer none, .int .i64 0, .slice none 0 0], .bool false]) ∧ Below w.heap.size w w'
def RoYes (m : Img) (vc : Value) (a : Nat) (w : World) (e : Ending) (w' : World) : Prop :=
  ∃ (gw gm : Nat) (ms : List Nat) (b : Bool) (sv : Option Addr) (cv : Nat), e = .returned (.tuple #[.agg #[.pointer (some ⟨gw, 0, none⟩), .int .i64 a, .slice sv (reachL m.code [(a : Int)] false).length cv], .bool true]) ∧ Row w' gw 88 #[vc, .map (some gm), .bool b] ∧ MapAt w' gm m.code (insOf m.code ms) ∧ (∀ p, p ∈ ms ↔ Rc (Gw m.code) [m.entry] p) ∧
    Rd w' (.slice sv (reachL m.code [(a : Int)] false).length cv) (reachL m.code [(a : Int)] false) ∧ Below w.heap.size w w'
theorem sf_snd {m : Img} {a : Nat} (h : isSf m a = true) : imageOk m = true ∧ (a : Int) ∈ funsL m ∧ lostG m.code (Gw m.code) [m.entry] = false ∧ Snd m.code a ∧ a < m.code.length := by
  unfold isSf isFunP at h
  have h1 := (Bool.and_eq_true_iff.1 (Bool.and_eq_true_iff.1 h).1)
  have hl : lostG m.code (Gw m.code) [m.entry] = false := by simpa using (Bool.and_eq_true_iff.1 h).2
  have hx : (a : Int) ∈ funsL m := of_decide_eq_true h1.2
  obtain ⟨p, hp, hpl, hrc⟩ := funs_rc h1.1 hx
  obtain rfl : a = p := by omega
  have hbd := imageOk_bd h1.1
  refine ⟨h1.1, hx, hl, ⟨fun q hq => ?_, fun q r hr => ?_⟩, hpl⟩
  · have hq2 := rc_sub hrc hq
    cases hr : readP m.code q with
    | some i => rfl
    | none =>
      have : lostG m.code (Gw m.code) [m.entry] = true := by
        unfold lostG
        exact pdec_yes ⟨q, (Rc.congr (fun p q => gm_gw)).1 hq2, by unfold badAt; rw [hr]⟩
      rw [hl] at this
      cases this
  · have h0 := gm_bd hbd.cb hbd.c1 false (S := []) (fun q hq => by cases hq)
    cases hi : readP m.code q with
    | none => unfold Gm at hr; rw [hi] at hr; cases hr
    | some i => exact (h0.bd q (by have := (readP_facts hi).1; have := hbd.c1; omega) r hr).1
set_option maxRecDepth 100000 in
set_option maxHeartbeats 4000000 in
theorem routineOf_no (m : Img) (vc vd vn : Value) (x : Int) (w : World) (h : ICells w vc vd vn m) (hs : Sm m) (hcc : ∀ a n c, vc = .slice a n c → n ≤ c) (hf : isSf m x = false) :
    Calls Tryz.prog 69 #[imgVal vc vd vn m, .int .i64 x] w (RoNo w) := by
  obtain ⟨ac, cc, rfl⟩ := rd_slice h.c
  obtain ⟨ad, cd, rfl⟩ := rd_slice h.d
  obtain ⟨an, cn, rfl⟩ := nrd_slice h.n
  have HI := hid h
  have HS := hid hs
  have HCap := hid hcc
  have HF := hid hf
  clear h hs hcc hf
  have hV : imgVal (.slice ac m.code.length cc) (.slice ad m.data.length cd) (.slice an m.names.length cn) m = .agg #[.slice ac m.code.length cc, .int .i64 m.entry, .int .i64 m.room, .slice ad m.data.length cd, .slice an m.names.length cn] := rfl
  have HV := hid hV
  rw [hV]
  clear hV
  obtain ⟨w0, hw0, hr0, hb0, hz0⟩ := new_ex w 30 #[.slice ac m.code.length cc, .int .i64 m.entry, .int .i64 m.room, .slice ad m.data.length cd, .slice an m.names.length cn]
  obtain ⟨w1, hw1, hr1, hb1, hz1⟩ := new_ex w0 77 #[.pointer none, .int .i64 0, .slice none 0 0]
  have HB1 := hid (hb0.trans (hb1.mono (Nat.le_of_lt hz0)))
  have HR1 := hid hr1
  have HX1 := hid (hr0.on hb1)
  have x0 := HX1.out.cell 0
  have x1 := HX1.out.cell 1
  have x2 := HX1.out.cell 2
  have x3 := HX1.out.cell 3
  have x4 := HX1.out.cell 4
  simp at x0 x1 x2 x3 x4
  clear hr0 hb0 hr1 hb1
  go_enter Tryz.func69, Tryz.ntmps69
  go_wp2_with fail
  try clear hw0 hw1
  obtain ⟨g1, hg1⟩ : ∃ g, w0.heap.size = g := ⟨_, rfl⟩
  have HG := hid (show w.heap.size < g1 ∧ g1 < w1.heap.size by omega)
  rw [hg1] at HR1
  try rw [hg1]
  clear hg1 hz0 hz1 x0 x1 x2 x3 x4
  rw [← HV.out]
  cases h1 : isFunP m x
  · refine (funsWith_no m _ _ _ x w1 (HI.out.on HB1.out) HS.out HCap.out h1).mono ?_
    rintro e w2 ⟨rfl, hb2⟩
    clear h1
    have HB3 := hid (HB1.out.trans (hb2.mono HB1.out.size))
    have HR3 := hid (HR1.out.on hb2)
    have hlt2 := HR3.out.lt
    have z0 := HR3.out.cell 0
    have z1 := HR3.out.cell 1
    have z2 := HR3.out.cell 2
    have hf := HR3.out.free
    simp at z0 z1 z2
    clear hb2
    go_wp2_with fail
    clear z0 z1 z2 hf
    refine bodyPost_ret (v := .tuple #[.agg #[.pointer none, .int .i64 0, .slice none 0 0], .bool false]) ?_ rfl ?_
    · exact res_cell_tmp Tryz.results69 _ _ g1 #[.pointer none, .int .i64 0, .slice none 0 0] _ rfl ((((HR3.out.set 0 (.pointer none)).set 1 (.int .i64 0)).set 2 (.slice none 0 0)).alloc (.cells #[.pointer none, .slice none 0 0] 59)) Tryz.underlying77 size_rt
    have hg := HG.out
    exact ⟨rfl, (((HB3.out.setCell (p := ⟨g1, 0, none⟩) (by simp only; omega) _).setCell (p := ⟨g1, 1, none⟩) (by simp only; omega) _).setCell (p := ⟨g1, 2, none⟩) (by simp only; omega) _).alloc (by simp [World.setCell]; exact HB3.out.size) _⟩
  · have h2 : imageOk m = true := by unfold isFunP at h1; exact (Bool.and_eq_true_iff.1 h1).1
    have hx : x ∈ funsL m := by unfold isFunP at h1; exact of_decide_eq_true (Bool.and_eq_true_iff.1 h1).2
    have hl : lostG m.code (Gw m.code) [m.entry] = true := by have := HF.out; unfold isSf at this; rw [h1] at this; simpa using this
    refine (funsWith_yes m _ _ _ x w1 (HI.out.on HB1.out) HS.out HCap.out h2 hx).mono ?_
    rintro e w2 ⟨gw, gm, ms, vl, rfl, hrow, hmap, hmem, ⟨sl, cl, rfl⟩, hb2⟩
    rw [lostIn_eq hmem, hl] at hrow
    obtain ⟨fn, hfn⟩ : ∃ k, (funsL m).length = k := ⟨_, rfl⟩
    rw [hfn]
    obtain ⟨w3, hw3, hr3, hb3, _⟩ := new_ex w2 59 #[.pointer (some ⟨gw, 0, none⟩), .slice sl fn cl]
    have HB3 := hid (HB1.out.trans ((hb2.trans (hb3.mono hb2.size)).mono HB1.out.size))
    have HR3 := hid (HR1.out.on (hb2.trans (hb3.mono hb2.size)))
    have HRow := hid (hrow.on hb3)
    have y0 := hr3.cell 0
    have l2 := HRow.out.cell 2
    have z0 := HR3.out.cell 0
    have z1 := HR3.out.cell 1
    have z2 := HR3.out.cell 2
    have hf := HR3.out.free
    simp at y0 l2 z0 z1 z2
    clear hb2 hb3 hr3 h1 h2 hx hl hrow hmap hmem hfn
    go_wp2_with fail
    clear z0 z1 z2 hf y0 l2
    refine bodyPost_ret (v := .tuple #[.agg #[.pointer none, .int .i64 0, .slice none 0 0], .bool false]) ?_ rfl ?_
    · exact res_cell_tmp Tryz.results69 _ _ g1 #[.pointer none, .int .i64 0, .slice none 0 0] _ rfl (((HR3.out.set 0 (.pointer none)).set 1 (.int .i64 0)).set 2 (.slice none 0 0)) Tryz.underlying77 size_rt
    have hg := HG.out
    exact ⟨rfl, ((HB3.out.setCell (p := ⟨g1, 0, none⟩) (by simp only; omega) _).setCell (p := ⟨g1, 1, none⟩) (by simp only; omega) _).setCell (p := ⟨g1, 2, none⟩) (by simp only; omega) _⟩
set_option maxRecDepth 100000 in
set_option maxHeartbeats 4000000 in
theorem routineOf_yes (m : Img) (vc vd vn : Value) (a : Nat) (w : World) (h : ICells w vc vd vn m) (hs : Sm m) (hcc : ∀ a n c, vc = .slice a n c → n ≤ c) (hf : isSf m a = true) :
    Calls Tryz.prog 69 #[imgVal vc vd vn m, .int .i64 a] w (RoYes m vc a w) := by
  obtain ⟨ac, cc, rfl⟩ := rd_slice h.c
  obtain ⟨ad, cd, rfl⟩ := rd_slice h.d
  obtain ⟨an, cn, rfl⟩ := nrd_slice h.n
  have HI := hid h
  have HS := hid hs
  have HCap := hid hcc
  have HSf := hid (sf_snd hf)
  obtain ⟨h1, hx, hl, _, hal⟩ := sf_snd hf
  have HBd := hid (imageOk_bd h1)
  have hl2 := HBd.out.c1
  have hcl : m.code.length ≤ cc := HCap.out _ _ _ rfl
  obtain ⟨p, hp, _, hrc⟩ := funs_rc h1 hx
  obtain rfl : a = p := by omega
  have HRc := hid hrc
  clear h hs hcc hf hp hrc
  have hV : imgVal (.slice ac m.code.length cc) (.slice ad m.data.length cd) (.slice an m.names.length cn) m = .agg #[.slice ac m.code.length cc, .int .i64 m.entry, .int .i64 m.room, .slice ad m.data.length cd, .slice an m.names.length cn] := rfl
  have HV := hid hV
  rw [hV]
  clear hV
  obtain ⟨w0, hw0, hr0, hb0, hz0⟩ := new_ex w 30 #[.slice ac m.code.length cc, .int .i64 m.entry, .int .i64 m.room, .slice ad m.data.length cd, .slice an m.names.length cn]
  obtain ⟨w1, hw1, hr1, hb1, hz1⟩ := new_ex w0 77 #[.pointer none, .int .i64 0, .slice none 0 0]
  have HB1 := hid (hb0.trans (hb1.mono (Nat.le_of_lt hz0)))
  have HR1 := hid hr1
  have HX1 := hid (hr0.on hb1)
  have x0 := HX1.out.cell 0
  have x1 := HX1.out.cell 1
  have x2 := HX1.out.cell 2
  have x3 := HX1.out.cell 3
  have x4 := HX1.out.cell 4
  simp at x0 x1 x2 x3 x4
  clear hr0 hb0 hr1 hb1
  go_enter Tryz.func69, Tryz.ntmps69
  go_wp2_with fail
  try clear hw0 hw1
  obtain ⟨g1, hg1⟩ : ∃ g, w0.heap.size = g := ⟨_, rfl⟩
  have HG := hid (show w.heap.size < g1 ∧ g1 < w1.heap.size by omega)
  rw [hg1] at HR1
  try rw [hg1]
  clear hg1 hz0 hz1 x0 x1 x2 x3 x4
  rw [← HV.out]
  refine (funsWith_yes m _ _ _ a w1 (HI.out.on HB1.out) HS.out HCap.out h1 hx).mono ?_
  rintro e w2 ⟨gw, gm, ms, vl, rfl, hrow, hmap, hmem, ⟨sl, cl, rfl⟩, hb2⟩
  rw [lostIn_eq hmem, hl] at hrow
  obtain ⟨fn, hfn⟩ : ∃ k, (funsL m).length = k := ⟨_, rfl⟩
  rw [hfn]
  obtain ⟨w3, hw3, hr3, hb3, _⟩ := new_ex w2 59 #[.pointer (some ⟨gw, 0, none⟩), .slice sl fn cl]
  have HB3 := hid (HB1.out.trans ((hb2.trans (hb3.mono hb2.size)).mono HB1.out.size))
  have HR3 := hid (HR1.out.on (hb2.trans (hb3.mono hb2.size)))
  have HRow := hid (hrow.on hb3)
  have HMap := hid (hmap.on hb3)
  have HMem := hid hmem
  have HIn := hid (show ∀ q, Rc (Gm m.code false) [(a : Int)] q → (q ∈ insOf m.code ms ↔ (readP m.code q).isSome = true) from fun q hq => by
    rw [mem_insOf]
    exact ⟨fun h => h.2, fun h => ⟨(gw_gm hmem q).2 (rc_sub HRc.out hq), h⟩⟩)
  have y0 := hr3.cell 0
  have y1 := hr3.cell 1
  have l2 := HRow.out.cell 2
  simp at y0 y1 l2
  clear hb2 hb3 hr3 h1 hx hl hrow hmap hmem hfn
  go_wp2_with fail
  clear y0 y1 l2
  refine (routine_c m.code ac cc _ gw gm a sl fn cl (insOf m.code ms) w3 (HI.out.on HB3.out).c hcl HBd.out.cb hl2 (by omega) HRow.out HMap.out HIn.out).mono ?_
  rintro e w4 ⟨sv, cv, rfl, hown4, hb4⟩
  obtain ⟨rl, hrl⟩ : ∃ l, reachL m.code [(a : Int)] false = l := ⟨_, rfl⟩
  rw [hrl] at hown4 ⊢
  have HRl := hid hrl
  have HO4 := hid hown4
  have HB4 := hid (HB3.out.trans (hb4.mono HB3.out.size))
  have HR4 := hid (HR3.out.on hb4)
  have HRow4 := hid (HRow.out.on hb4)
  have HMap4 := hid (HMap.out.on hb4)
  have z0 := HR4.out.cell 0
  have z1 := HR4.out.cell 1
  have z2 := HR4.out.cell 2
  have hf := HR4.out.free
  have hlt3 := HR3.out.lt
  simp at z0 z1 z2
  clear hown4 hb4 hrl
  go_wp2_with fail
  clear z0 z1 z2 hf
  refine bodyPost_ret (v := .tuple #[.agg #[.pointer (some ⟨gw, 0, none⟩), .int .i64 a, .slice sv rl.length cv], .bool true]) ?_ rfl ?_
  · exact res_cell_tmp Tryz.results69 _ _ g1 #[.pointer (some ⟨gw, 0, none⟩), .int .i64 a, .slice sv rl.length cv] _ rfl (((HR4.out.set 0 (.pointer (some ⟨gw, 0, none⟩))).set 1 (.int .i64 a)).set 2 (.slice sv rl.length cv)) Tryz.underlying77 size_rt
  have hne : gw ≠ g1 := fun h => by
    have h1 := HRow4.out
    rw [h] at h1
    have := h1.symm.trans HR4.out
    simp at this
  have hnm : gm ≠ g1 := fun h => by
    have h1 := HMap4.out
    unfold MapAt at h1
    rw [h] at h1
    have := h1.symm.trans HR4.out
    simp at this
  have hno : ∀ b, (Value.slice sv rl.length cv).ownBlock = some b → b ≠ g1 := fun b hb => by have := (HO4.out.lt b hb).1; omega
  have hg := HG.out
  unfold RoYes
  rw [HRl.out]
  exact ⟨gw, gm, ms, _, sv, cv, rfl, ((HRow4.out.far hne _).far hne _).far hne _, ((HMap4.out.set (by simpa using hnm) _).set (by simpa using hnm) _).set (by simpa using hnm) _, HMem.out, Rd.of_own (own_far (own_far (own_far HO4.out (p := ⟨g1, 0, none⟩) hno _) (p := ⟨g1, 1, none⟩) hno _) (p := ⟨g1, 2, none⟩) hno _), ((HB4.out.setCell (p := ⟨g1, 0, none⟩) (by simp only; omega) _).setCell (p := ⟨g1, 1, none⟩) (by simp only; omega) _).setCell (p := ⟨g1, 2, none⟩) (by simp only; omega) _⟩
end Go.Proofs.YtihhpgklpichgaaGreat.Wk
/- Heights of the model: heights. -/
namespace Go.Proofs.YtihhpgklpichgaaGreat.Wk
open Go.RowKit Pl Ft Mm In C2 Im Sw Gp

set_option maxRecDepth 100000 in
set_option maxHeartbeats 8000000 in
theorem sHeights_c (code : List Int) (a : Nat) (ac : Option Addr) (cc : Nat) (w : World) (hr : Rd w (.slice ac code.length cc) code) (hb : code.all isByte = true) (hlen : code.length ≤ 2000) (hal : a < code.length) (hS : Snd code a) :
    Calls Tryz.prog 72 #[.slice ac code.length cc, .int .i64 a] w (TabPost (heightsO code a) w) := by
  have HRd := hid hr
  have HBy := hid hb
  have HSn := hid hS
  obtain ⟨i0, hi, hz0, hz1, hz2⟩ := info_parts info_int2
  have H0 := hid hz0
  have H1 := hid hz1
  have H2 := hid hz2
  have HI := hid hi
  clear hz0 hz1 hz2 hi hr hb hS
  have HB1 := hid ((Below.refl w.heap.size w).alloc (Nat.le_refl _) (.cells #[.int .i64 a] 3))
  have HRs := hid (Rd.of_own (own_lit w [(a : Int)] #[.int .i64 a] rfl (by simp) 1 rfl))
  go_enter Tryz.func72, Tryz.ntmps72
  go_wp2_with fail
  refine (walk_c code [(a : Int)] false ac _ cc _ _ (HRd.out.on HB1.out) HRs.out HBy.out hlen (by omega) (fun q hq => by obtain rfl : q = (a : Int) := (by simpa using hq); omega) (by simp)).mono ?_
  rintro e w1 ⟨v1, ms, rfl, hown1, hms, hb1⟩
  have HB2 := hid (HB1.out.trans (hb1.mono HB1.out.size))
  rw [trues_reach hms] at hown1
  obtain ⟨rl, hrl⟩ : ∃ l, reachL code [(a : Int)] false = l := ⟨_, rfl⟩
  rw [hrl] at hown1
  have HRl := hid hrl
  have hrlen : rl.length ≤ 2000 := by rw [← hrl]; have := reachL_len code [(a : Int)] false; omega
  have HO1 := hid (own_mono (base' := w.heap.size) hown1 HB1.out.size)
  obtain ⟨s1, c1, rfl⟩ := own_slice hown1
  obtain ⟨lo, hlo⟩ : ∃ b, lostIn code ms = b := ⟨_, rfl⟩
  rw [hlo]
  clear hown1 hb1 hrl hms hlo
  have hz1 := HB2.out.size
  go_wp2_with (refine wpList_make_full _ rfl _ _ 22 rfl w1.heap.size 3 i0 (.int .i64 0) 1 Tryz.underlying22 HI.out H0.out H1.out .i64 .i64 _ _ code.length rfl rfl rfl rfl (by rw [H2.out]; omega) (by simp only [maxLen]; omega) (Nat.le_refl _) ?_; intro w2 hown2 hg2)
  rw [made_ints] at hown2
  obtain ⟨g0, c0, he0, hg0, hat⟩ := NAt.of_own (f := fun _ => 0) hown2 (by omega)
  simp only [Value.slice.injEq, Option.some.injEq, Addr.mk.injEq, true_and, and_true] at he0
  obtain ⟨rfl, -⟩ := he0
  have hbg := (Below.refl w1.heap.size w1).grown hg2 (Nat.le_refl _) (by simp)
  have HB3 := hid (HB2.out.trans (hbg.mono hz1))
  have HO3 := hid (own_on HO1.out hbg)
  have HAt := hid hat
  obtain ⟨g, hgg⟩ : ∃ g, w1.heap.size = g := ⟨_, rfl⟩
  rw [hgg] at HAt
  try rw [hgg]
  have HG := hid (show w.heap.size ≤ g by omega)
  have HNo := hid (fun b (hb : (Value.slice s1 rl.length c1).ownBlock = some b) => show b ≠ g from fun h => by have := (HO1.out.lt b hb).2; omega)
  clear hown2 hg2 hbg hat hgg hg0
  go_wp2_with fail
  go_loopw [9] (fun c wr => ∃ (k : Nat), c = .int .i64 k ∧ k ≤ code.length ∧ NAt wr g code.length (fun q => if q < k then -1 else 0) ∧ Below w.heap.size w wr ∧ wr.ownsRow w.heap.size 3 1 (.slice s1 rl.length c1) rl.length (ints rl)) (fun c _ => code.length - (intOf c).toNat)
  case atStart => exact ⟨0, rfl, by omega, by simpa using HAt.out, HB3.out, HO3.out⟩
  case round =>
    obtain ⟨k, rfl, hk, hat, hbw, hown⟩ := hrel
    have HAk := hid hat
    have HBk := hid hbw
    have HOk := hid hown
    clear hat hbw hown
    by_cases hlt : k < code.length
    · have q0 := HAk.out.cell hlt
      have qf := HAk.out.free k
      go_wp2_with fail
      go_roundw
      case rel => exact ⟨k + 1, by go_num, by omega, by
          obtain ⟨cur, hcr, hcs⟩ := HAk.out.set hlt (-1)
          refine ⟨cur, hcr, fun j hj => ?_⟩
          rw [hcs j hj]
          show some (Value.int .i64 (if j = k then -1 else if j < k then -1 else 0)) = some (Value.int .i64 (if j < k + 1 then -1 else 0))
          by_cases e : j = k
          · subst e; simp
          · rw [if_neg e]
            by_cases h : j < k
            · rw [if_pos h, if_pos (by omega)]
            · rw [if_neg h, if_neg (by omega)], Below.setCell HBk.out (by simp only; exact HG.out) _, own_far HOk.out (fun b hb => HNo.out b hb) _⟩
      case measure => simp [intOf]; omega
    · obtain rfl : k = code.length := by omega
      have q0 := HAk.out.cell hal
      have qf := HAk.out.free a
      have HA4 := hid (show NAt (wr.setCell ⟨g, a, none⟩ (.int .i64 0)) g code.length (fun q => if q = a then 0 else -1) from by
        obtain ⟨cur, hcr, hcs⟩ := HAk.out.set hal 0
        refine ⟨cur, hcr, fun j hj => ?_⟩
        rw [hcs j hj]
        show some (Value.int .i64 (if j = a then 0 else if j < code.length then -1 else 0)) = some (Value.int .i64 (if j = a then 0 else -1))
        by_cases e : j = a
        · rw [if_pos e, if_pos e]
        · rw [if_neg e, if_neg e, if_pos hj])
      have HB4 := hid (Below.setCell HBk.out (p := ⟨g, a, none⟩) (by simp only; exact HG.out) (.int .i64 0))
      have HO4 := hid (own_far HOk.out (p := ⟨g, a, none⟩) (fun b hb => HNo.out b hb) (.int .i64 0))
      go_upto_region 8 with fail
      clear q0 qf
      generalize wr.setCell ⟨g, a, none⟩ (.int .i64 0) = w4 at HA4 HB4 HO4 ⊢
      have hz4 := HB4.out.size
      have hgl := HA4.out.lt
      have HL5 := hid (own_lit w4 [(a : Int)] #[.int .i64 a] rfl (by simp) 1 rfl)
      have HA5 := hid (HA4.out.on ((Below.refl w4.heap.size w4).alloc (Nat.le_refl _) (.cells #[.int .i64 a] 3)))
      have HB5 := hid (HB4.out.alloc hz4 (.cells #[.int .i64 a] 3))
      have HO5 := hid (HO4.out.alloc (.cells #[.int .i64 a] 3))
      go_wp2_with fail
      have HG4 := hid (show w.heap.size ≤ g ∧ g < w4.heap.size from ⟨HG.out, hgl⟩)
      go_loopw [10, 11] (fun v c wr => ∃ (line : List Nat) (k : Nat) (f : Nat → Int), c = .int .i64 k ∧ ShRel code a g w4 line k f v wr) (fun v c wr => 2001 - (intOf c).toNat)
      case atStart => exact ⟨[a], 0, _, rfl, ⟨BHt.begin hal, HL5.out, HA5.out, .of_below ((Below.refl w4.heap.size w4).alloc (Nat.le_refl _) (.cells #[.int .i64 a] 3)), by simp, fun q _ => by by_cases e : q = a <;> simp [e]⟩⟩
      case round =>
        obtain ⟨line, k, f, rfl, hrel⟩ := hrel
        obtain ⟨wo, rfl⟩ : ∃ y : World, y = wr := ⟨_, rfl⟩
        have HR := hid hrel
        have hle := hrel.le
        have hll : line.length ≤ 2000 := by
          have := nodup_le code.length line hrel.inv.nd (fun q hq => ((hrel.inv.ln q).1 hq).1)
          omega
        have HBw := hid (HB4.out.trans (hrel.only.below (B := w.heap.size) hz4 (fun b hb => by rw [hb]; exact HG4.out.1)))
        have HO := hid (own_only HO4.out (fun b hb => HNo.out b hb) hrel.only)
        have hzr := hrel.only.size
        by_cases hlt : k < line.length
        case neg =>
          obtain rfl : k = line.length := by omega
          have hend := hrel.inv.end_ (Nat.le_refl _)
          have HEnd := hid hend
          have HAr := hid hrel.at_
          obtain ⟨sv, cv, rfl⟩ := own_slice hrel.own
          have HFr := hid (show ∀ x ∈ rl, ∃ q : Nat, x = (q : Int) ∧ q < code.length ∧ f q = hgt code a q from fun x hx => by
            rw [← HRl.out] at hx
            obtain ⟨q, rfl, hrc, _⟩ := mem_rl.1 hx
            obtain ⟨y, hy⟩ := rc_hr HSn.out.rd hrc
            obtain ⟨h1, h2⟩ := HEnd.out.2 q y hy
            exact ⟨q, rfl, ((HR.out.inv.ln q).1 h1).1, by rw [h2, hgt_eq HEnd.out.1 hy]⟩)
          have HL6 := hid (own_lit wo [] #[] rfl (by simp) 0 rfl)
          have HB6 := hid ((Below.refl wo.heap.size wo).alloc (Nat.le_refl _) (.cells #[] 3))
          clear hrel hend
          go_wp2_with fail
          go_loopw [20, 21] (fun v c wq => ∃ (j : Nat) (xs : List Int), c = .int .i64 j ∧ j ≤ rl.length ∧ xs = (rl.take j).map (fun x => hgt code a x.toNat) ∧ wq.ownsRow wo.heap.size 3 1 v xs.length (ints xs) ∧ Below wo.heap.size wo wq) (fun _ c _ => rl.length - (intOf c).toNat)
          case atStart => exact ⟨0, [], rfl, by omega, rfl, HL6.out, HB6.out⟩
          case round =>
            obtain ⟨j, xs, rfl, hj, hxs, hown, hbel⟩ := hrel
            have HX := hid hxs
            have HOx := hid hown
            have HBx := hid hbel
            have hzx := hbel.size
            have hxl : xs.length ≤ j := by rw [hxs, List.length_map, List.length_take]; omega
            have hrd := (Rd.of_own HO.out).on hbel
            have hat := HAr.out.on hbel
            obtain ⟨sx, cx, rfl⟩ := own_slice hown
            clear hown hbel hxs
            by_cases hlj : j < rl.length
            · obtain ⟨q, hq1, hq2, hq3⟩ := HFr.out rl[j] (List.getElem_mem hlj)
              obtain ⟨_, _, he, hcs⟩ := hrd
              cases he
              rcases hcs with h | ⟨gr, o, rfl, hgr, hcs⟩
              · subst h; simp at hlj
              have q0 := hcs j hlj
              have hgd : rl.getD j 0 = (q : Int) := by simp [hlj, hq1]
              rw [hgd] at q0
              have q1 := hat.cell hq2
              have HT := hid (show (rl.take (j + 1)).map (fun x => hgt code a x.toNat) = xs ++ [f q] from by
                rw [List.take_succ_eq_append_getElem hlj, List.map_append, ← HX.out, hq1]
                simp only [List.map_cons, List.map_nil, Int.toNat_natCast, hq3])
              obtain ⟨y, hy⟩ : ∃ y, f q = y := ⟨_, rfl⟩
              rw [hy] at q1 HT
              clear hcs hgd hat hq1 hq3 hy
              have hA : xs.length + [y].length ≤ 1000000000 := by simp only [List.length_singleton]; omega
              have HA9 := hid hA
              have HB9 := hid (show wo.heap.size ≤ (wr.alloc (.cells #[.int .i64 y] 3)).heap.size by simp only [World.size_alloc]; omega)
              clear hA
              go_wp2_with (at_builtin; refine app_ints _ rfl _ _ rfl wo.heap.size xs [y] _ rfl (HOx.out.alloc _) _ _ _ rfl rfl (SrcAt.at_ _ [y] #[.int .i64 y] _ 1 rfl (by simp) rfl) HA9.out HB9.out ?_)
              intro v2 w2 hg2
              have HO2 := hid hg2.own
              have HB2 := hid ((HBx.out.alloc HBx.out.size (.cells #[.int .i64 y] 3)).trans hg2.bel)
              obtain ⟨s2, c2, rfl⟩ := own_slice hg2.own
              clear hg2
              go_wp2_with fail
              go_roundw
              case rel =>
                exact ⟨j + 1, xs ++ [y], by go_num, by omega, HT.out.symm, HO2.out, HB2.out⟩
              case measure => simp [intOf]; omega
            · obtain rfl : j = rl.length := by omega
              have HX2 := HX.out
              rw [List.take_length] at HX2
              clear hrd hat
              go_wp2_with fail
              go_ret2
              rw [heightsO_yes HEnd.out.1, HRl.out]
              refine ⟨_, rfl, ?_, HBw.out.trans (HBx.out.mono HBw.out.size)⟩
              simp only [Option.getD_some]
              rw [← HX2]
              exact own_mono HOx.out HBw.out.size
        obtain ⟨p, hp⟩ : ∃ p, line[k] = p := ⟨_, rfl⟩
        have hpm : p ∈ line := hp ▸ List.getElem_mem hlt
        have hHp := hrel.inv.hp hpm
        have hpl := ((hrel.inv.ln p).1 hpm).1
        have hf0 := ((hrel.inv.ln p).1 hpm).2
        have hf4 := (hrel.bd p hpl).2
        obtain ⟨g1, cap, rfl, hg1, hgl1⟩ := own_addr hrel.own (by omega)
        have HOL := hid hrel.own
        have HGne := hid (show g1 ≠ g from by omega)
        have HHp := hid hHp
        have HP := hid hp
        have HPm := hid hpm
        have HF4 := hid hf4
        have hci : (ints (natI line))[k]? = some (.int .i64 (p : Int)) := by rw [natI_get2 line k hlt, hp]
        have HCi := hid hci
        have hcell : wo.cell? ⟨g1, k, none⟩ = some (.int .i64 p) := by
          have h := HOL.out.cells (g := g1) rfl k _ hci
          rwa [addr_add] at h
        have hx := byte_at HBy.out p hpl
        have HEq := hid ((readP_in hpl).trans (insIn_eq code p hx.1 hx.2))
        clear hrel hp hpm hHp hf4 hci hx
        go_wp2_with fail
        refine (sRead_c code _ p _ (HRd.out.on HBw.out) HBy.out hlen hpl).mono ?_
        rintro e w5 ⟨⟨jop, ja, jb, jn⟩, rfl, hij, hb5⟩
        obtain ⟨i, hi⟩ := Option.isSome_iff_exists.1 (HSn.out.rd p HHp.out.rc)
        have hsi := HEq.out.symm.trans hi
        obtain rfl := hij i hsi
        rw [hsi]
        unfold IIns.val
        simp only [Option.isSome_some]
        have HI2 := hid hi
        have hf := readP_facts hi
        have HV := hid hf.2.1
        have hs1 := hf.2.2.1
        have hs5 := hf.2.2.2.1
        have hrb := rise_bd hf.2.1
        have HRB := hid hrb
        obtain ⟨up, hup⟩ : ∃ u, riseP ⟨jop, ja, jb, jn⟩ = u := ⟨_, rfl⟩
        obtain ⟨nd, hnd⟩ : ∃ u, needsP ⟨jop, ja, jb, jn⟩ = u := ⟨_, rfl⟩
        rw [hup, hnd] at hrb
        have HUp := hid hup
        have HNd := hid hnd
        obtain ⟨b1, b2, b3, b4⟩ := hrb
        obtain ⟨w6, hw6, hr6, hb6, hz6⟩ := new_ex w5 70 #[.int .i64 jop, .int .i64 ja, .int .i64 jb, .int .i64 jn]
        have HX6 := hid hr6
        have HB56 := hid (hb5.trans (hb6.mono hb5.size))
        have hzg : w4.heap.size ≤ w5.heap.size := by have := hb5.size; omega
        clear hi hsi hij hf hb5 hr6 hb6 hup hnd hcell
        go_upto_region 13 with fail
        clear hw6
        obtain ⟨gx, hgx⟩ : ∃ x, w5.heap.size = x := ⟨_, rfl⟩
        rw [hgx] at HX6 hzg
        try rw [hgx]
        have x0 := HX6.out.cell 0
        have x1 := HX6.out.cell 1
        have x2 := HX6.out.cell 2
        have x3 := HX6.out.cell 3
        simp at x0 x1 x2 x3
        clear hgx
        go_wp2_with fail
        refine (rises_c ⟨jop, ja, jb, jn⟩ HV.out (frame_n HV.out) w6).mono ?_
        rintro e w7 ⟨rfl, hb7⟩
        rw [HUp.out, HNd.out]
        have HX7 := hid (HX6.out.on hb7)
        have HB7 := hid (HB56.out.trans (hb7.mono HB56.out.size))
        have hcell : w7.cell? ⟨g1, k, none⟩ = some (.int .i64 p) := by
          have h := (own_on HOL.out HB7.out).cells (g := g1) rfl k _ HCi.out
          rwa [addr_add] at h
        have hch := (HR.out.at_.on HB7.out).cell hpl
        obtain ⟨y, hy⟩ : ∃ y, f p = y := ⟨_, rfl⟩
        rw [hy] at hch hf0 HF4
        have HY := hid hy
        have hf4 := HF4.out
        have x0 := HX7.out.cell 0
        simp at x0
        clear hb7 hy x1 x2 x3
        cases hm : mayP ⟨jop, ja, jb, jn⟩ y with
        | false =>
          have HNot := hid (heightsO_no (HR.out.inv.not HPm.out HI2.out (by rw [HY.out]; exact hm)))
          have HBE := hid (HBw.out.trans (HB7.out.mono HBw.out.size))
          unfold mayP at hm
          rw [HUp.out, HNd.out] at hm
          simp only at hm
          by_cases h1 : y < nd
          · go_wp2_with fail
            go_ret2
            rw [HNot.out]
            exact ⟨_, rfl, World.ownsRow_nil _ _ _ _, HBE.out⟩
          by_cases h2 : y + up > 40
          · go_wp2_with fail
            go_ret2
            rw [HNot.out]
            exact ⟨_, rfl, World.ownsRow_nil _ _ _ _, HBE.out⟩
          have h3 : jop = 1 ∧ y + up ≠ 0 := by
            rw [decide_eq_true (show nd ≤ y by omega), decide_eq_true (show y + up ≤ 40 by omega)] at hm
            simp at hm
            have hu := HUp.out
            rw [hm.1] at hu
            unfold riseP at hu
            simp at hu
            exact ⟨hm.1, by omega⟩
          obtain ⟨rfl, h4⟩ := h3
          have h5 : (y + up != 0) = true := by simpa using h4
          have hd1 : decide (y < nd) = false := decide_eq_false h1
          have hd2 : decide (40 < y + up) = false := decide_eq_false (by omega)
          go_wp2_with fail
          go_ret2
          rw [HNot.out]
          exact ⟨_, rfl, World.ownsRow_nil _ _ _ _, HBE.out⟩
        | true =>
          have HM := hid hm
          have hnn := rise_nn hm hf0 (fun h => (frame_n HV.out (.inr (.inr (.inl h)))).1)
          unfold mayP at hm
          rw [HUp.out, HNd.out] at hm
          rw [HUp.out] at hnn
          simp only [Bool.and_eq_true, decide_eq_true_eq] at hm
          have h1 : ¬ y < nd := by omega
          have h2 : ¬ y + up > 40 := by omega
          have h3 : jop = 1 → y + up = 0 := fun h => by
            have h4 := hm.2.2
            rw [h] at h4
            simp at h4
            have hu := HUp.out
            rw [h] at hu
            unfold riseP at hu
            simp at hu
            omega
          have H3 := hid h3
          have HNn := hid hnn
          have hG := show Gm code false p = nextsP code ⟨jop, ja, jb, jn⟩ (p + slong ⟨jop, ja, jb, jn⟩) from gm_off HI2.out
          obtain ⟨l6, hl6⟩ : ∃ l, Gm code false p = l := ⟨_, rfl⟩
          rw [hl6] at hG
          have HG6 := hid hl6
          have HGx := hid hG
          have hl9 : l6.length ≤ 9 := by rw [hG]; exact nextsP_len code _ _ (fun h => valid_b HV.out h)
          have HBd6 := hid (show ∀ t (h : t < l6.length), ∃ q : Nat, l6[t] = (q : Int) ∧ q < code.length ∧ (q : Int) ∈ Gm code false p from fun t h => by
            have hm1 : l6[t] ∈ Gm code false p := by rw [hl6]; exact List.getElem_mem h
            have h0 := HSn.out.nn p _ hm1
            obtain ⟨q, hq⟩ := Int.eq_ofNat_of_zero_le h0
            rw [hq] at hm1
            obtain ⟨j, hj⟩ := Option.isSome_iff_exists.1 (HSn.out.rd q (.step p q HHp.out.rc hm1))
            exact ⟨q, hq, (readP_facts hj).1, hm1⟩)
          have HY2 := hid (show Hr code a p y from by have := HHp.out; rwa [HY.out] at this)
          clear hm h3 hnn hl6 hG
          go_upto_region 15 with fail
          go_cut [96] (fun s96 wx => s96 = .bool false ∧ wx = w7)
          case first =>
            by_cases h1e : jop = 1
            · have H30 := hid (H3.out h1e)
              go_wp2_with fail
              go_meet
              exact ⟨congrArg Value.bool (by simp [H30.out]; have := H30.out; omega), rfl⟩
            · go_wp2_with fail
              go_meet
              exact ⟨congrArg Value.bool (by simp; omega), rfl⟩
          case rest =>
            obtain ⟨rfl, hwc⟩ := hcut
            obtain rfl : w7 = wc := hwc.symm
            clear x0 hch
            have x0 := HX7.out.cell 0
            have x1 := HX7.out.cell 1
            have x2 := HX7.out.cell 2
            have x3 := HX7.out.cell 3
            simp at x0 x1 x2 x3
            go_upto_region 17 with fail
            go_region_with (go_at_call 87; refine (nexts_c code _ p ⟨jop, ja, jb, jn⟩ _ ((HRd.out.on (HBw.out.trans (HB7.out.mono HBw.out.size))).on (Below.refl _ _).drew) HBy.out hlen (by omega) HV.out hs1 hs5).mono ?_; rintro e w8 ⟨v8, rfl, hown8, hb8⟩; rw [← HGx.out] at hown8; have HO8 := hid hown8; have HB8 := hid hb8; obtain ⟨s8, c8, rfl⟩ := own_slice hown8; clear hown8 hb8)
            all_goals
              have hb78 := ((Below.refl w7.heap.size w7).drew).trans HB8.out
              have HB78 := hid (HB7.out.trans (hb78.mono HB7.out.size))
              have hz78 := HB78.out.size
              have HO8b := hid (own_mono (base' := w4.heap.size) HO8.out (by have := hb78.size; have := HB7.out.size; simp only [World.drew]; omega))
              have HGe := hid (show ∀ b, (Value.slice s8 l6.length c8).ownBlock = some b → wo.heap.size ≤ b from fun b hb => by have := (HO8.out.lt b hb).1; simp only [World.drew] at this; have := HB7.out.size; omega)
              clear hb78 x0 x1 x2 x3
              go_wp2_with fail
              go_loopw [10, 19] (fun v c wq => ∃ (line' : List Nat) (t : Nat) (f' : Nat → Int), c = .int .i64 t ∧ ShIn code a g w4 line k p ⟨jop, ja, jb, jn⟩ f (.slice s8 l6.length c8) t line' f' v wq) (fun _ c _ => l6.length - (intOf c).toNat)
              case atStart => exact ⟨line, 0, f, rfl, ⟨HR.out.inv.next, own_on HOL.out HB78.out, HR.out.at_.on HB78.out, by rw [HG6.out]; exact HO8b.out, fun b hb h6 => by have := HGe.out b h6; have := (HOL.out.lt b hb).2; omega, HR.out.only.trans (.of_below HB78.out), by omega, HR.out.bd⟩⟩
              case round =>
                obtain ⟨line', t, f', rfl, hrel⟩ := hrel
                have HQ := hid hrel
                have htl := hrel.le
                rw [HG6.out] at htl
                have hll' : line'.length ≤ 2000 := by
                  have := nodup_le code.length line' hrel.inv.nd (fun q hq => ((hrel.inv.ln q).1 hq).1)
                  omega
                have HBq := hid (HB4.out.trans (hrel.only.below (B := w.heap.size) hz4 (fun b hb => by rw [hb]; exact HG4.out.1)))
                by_cases hlt' : t < l6.length
                case neg =>
                  obtain rfl : t = l6.length := by omega
                  obtain ⟨sv, cv, rfl⟩ := own_slice hrel.own
                  clear hrel
                  go_wp2_with fail
                  go_roundw
                  case rel => exact ⟨line', k + 1, f', by go_num, ⟨HQ.out.inv.done HR.out.inv hlt HP.out HI2.out (by rw [HY.out]; exact HM.out) (by rw [HG6.out]; exact Nat.le_refl _), HQ.out.own, HQ.out.at_, HQ.out.only, by obtain ⟨ex, he⟩ := HQ.out.inv.pre; rw [he, List.length_append]; omega, HQ.out.bd⟩⟩
                  case measure => simp [intOf]; omega
                obtain ⟨q, hq1, hq2, hq3⟩ := HBd6.out t hlt'
                have HQ1 := hid hq1
                have HQ3 := hid hq3
                have hqc := hrel.at_.cell hq2
                have hqf := hrel.at_.free q
                have h6 := Rd.of_own hrel.own6
                rw [HG6.out] at h6
                obtain ⟨_, _, he6, hcs6⟩ := h6
                cases he6
                rcases hcs6 with h | ⟨g6, o6, rfl, hg6, hcs6⟩
                · subst h; simp at hlt'
                have hnc := hcs6 t hlt'
                have hgd : l6.getD t 0 = (q : Int) := by simp [hlt', hq1]
                rw [hgd] at hnc
                have hbq := hrel.bd q hq2
                obtain ⟨z, hz⟩ : ∃ z, f' q = z := ⟨_, rfl⟩
                rw [hz] at hqc hbq
                have HZ := hid hz
                obtain ⟨gv, cv, rfl, hgv, hgvl⟩ := own_addr hrel.own (by obtain ⟨ex, he⟩ := hrel.inv.pre; rw [he, List.length_append]; omega)
                clear hrel hcs6 hgd hq1 hq3 hz
                by_cases h0 : 0 ≤ z
                · by_cases hez : z = y + up
                  · have hnb : (z == y + up) = true := by simpa using hez
                    have HEz := hid hez
                    clear hez
                    go_wp2_with fail
                    go_roundw
                    case rel => exact ⟨line', t + 1, f', by go_num, ⟨HQ.out.inv.same (by rw [HG6.out]; exact hlt') (by have h := HQ1.out; simp only [HG6.out]; exact h) hq2 (by rw [HZ.out]; exact h0) (by rw [HZ.out, HY.out, HUp.out]; exact HEz.out), HQ.out.own, HQ.out.at_, HQ.out.own6, HQ.out.ne, HQ.out.only, by rw [HG6.out]; omega, HQ.out.bd⟩⟩
                    case measure => simp [intOf]; omega
                  · have hnb : (z == y + up) = false := by simpa using hez
                    have HNot := hid (heightsO_no (HQ.out.inv.bad HHp.out HI2.out HQ3.out hq2 (by rw [HZ.out]; exact h0) (by rw [HZ.out, HY.out, HUp.out]; exact hez)))
                    clear hez
                    go_wp2_with fail
                    go_ret2
                    rw [HNot.out]
                    exact ⟨_, rfl, World.ownsRow_nil _ _ _ _, HBq.out⟩
                · have HN := hid (HQ.out.inv.new (f0 := f) HHp.out HI2.out (by rw [HG6.out]; exact hlt') (by have h := HQ1.out; simp only [HG6.out]; exact h) hq2 (by rw [HZ.out]; omega) (by rw [HY.out, HUp.out]; exact HNn.out))
                  have HA2 := hid (HQ.out.at_.set hq2 (y + up))
                  have HOv := hid (own_far HQ.out.own (p := ⟨g, q, none⟩) (fun b hb => by simp only [Value.ownBlock, Option.some.injEq] at hb; simp only; omega) (.int .i64 (y + up)))
                  have HO6 := hid (own_far HQ.out.own6 (p := ⟨g, q, none⟩) (fun b hb => by have := HGe.out b hb; have := HG4.out; simp only; omega) (.int .i64 (y + up)))
                  have HOn := hid (HQ.out.only.setCell (g := g) rfl q (.int .i64 (y + up)))
                  have hnc2 : (wr.setCell ⟨g, q, none⟩ (.int .i64 (y + up))).cell? ⟨g6, o6 + t, none⟩ = some (.int .i64 q) := by
                    rw [World.cell?_setCell_other wr ⟨g, q, none⟩ ⟨g6, o6 + t, none⟩ _ (fun e => by have h := congrArg Addr.block e; simp only at h; have := HGe.out g6 rfl; have := HG4.out; omega)]
                    exact hnc
                  go_upto_region 25 with fail
                  generalize wr.setCell ⟨g, q, none⟩ (.int .i64 (y + up)) = w9 at HA2 HOv HO6 HOn hnc2 ⊢
                  clear hqc hqf hnc
                  obtain ⟨lq, hlq⟩ : ∃ l, natI line' = l := ⟨_, rfl⟩
                  have HLq := hid hlq
                  rw [hlq] at HOv
                  have HLm2 := hid (show lq.length = line'.length by rw [← hlq, natI_len])
                  have hA : lq.length + [(q : Int)].length ≤ 1000000000 := by simp only [List.length_singleton]; have := HLm2.out; omega
                  have HA9 := hid hA
                  have HOv2 := hid (show w9.ownsRow w4.heap.size 3 1 (.slice (some ⟨gv, 0, none⟩) line'.length cv) lq.length (ints lq) from by rw [HLm2.out]; exact HOv.out)
                  have HB9 := hid (show w4.heap.size ≤ (w9.alloc (.cells #[.int .i64 q] 3)).heap.size by have := HOn.out.size; simp only [World.size_alloc]; omega)
                  clear hA hlq
                  go_wp2_with (at_builtin; refine app_ints _ rfl _ _ rfl w4.heap.size lq [(q : Int)] _ rfl (HOv2.out.alloc _) _ _ _ rfl rfl (SrcAt.at_ _ [(q : Int)] #[.int .i64 q] _ 1 rfl (by simp) rfl) HA9.out HB9.out ?_)
                  intro v10 w10 hg10
                  have hba := (Below.refl w9.heap.size w9).alloc (Nat.le_refl _) (.cells #[.int .i64 q] 3)
                  have hgo := grows_only hg10
                  have HA10 := hid ((HA2.out.on hba).only (fun h => by simp only [Value.ownBlock, Option.some.injEq] at h; have := HG4.out; omega) hgo)
                  have HO610 := hid (own_only (own_on HO6.out hba) (fun b hb h => HQ.out.ne b h hb) hgo)
                  have HOn10 := hid (only_mix (HOn.out.trans (.of_below hba)) hgo (fun b hb => .inr (by simp only [Value.ownBlock, Option.some.injEq] at hb; omega)))
                  have HNe10 := hid (show ∀ b, v10.ownBlock = some b → ¬ (Value.slice (some ⟨g6, o6, none⟩) l6.length c8).ownBlock = some b from fun b hb h6 => by
                    rcases hg10.at_ with h | ⟨g', h, h2⟩
                    · exact HQ.out.ne b (h.symm.trans hb) h6
                    · rw [h] at hb
                      cases hb
                      have := (HO6.out.lt _ h6).2
                      simp only [World.size_alloc] at h2
                      omega)
                  have hown10 := hg10.own
                  obtain ⟨l10, hl10⟩ : ∃ l, lq ++ [(q : Int)] = l := ⟨_, rfl⟩
                  rw [hl10] at hown10
                  have HL10 := hid hl10
                  have HO10 := hid hown10
                  obtain ⟨s10, c10, rfl⟩ := own_slice hown10
                  clear hg10 hba hgo hown10 hl10
                  go_wp2_with fail
                  go_roundw
                  case rel =>
                    refine ⟨line' ++ [q], t + 1, _, by go_num, ⟨HN.out, by rw [show natI (line' ++ [q]) = l10 by rw [natI_app, HLq.out, ← HL10.out]; rfl]; rw [show (line' ++ [q]).length = l10.length by rw [← HL10.out, List.length_append, List.length_append, HLm2.out]; rfl]; exact HO10.out, ?_, HO610.out, HNe10.out, HOn10.out, by rw [HG6.out]; omega, fun r hr => ?_⟩⟩
                    · have h := HA10.out
                      rw [← HY.out, ← HUp.out] at h
                      exact h
                    · have := HQ.out.bd r hr
                      have h1 := HNn.out
                      rw [HY.out, HUp.out]
                      by_cases e : r = q
                      · rw [if_pos e]; omega
                      · rw [if_neg e]; omega
                  case measure => simp [intOf]; omega
end Go.Proofs.YtihhpgklpichgaaGreat.Wk
/- HeightsOf of the program and of the model. -/
namespace Go.Proofs.YtihhpgklpichgaaGreat.Wk
open Go.RowKit Pl Ft Mm In C2 Im Sw Gp

noncomputable def heightsP (m : Img) (x : Int) : Option (List Int) := if isSf m x = true then heightsO m.code x.toNat else none
theorem heightsO_len (code : List Int) (a : Nat) : ((heightsO code a).getD []).length ≤ code.length := by
  unfold heightsO
  split
  · rw [Option.getD_some, List.length_map]; exact reachL_len _ _ _
  · simp
theorem heightsP_len (m : Img) (x : Int) : ((heightsP m x).getD []).length ≤ 1000000 := by
  unfold heightsP
  split
  · rename_i h
    have h1 : imageOk m = true := by unfold isSf isFunP at h; exact (Bool.and_eq_true_iff.1 (Bool.and_eq_true_iff.1 h).1).1
    have := heightsO_len m.code x.toNat
    have := (imageOk_bd h1).c1
    omega
  · simp
theorem sf_nat {m : Img} {x : Int} (h : isSf m x = true) : ∃ a : Nat, x = (a : Int) := by
  unfold isSf isFunP at h
  have h1 := (Bool.and_eq_true_iff.1 (Bool.and_eq_true_iff.1 h).1)
  obtain ⟨p, hp, _⟩ := funs_rc h1.1 (of_decide_eq_true h1.2)
  exact ⟨p, hp⟩
set_option maxRecDepth 100000 in
set_option maxHeartbeats 4000000 in
theorem heightsOf_c (m : Img) (vc vd vn : Value) (x : Int) (w : World) (h : ICells w vc vd vn m) (hs : Sm m) (hcc : ∀ a n c, vc = .slice a n c → n ≤ c) :
    Calls Tryz.prog 38 #[imgVal vc vd vn m, .int .i64 x] w (TabPost (heightsP m x) w) := by
  obtain ⟨ac, cc, rfl⟩ := rd_slice h.c
  obtain ⟨ad, cd, rfl⟩ := rd_slice h.d
  obtain ⟨an, cn, rfl⟩ := nrd_slice h.n
  have HI := hid h
  have HS := hid hs
  have HCap := hid hcc
  clear h hs hcc
  have hV : imgVal (.slice ac m.code.length cc) (.slice ad m.data.length cd) (.slice an m.names.length cn) m = .agg #[.slice ac m.code.length cc, .int .i64 m.entry, .int .i64 m.room, .slice ad m.data.length cd, .slice an m.names.length cn] := rfl
  have HV := hid hV
  rw [hV]
  clear hV
  have HB1 := hid ((Below.refl w.heap.size w).alloc (Nat.le_refl _) (.cells #[.slice ac m.code.length cc, .int .i64 m.entry, .int .i64 m.room, .slice ad m.data.length cd, .slice an m.names.length cn] 30))
  obtain ⟨o, ho⟩ : ∃ o, heightsP m x = o := ⟨_, rfl⟩
  have HO := hid ho
  rw [ho]
  clear ho
  go_enter Tryz.func38, Tryz.ntmps38
  go_wp2_with fail
  generalize w.alloc (.cells #[.slice ac m.code.length cc, .int .i64 m.entry, .int .i64 m.room, .slice ad m.data.length cd, .slice an m.names.length cn] 30) = w1 at HB1 ⊢
  rw [← HV.out]
  cases hf : isSf m x
  · obtain rfl : o = none := by rw [← HO.out, heightsP, hf]; rfl
    refine (routineOf_no m _ _ _ x w1 (HI.out.on HB1.out) HS.out HCap.out hf).mono ?_
    rintro e w2 ⟨rfl, hb2⟩
    have HB2 := hid (HB1.out.trans (hb2.mono HB1.out.size))
    clear hb2 hf
    go_wp2_with fail
    go_ret2
    exact ⟨_, rfl, World.ownsRow_nil _ _ _ _, HB2.out.alloc HB2.out.size _⟩
  · obtain ⟨a, rfl⟩ := sf_nat hf
    have HSf := hid (sf_snd hf)
    have HOo := hid (show o = heightsO m.code a from by rw [← HO.out, heightsP, hf]; simp)
    have HBd := hid (imageOk_bd HSf.out.1)
    have hcl : m.code.length ≤ cc := HCap.out _ _ _ rfl
    refine (routineOf_yes m _ _ _ a w1 (HI.out.on HB1.out) HS.out HCap.out hf).mono ?_
    rintro e w2 ⟨gw, gm, ms, b, sv, cv, rfl, hrow, hmap, hmem, hpl, hb2⟩
    obtain ⟨rl, hrl⟩ : ∃ l, reachL m.code [(a : Int)] false = l := ⟨_, rfl⟩
    have HRl := hid hrl
    rw [hrl] at hpl ⊢
    obtain ⟨w3, hw3, hr3, hb3, hz3⟩ := new_ex w2 77 #[.pointer (some ⟨gw, 0, none⟩), .int .i64 a, .slice sv rl.length cv]
    have HB3 := hid (HB1.out.trans ((hb2.trans (hb3.mono hb2.size)).mono HB1.out.size))
    have HRow := hid (hrow.on hb3)
    have HMap := hid (show MapAt w3 gm m.code (insOf m.code ms) from hmap.on hb3)
    have HPl := hid (hpl.on hb3)
    have HMs := hid (show ∀ q, Rc (Gm m.code false) [(a : Int)] q → q ∈ insOf m.code ms from fun q hq => by
      obtain ⟨p, hp, _, hrc⟩ := funs_rc HSf.out.1 HSf.out.2.1
      obtain rfl : a = p := by omega
      exact mem_insOf.2 ⟨(gw_gm hmem q).2 (rc_sub hrc hq), HSf.out.2.2.2.1.rd q hq⟩)
    have y0 := hr3.cell 0
    have y1 := hr3.cell 1
    have y2 := hr3.cell 2
    simp at y0 y1 y2
    clear hf hrow hmap hmem hpl hb2 hb3 hr3 hrl
    go_wp2_with fail
    refine (show Calls Tryz.prog 73 #[.agg #[.pointer (some ⟨gw, 0, none⟩), .int .i64 a, .slice sv rl.length cv]] w3 (TabPost (heightsO m.code a) w3) from by
      have h := heights_c m.code ac cc (.bool b) gw gm sv cv (insOf m.code ms) a w3 (HI.out.on HB3.out).c hcl HBd.out.cb HBd.out.c1 HSf.out.2.2.2.2 HRow.out HMap.out HSf.out.2.2.2.1 HMs.out (by rw [HRl.out]; exact HPl.out)
      rw [HRl.out] at h
      exact h).mono ?_
    rintro e w4 ⟨v4, rfl, hown4, hb4⟩
    rw [← HOo.out] at hown4 ⊢
    obtain ⟨bs, hbs⟩ : ∃ bs, o.getD [] = bs := ⟨_, rfl⟩
    obtain ⟨bo, hbo⟩ : ∃ bo, o.isSome = bo := ⟨_, rfl⟩
    rw [hbs] at hown4
    rw [hbo]
    have HBs := hid hbs
    have HBo := hid hbo
    have HO4 := hid (own_mono hown4 HB3.out.size)
    have HB4 := hid (HB3.out.trans (hb4.mono HB3.out.size))
    obtain ⟨s4, c4, rfl⟩ := own_slice hown4
    clear hown4 hb4 y0 y1 y2 hbs hbo
    go_wp2_with fail
    go_ret2
    refine ⟨_, congrArg (fun b => Ending.returned (.tuple #[_, .bool b])) HBo.out.symm, by rw [HBs.out]; exact HO4.out, HB4.out⟩
set_option maxRecDepth 100000 in
set_option maxHeartbeats 4000000 in
theorem sHeightsOf_c (m : Img) (vc vd vn : Value) (x : Int) (w : World) (h : ICells w vc vd vn m) (hs : Sm m) :
    Calls Tryz.prog 37 #[imgVal vc vd vn m, .int .i64 x] w (TabPost (heightsP m x) w) := by
  obtain ⟨ac, cc, rfl⟩ := rd_slice h.c
  obtain ⟨ad, cd, rfl⟩ := rd_slice h.d
  obtain ⟨an, cn, rfl⟩ := nrd_slice h.n
  have HI := hid h
  have HS := hid hs
  clear h hs
  have hV : imgVal (.slice ac m.code.length cc) (.slice ad m.data.length cd) (.slice an m.names.length cn) m = .agg #[.slice ac m.code.length cc, .int .i64 m.entry, .int .i64 m.room, .slice ad m.data.length cd, .slice an m.names.length cn] := rfl
  have HV := hid hV
  rw [hV]
  clear hV
  have HX1 := hid (Row.new w 30 #[.slice ac m.code.length cc, .int .i64 m.entry, .int .i64 m.room, .slice ad m.data.length cd, .slice an m.names.length cn])
  have HB1 := hid ((Below.refl w.heap.size w).alloc (Nat.le_refl _) (.cells #[.slice ac m.code.length cc, .int .i64 m.entry, .int .i64 m.room, .slice ad m.data.length cd, .slice an m.names.length cn] 30))
  obtain ⟨o, ho⟩ : ∃ o, heightsP m x = o := ⟨_, rfl⟩
  have HO := hid ho
  rw [ho]
  clear ho
  go_enter Tryz.func37, Tryz.ntmps37
  go_wp2_with fail
  generalize w.alloc (.cells #[.slice ac m.code.length cc, .int .i64 m.entry, .int .i64 m.room, .slice ad m.data.length cd, .slice an m.names.length cn] 30) = w1 at HB1 HX1 ⊢
  rw [← HV.out]
  refine (isFun_c m _ _ _ x w1 (HI.out.on HB1.out) HS.out).mono ?_
  rintro e w2 ⟨rfl, hb2⟩
  have HX2 := hid (HX1.out.on hb2)
  have HB2 := hid (HB1.out.trans (hb2.mono HB1.out.size))
  have x0 := HX2.out.cell 0
  have x1 := HX2.out.cell 1
  have x2 := HX2.out.cell 2
  have x3 := HX2.out.cell 3
  have x4 := HX2.out.cell 4
  simp at x0 x1 x2 x3 x4
  clear hb2
  cases hf : isFunP m x
  · obtain rfl : o = none := by rw [← HO.out, heightsP, isSf, hf]; rfl
    clear hf
    go_wp2_with fail
    go_ret2
    exact ⟨_, rfl, World.ownsRow_nil _ _ _ _, HB2.out⟩
  · have h1 : imageOk m = true := by unfold isFunP at hf; exact (Bool.and_eq_true_iff.1 hf).1
    have HBd := hid (imageOk_bd h1)
    have hV2 : (Value.agg #[.slice ac m.code.length cc, .int .i64 m.entry, .int .i64 m.room, .slice ad m.data.length cd, .slice an m.names.length cn]) = imgVal (.slice ac m.code.length cc) (.slice ad m.data.length cd) (.slice an m.names.length cn) m := rfl
    have HF := hid hf
    have HOk := hid h1
    clear hf h1
    go_wp2_with fail
    try rw [hV2]
    refine (ssound_c m _ _ _ w2 (HI.out.on HB2.out) HOk.out).mono ?_
    rintro e w3 ⟨rfl, hb3⟩
    have HX3 := hid (HX2.out.on hb3)
    have HB3 := hid (HB2.out.trans (hb3.mono HB2.out.size))
    have x5 := HX3.out.cell 0
    simp at x5
    clear hb3 x0 x1 x2 x3 x4 hV2
    cases hl : lostG m.code (Gw m.code) [m.entry]
    · have hsf : isSf m x = true := by unfold isSf; rw [HF.out, hl]; rfl
      obtain ⟨a, rfl⟩ := sf_nat hsf
      have HSf := hid (sf_snd hsf)
      have HOo := hid (show o = heightsO m.code a from by rw [← HO.out, heightsP, hsf]; simp)
      clear hl hsf
      go_wp2_with fail
      refine (sHeights_c m.code a ac cc w3 (HI.out.on HB3.out).c HBd.out.cb HBd.out.c1 HSf.out.2.2.2.2 HSf.out.2.2.2.1).mono ?_
      rintro e w4 ⟨v4, rfl, hown4, hb4⟩
      rw [← HOo.out] at hown4 ⊢
      obtain ⟨bs, hbs⟩ : ∃ bs, o.getD [] = bs := ⟨_, rfl⟩
      obtain ⟨bo, hbo⟩ : ∃ bo, o.isSome = bo := ⟨_, rfl⟩
      rw [hbs] at hown4
      rw [hbo]
      have HBs := hid hbs
      have HBo := hid hbo
      have HO4 := hid (own_mono hown4 HB3.out.size)
      have HB4 := hid (HB3.out.trans (hb4.mono HB3.out.size))
      obtain ⟨s4, c4, rfl⟩ := own_slice hown4
      clear hown4 hb4 hbs hbo x5
      go_wp2_with fail
      go_ret2
      refine ⟨_, congrArg (fun b => Ending.returned (.tuple #[_, .bool b])) HBo.out.symm, by rw [HBs.out]; exact HO4.out, HB4.out⟩
    · obtain rfl : o = none := by rw [← HO.out, heightsP, isSf, HF.out, hl]; rfl
      clear hl
      go_wp2_with fail
      go_ret2
      exact ⟨_, rfl, World.ownsRow_nil _ _ _ _, HB3.out⟩
end Go.Proofs.YtihhpgklpichgaaGreat.Wk
/- Framed of the program. -/
namespace Go.Proofs.YtihhpgklpichgaaGreat.Wk
open Go.RowKit Pl Ft Mm In C2 Im Sw Gp

theorem leadL_len (code : List Int) (a : Nat) : (leadL code a).length ≤ code.length + 1 := by
  unfold leadL
  rw [List.length_cons]
  have h1 := List.length_filter_le (begB code a) (reachL code [(a : Int)] false)
  have h2 := reachL_len code [(a : Int)] false
  omega
noncomputable def okFr (code : List Int) (a : Nat) : Bool := pdec (okH code a) && decide ((leadL code a).length ≤ 30)
theorem heightsO_some (code : List Int) (a : Nat) : (heightsO code a).isSome = pdec (okH code a) := by
  unfold heightsO
  cases pdec (okH code a) <;> rfl
set_option maxRecDepth 100000 in
set_option maxHeartbeats 4000000 in
theorem isFramed_c (code : List Int) (ac : Option Addr) (cc : Nat) (lb : Value) (gw gm : Nat) (sv : Option Addr) (cv : Nat) (ms0 : List Nat) (a : Nat) (w : World)
    (hr : Rd w (.slice ac code.length cc) code) (hcap : code.length ≤ cc) (hby : code.all isByte = true) (hlen : code.length ≤ 2000) (hal : a < code.length)
    (hw : Row w gw 88 #[.slice ac code.length cc, .map (some gm), lb]) (hm : MapAt w gm code ms0) (hS : Snd code a) (hms0 : ∀ q, Rc (Gm code false) [(a : Int)] q → q ∈ ms0) (hpl : Rd w (.slice sv (reachL code [(a : Int)] false).length cv) (reachL code [(a : Int)] false)) :
    Calls Tryz.prog 78 #[.agg #[.pointer (some ⟨gw, 0, none⟩), .int .i64 a, .slice sv (reachL code [(a : Int)] false).length cv]] w fun e w' => e = .returned (.bool (okFr code a)) ∧ Below w.heap.size w w' := by
  have HRd := hid hr
  have HBy := hid hby
  have HSn := hid hS
  have HMs := hid hms0
  have HW := hid hw
  have HM := hid (show MapAt w gm code ms0 from hm)
  have hH := fun (w' : World) (hb : Below w.heap.size w w') => heights_c code ac cc lb gw gm sv cv ms0 a w' (hr.on hb) hcap hby hlen hal (hw.on hb) (MapAt.on hm hb) hS hms0 (hpl.on hb)
  have hB := fun (w' : World) (hb : Below w.heap.size w w') => begins_c code ac cc lb gw gm sv cv ms0 a w' (hr.on hb) hcap hby hlen (hw.on hb) (MapAt.on hm hb) hS hms0 (hpl.on hb)
  obtain ⟨rn, hrn⟩ : ∃ n, (reachL code [(a : Int)] false).length = n := ⟨_, rfl⟩
  rw [hrn] at hH hB ⊢
  have HH := hid hH
  have HBg := hid hB
  have hll := leadL_len code a
  have hso := heightsO_some code a
  unfold okFr
  obtain ⟨ok, hok⟩ : ∃ b, pdec (okH code a) = b := ⟨_, rfl⟩
  rw [hok] at hso ⊢
  have HSo := hid hso
  obtain ⟨w1, hw1, hr1, hb1, hz1⟩ := new_ex w 77 #[.pointer (some ⟨gw, 0, none⟩), .int .i64 a, .slice sv rn cv]
  have HR1 := hid hr1
  have HB1 := hid hb1
  have x0 := hr1.cell 0
  have x1 := hr1.cell 1
  have x2 := hr1.cell 2
  simp at x0 x1 x2
  clear hr hby hw hm hS hms0 hpl hH hB hrn hso hok hr1 hb1
  go_enter Tryz.func78, Tryz.ntmps78
  go_wp2_with fail
  refine (HH.out w1 HB1.out).mono ?_
  rintro e w2 ⟨v2, rfl, hown2, hb2⟩
  rw [HSo.out]
  have HB2 := hid (HB1.out.trans (hb2.mono HB1.out.size))
  have HR2 := hid (HR1.out.on hb2)
  obtain ⟨hn, hhn⟩ : ∃ n, ((heightsO code a).getD []).length = n := ⟨_, rfl⟩
  rw [hhn] at hown2
  obtain ⟨s2, c2, rfl⟩ := own_slice hown2
  have y0 := HR2.out.cell 0
  have y1 := HR2.out.cell 1
  have y2 := HR2.out.cell 2
  simp at y0 y1 y2
  clear hown2 hb2 hhn x0 x1 x2
  cases ok
  · go_wp2_with fail
    go_ret
    exact ⟨rfl, HB2.out⟩
  · go_wp2_with fail
    refine (HBg.out w2 HB2.out).mono ?_
    rintro e w3 ⟨v3, rfl, hown3, hb3⟩
    have HB3 := hid (HB2.out.trans (hb3.mono HB2.out.size))
    obtain ⟨ln, hln⟩ : ∃ n, (leadL code a).length = n := ⟨_, rfl⟩
    rw [hln] at hown3 hll
    have HLn := hid hln
    obtain ⟨s3, c3, rfl⟩ := own_slice hown3
    clear hown3 hb3 hln
    go_wp2_with fail
    go_ret
    refine ⟨congrArg (fun b => Ending.returned (.bool b)) ?_, HB3.out⟩
    rw [HLn.out]
    simp
    try omega
set_option maxHeartbeats 1000000 in
theorem everyFn_c (l : List Int) (v : Value) (F : Nat) (cs : Array Value) (f : Int → Bool) (w0 : World) (hr : Rd w0 v l) (hl : l.length ≤ 1000000) (hen : ∀ (xs : Array Value) (w : World), (callFunc F xs).run Tryz.prog w = .ok (.enter F xs) w)
    (hc : ∀ x ∈ l, ∀ w : World, Below w0.heap.size w0 w → Calls Tryz.prog F (#[.int .i64 x] ++ cs) w fun e w' => e = .returned (.bool (f x)) ∧ Below w.heap.size w w') :
    Calls Tryz.prog 75 #[v, .func (.func F) #[] cs] w0 fun e w' => e = .returned (.bool (l.all f)) ∧ Below w0.heap.size w0 w' := by
  obtain ⟨s, c, rfl, ha⟩ := hr
  have HA := hid (show Rd w0 (.slice s l.length c) l from ⟨s, c, rfl, ha⟩)
  have HC := hid hc
  have HEn := hid hen
  clear ha hc hen
  go_enter Tryz.func75, Tryz.ntmps75
  go_wp2_with fail
  go_loopw [9] (fun y wr => ∃ k : Nat, y = .int .i64 k ∧ k ≤ l.length ∧ (l.take k).all f = true ∧ Below w0.heap.size w0 wr) (fun y _ => l.length - (intOf y).toNat)
  case atStart => exact ⟨0, rfl, by omega, rfl, Below.refl _ _⟩
  case round =>
    obtain ⟨k, rfl, hk, hall, hbw⟩ := hrel
    have HAll := hid hall
    have HBw := hid hbw
    clear hall hbw
    by_cases hlt : k < l.length
    · have hmem : l[k] ∈ l := List.getElem_mem hlt
      obtain ⟨_, _, he, hcs⟩ := HA.out.on HBw.out
      cases he
      rcases hcs with h | ⟨g, o, rfl, hg, hcs⟩
      · subst h; simp at hlt
      have q0 := hcs k hlt
      have hgd : l.getD k 0 = l[k] := by simp [hlt]
      rw [hgd] at q0
      have HT := hid (show (l.take (k + 1)).all f = ((l.take k).all f && f l[k]) from by rw [List.take_succ_eq_append_getElem hlt, List.all_append]; simp)
      have HNo := hid (show f l[k] = false → l.all f = false from fun h => by rw [List.all_eq_false]; exact ⟨l[k], List.getElem_mem hlt, by rw [h]; decide⟩)
      obtain ⟨x, hx⟩ : ∃ x, l[k] = x := ⟨_, rfl⟩
      rw [hx] at q0 HT HNo hmem
      have HMem := hid hmem
      have hen := HEn.out
      clear hcs hgd hx hmem
      go_wp2_with fail
      refine (HC.out x HMem.out _ HBw.out).mono ?_
      rintro e w1 ⟨rfl, hb1⟩
      have HB1 := hid (HBw.out.trans (hb1.mono HBw.out.size))
      clear hb1 hen q0
      cases hb : f x
      · have HB := hid hb
        clear hb
        go_wp2_with fail
        go_ret
        exact ⟨by rw [HNo.out HB.out]; rfl, HB1.out⟩
      · have HB := hid hb
        clear hb
        go_wp2_with fail
        go_roundw
        case rel => exact ⟨k + 1, by go_num, by omega, by rw [HT.out, HAll.out, HB.out]; rfl, HB1.out⟩
        case measure => simp [intOf]; omega
    · obtain rfl : k = l.length := by omega
      have hal := HAll.out
      rw [List.take_length] at hal
      have HAl := hid hal
      clear hal
      go_wp2_with fail
      go_ret
      exact ⟨by rw [HAl.out]; rfl, HBw.out⟩
theorem funsL_len2 (m : Img) (h : imageOk m = true) : (funsL m).length ≤ 2001 := by
  have := funsL_len m
  have := (imageOk_bd h).c1
  omega
set_option maxRecDepth 100000 in
set_option maxHeartbeats 4000000 in
theorem framedFn_c (m : Img) (ac : Option Addr) (cc : Nat) (lb : Value) (gw gm gf : Nat) (sl : Option Addr) (fn cl : Nat) (ms : List Nat) (x : Int) (w : World) (h1 : imageOk m = true) (hx : x ∈ funsL m) (hl : lostG m.code (Gw m.code) [m.entry] = false)
    (hr : Rd w (.slice ac m.code.length cc) m.code) (hcap : m.code.length ≤ cc) (hw : Row w gw 88 #[.slice ac m.code.length cc, .map (some gm), lb]) (hm : MapAt w gm m.code (insOf m.code ms)) (hmem : ∀ p, p ∈ ms ↔ Rc (Gw m.code) [m.entry] p) (hf : Row w gf 59 #[.pointer (some ⟨gw, 0, none⟩), .slice sl fn cl]) :
    Calls Tryz.prog 76 #[.int .i64 x, .pointer (some ⟨gf, 0, none⟩)] w fun e w' => e = .returned (.bool (okFr m.code x.toNat)) ∧ Below w.heap.size w w' := by
  have hsf : isSf m x = true := by unfold isSf isFunP; rw [h1, decide_eq_true hx, hl]; rfl
  obtain ⟨a, rfl⟩ := sf_nat hsf
  rw [Int.toNat_natCast]
  have HSf := hid (sf_snd hsf)
  have HBd := hid (imageOk_bd h1)
  obtain ⟨p, hp, hpl, hrc⟩ := funs_rc h1 hx
  obtain rfl : a = p := by omega
  have HIn := hid (show ∀ q, Rc (Gm m.code false) [(a : Int)] q → (q ∈ insOf m.code ms ↔ (readP m.code q).isSome = true) from fun q hq => by
    rw [mem_insOf]
    exact ⟨fun h => h.2, fun h => ⟨(gw_gm hmem q).2 (rc_sub hrc hq), h⟩⟩)
  have HRd := hid hr
  have HW := hid hw
  have HM := hid (show MapAt w gm m.code (insOf m.code ms) from hm)
  have y0 := hf.cell 0
  have y1 := hf.cell 1
  simp at y0 y1
  have hlen := HBd.out.c1
  clear hr hw hm hmem hf hp hrc hsf hx hl h1
  go_enter Tryz.func76, Tryz.ntmps76
  go_wp2_with fail
  refine (routine_c m.code ac cc lb gw gm a sl fn cl (insOf m.code ms) w HRd.out hcap HBd.out.cb HBd.out.c1 (by omega) HW.out HM.out HIn.out).mono ?_
  rintro e w2 ⟨sv, cv, rfl, hown2, hb2⟩
  have HB2 := hid hb2
  have hfr := isFramed_c m.code ac cc lb gw gm sv cv (insOf m.code ms) a w2 (HRd.out.on hb2) hcap HBd.out.cb HBd.out.c1 HSf.out.2.2.2.2 (HW.out.on hb2) (MapAt.on HM.out hb2) HSf.out.2.2.2.1 (fun q hq => (HIn.out q hq).2 (HSf.out.2.2.2.1.rd q hq)) (Rd.of_own hown2)
  obtain ⟨rn, hrn⟩ : ∃ n, (reachL m.code [(a : Int)] false).length = n := ⟨_, rfl⟩
  rw [hrn] at hfr ⊢
  have HFr := hid hfr
  clear hown2 hb2 hfr hrn y0 y1
  go_wp2_with fail
  refine HFr.out.mono ?_
  rintro e w3 ⟨rfl, hb3⟩
  have HB3 := hid (HB2.out.trans (hb3.mono HB2.out.size))
  obtain ⟨b, hb⟩ : ∃ b, okFr m.code a = b := ⟨_, rfl⟩
  rw [hb]
  have HBb := hid hb
  clear hb hb3
  go_wp2_with fail
  go_ret
  exact ⟨by rw [HBb.out]; rfl, HB3.out⟩
noncomputable def framedP (m : Img) : Bool := imageOk m && (!(lostG m.code (Gw m.code) [m.entry]) && (decide ((funsL m).length ≤ 10) && (funsL m).all fun x => okFr m.code x.toNat))
end Go.Proofs.YtihhpgklpichgaaGreat.Wk
/- Framed of the program, whole. -/
namespace Go.Proofs.YtihhpgklpichgaaGreat.Wk
open Go.RowKit Pl Ft Mm In C2 Im Sw Gp

set_option maxRecDepth 100000 in
set_option maxHeartbeats 4000000 in
theorem framed_c (m : Img) (vc vd vn : Value) (w : World) (h : ICells w vc vd vn m) (hs : Sm m) (hcc : ∀ a n c, vc = .slice a n c → n ≤ c) :
    Calls Tryz.prog 40 #[imgVal vc vd vn m] w fun e w' => e = .returned (.bool (framedP m)) ∧ Below w.heap.size w w' := by
  obtain ⟨ac, cc, rfl⟩ := rd_slice h.c
  obtain ⟨ad, cd, rfl⟩ := rd_slice h.d
  obtain ⟨an, cn, rfl⟩ := nrd_slice h.n
  have HI := hid h
  have HS := hid hs
  have HCap := hid hcc
  clear h hs hcc
  have hV : imgVal (.slice ac m.code.length cc) (.slice ad m.data.length cd) (.slice an m.names.length cn) m = .agg #[.slice ac m.code.length cc, .int .i64 m.entry, .int .i64 m.room, .slice ad m.data.length cd, .slice an m.names.length cn] := rfl
  have HV := hid hV
  rw [hV]
  clear hV
  have HB1 := hid ((Below.refl w.heap.size w).alloc (Nat.le_refl _) (.cells #[.slice ac m.code.length cc, .int .i64 m.entry, .int .i64 m.room, .slice ad m.data.length cd, .slice an m.names.length cn] 30))
  obtain ⟨o, ho⟩ : ∃ o, framedP m = o := ⟨_, rfl⟩
  have HO := hid ho
  rw [ho]
  clear ho
  go_enter Tryz.func40, Tryz.ntmps40
  go_wp2_with fail
  generalize w.alloc (.cells #[.slice ac m.code.length cc, .int .i64 m.entry, .int .i64 m.room, .slice ad m.data.length cd, .slice an m.names.length cn] 30) = w1 at HB1 ⊢
  rw [← HV.out]
  cases h1 : imageOk m
  · obtain rfl : o = false := by rw [← HO.out, framedP, h1]; rfl
    refine (funsIn_no m _ _ _ w1 (HI.out.on HB1.out) HS.out h1).mono ?_
    rintro e w2 ⟨rfl, hb2⟩
    have HB2 := hid (HB1.out.trans (hb2.mono HB1.out.size))
    clear hb2 h1
    go_wp2_with fail
    go_ret
    exact ⟨rfl, HB2.out.alloc HB2.out.size _⟩
  · have hcl : m.code.length ≤ cc := HCap.out _ _ _ rfl
    have HOk := hid h1
    refine (funsIn_yes m _ _ _ w1 (HI.out.on HB1.out) HS.out HCap.out h1).mono ?_
    rintro e w2 ⟨gw, gm, ms, vl, rfl, hrow, hmap, hmem, _, hown, hb2, _, _⟩
    rw [lostIn_eq hmem] at hrow
    have hfl := funsL_len2 m h1
    obtain ⟨fl, hfs⟩ : ∃ l, funsL m = l := ⟨_, rfl⟩
    have HFl := hid hfs
    rw [hfs] at hown hfl
    obtain ⟨sl, cl, rfl⟩ := own_slice hown
    obtain ⟨w3, hw3, hr3, hb3, hz3⟩ := new_ex w2 59 #[.pointer (some ⟨gw, 0, none⟩), .slice sl fl.length cl]
    have HB3 := hid (HB1.out.trans ((hb2.trans (hb3.mono hb2.size)).mono HB1.out.size))
    have HRow := hid (hrow.on hb3)
    have HMap := hid (show MapAt w3 gm m.code (insOf m.code ms) from hmap.on hb3)
    have HMem := hid hmem
    have HOw := hid (own_on hown hb3)
    have HR3 := hid hr3
    have y0 := hr3.cell 0
    have y1 := hr3.cell 1
    simp at y0 y1
    obtain ⟨gf, hgf⟩ : ∃ x, w2.heap.size = x := ⟨_, rfl⟩
    have HGf := hid hgf
    obtain ⟨lo, hlo⟩ : ∃ b, lostG m.code (Gw m.code) [m.entry] = b := ⟨_, rfl⟩
    have HLo := hid hlo
    have hrow3 := HRow.out
    rw [hlo] at hrow3
    have l2 := hrow3.cell 2
    simp at l2
    have HO2 := hid (show o = (!lo && (decide (fl.length ≤ 10) && fl.all fun x => okFr m.code x.toNat)) from by rw [← HO.out, framedP, h1, hfs, hlo, Bool.true_and])
    clear hrow hmap hmem hown hb2 hb3 hr3 hfs hgf hlo hrow3 h1
    cases lo
    · by_cases h10 : fl.length ≤ 10
      · have HE := hid (everyFn_c fl (.slice sl fl.length cl) 76 #[.pointer (some ⟨w2.heap.size, 0, none⟩)] (fun x => okFr m.code x.toNat) w3 (Rd.of_own HOw.out) (by omega) (fun xs w => by kernel_rfl) (fun x hx w' hb => framedFn_c m ac cc _ gw gm w2.heap.size sl fl.length cl ms x w' HOk.out (by rw [HFl.out]; exact hx) HLo.out ((HI.out.on HB3.out).c.on hb) hcl (HRow.out.on hb) (MapAt.on HMap.out hb) HMem.out (HR3.out.on hb)))
        go_wp2_with fail
        refine HE.out.mono ?_
        rintro e w4 ⟨rfl, hb4⟩
        have HB4 := hid (HB3.out.trans (hb4.mono HB3.out.size))
        obtain ⟨b, hb⟩ : ∃ b, (fl.all fun x => okFr m.code x.toNat) = b := ⟨_, rfl⟩
        rw [hb]
        have HBb := hid hb
        clear hb hb4 y0 y1 l2
        go_wp2_with fail
        go_ret
        refine ⟨congrArg (fun b => Ending.returned (.bool b)) ?_, HB4.out⟩
        rw [HO2.out, HBb.out, decide_eq_true h10]
        simp
      · go_wp2_with fail
        go_ret
        refine ⟨congrArg (fun b => Ending.returned (.bool b)) ?_, HB3.out⟩
        rw [HO2.out, decide_eq_false h10]
        simp
    · go_wp2_with fail
      go_ret
      refine ⟨congrArg (fun b => Ending.returned (.bool b)) ?_, HB3.out⟩
      rw [HO2.out]
      simp
end Go.Proofs.YtihhpgklpichgaaGreat.Wk
/- Where blocks begin, for the model: isJump, comes. -/
namespace Go.Proofs.YtihhpgklpichgaaGreat.Wk
open Go.RowKit Pl Ft Mm In C2 Im Sw Gp

theorem isJump_c (i : IIns) (w : World) : Calls Tryz.prog 108 #[i.val] w fun e w' => e = .returned (.bool (decide (i.op = 27) || decide (i.op = 28))) ∧ Below w.heap.size w w' := by
  obtain ⟨op, ia, ib, n⟩ := i
  have HB := hid ((Below.refl w.heap.size w).alloc (Nat.le_refl _) (.cells #[.int .i64 op, .int .i64 ia, .int .i64 ib, .int .i64 n] 70))
  unfold IIns.val
  simp only
  by_cases h27 : op = 27
  · subst h27
    go_enter Tryz.func108, Tryz.ntmps108
    go_wp2_with fail
    go_ret
    exact ⟨rfl, HB.out⟩
  · have hn : (op == 27) = false := by simpa using h27
    by_cases h28 : op = 28
    · subst h28
      go_enter Tryz.func108, Tryz.ntmps108
      go_wp2_with fail
      go_ret
      exact ⟨rfl, HB.out⟩
    · have hn2 : (op == 28) = false := by simpa using h28
      rw [decide_eq_false h27, decide_eq_false h28]
      clear h27 h28
      go_enter Tryz.func108, Tryz.ntmps108
      go_wp2_with fail
      go_ret
      exact ⟨rfl, HB.out⟩
/-- From how many of some places one may come to a place. -/
def comesN (code : List Int) (q : Int) (l : List Int) : Nat := (l.filter fun y => decide (q ∈ Gm code false y.toNat)).length
theorem comesN_app (code : List Int) (q : Int) (l : List Int) (y : Int) : comesN code q (l ++ [y]) = comesN code q l + (if q ∈ Gm code false y.toNat then 1 else 0) := by
  unfold comesN
  rw [List.filter_append, List.length_append]
  by_cases h : q ∈ Gm code false y.toNat <;> simp [h]
theorem comesN_le (code : List Int) (q : Int) (l : List Int) : comesN code q l ≤ l.length := List.length_filter_le _ _
theorem comes_two {code : List Int} {q : Int} : ∀ {l : List Int}, l.Nodup → (1 < comesN code q l ↔ ∃ x ∈ l, ∃ y ∈ l, x ≠ y ∧ q ∈ Gm code false x.toNat ∧ q ∈ Gm code false y.toNat) := by
  intro l hn
  unfold comesN
  have hf : (l.filter fun y => decide (q ∈ Gm code false y.toNat)).Nodup := List.Pairwise.filter _ hn
  have hm : ∀ x, x ∈ l.filter (fun y => decide (q ∈ Gm code false y.toNat)) ↔ x ∈ l ∧ q ∈ Gm code false x.toNat := fun x => by simp
  obtain ⟨f, hfe⟩ : ∃ f, (l.filter fun y => decide (q ∈ Gm code false y.toNat)) = f := ⟨_, rfl⟩
  rw [hfe] at hf hm ⊢
  constructor
  · intro h
    match f, hf, hm, h with
    | x :: y :: r, hf, hm, _ =>
      have h1 := (hm x).1 (by simp)
      have h2 := (hm y).1 (by simp)
      refine ⟨x, h1.1, y, h2.1, ?_, h1.2, h2.2⟩
      have := (List.pairwise_cons.1 hf).1 y (by simp)
      exact this
  · rintro ⟨x, hx, y, hy, hne, h1, h2⟩
    have hx2 := (hm x).2 ⟨hx, h1⟩
    have hy2 := (hm y).2 ⟨hy, h2⟩
    match f, hx2, hy2 with
    | [z], hx2, hy2 =>
      simp only [List.mem_singleton] at hx2 hy2
      exact absurd (hx2.trans hy2.symm) hne
    | _ :: _ :: _, _, _ => simp
set_option maxRecDepth 100000 in
set_option maxHeartbeats 4000000 in
theorem comes_c (code rl : List Int) (ac sa : Option Addr) (cc sc : Nat) (q : Int) (w : World) (hr : Rd w (.slice ac code.length cc) code) (hs : Rd w (.slice sa rl.length sc) rl) (hb : code.all isByte = true) (hlen : code.length ≤ 2000) (hrl : rl.length ≤ 2000)
    (hm : ∀ y ∈ rl, ∃ p : Nat, y = (p : Int) ∧ (readP code p).isSome = true) :
    Calls Tryz.prog 140 #[.slice ac code.length cc, .slice sa rl.length sc, .int .i64 q] w fun e w' => e = .returned (.int .i64 (comesN code q rl)) ∧ Below w.heap.size w w' := by
  have HRd := hid hr
  have HRs := hid hs
  have HBy := hid hb
  have HMb := hid hm
  clear hr hs hb hm
  go_enter Tryz.func140, Tryz.ntmps140
  go_wp2_with fail
  go_loopw [7, 8] (fun v c wr => ∃ (k : Nat) (m : Nat), c = .int .i64 k ∧ k ≤ rl.length ∧ v = .int .i64 m ∧ m = comesN code q (rl.take k) ∧ m ≤ k ∧ Below w.heap.size w wr) (fun _ c _ => rl.length - (intOf c).toNat)
  case atStart => exact ⟨0, 0, rfl, by omega, rfl, rfl, Nat.le_refl _, Below.refl _ _⟩
  case round =>
    obtain ⟨k, m, rfl, hk, rfl, hmm, hmk, hbw⟩ := hrel
    have HMm := hid hmm
    have HBw := hid hbw
    have hzw := hbw.size
    clear hmm hbw
    by_cases hlt : k < rl.length
    case neg =>
      obtain rfl : k = rl.length := by omega
      have hme := HMm.out
      rw [List.take_length] at hme
      have HMe := hid hme
      clear hme
      go_wp2_with fail
      go_ret
      rw [HMe.out]
      exact ⟨rfl, HBw.out⟩
    obtain ⟨p, hp, hps⟩ := HMb.out rl[k] (List.getElem_mem hlt)
    obtain ⟨⟨jop, ja, jb, jn⟩, hi⟩ := Option.isSome_iff_exists.1 hps
    have hf := readP_facts hi
    have hpl := hf.1
    have HV := hid hf.2.1
    have hs1 := hf.2.2.1
    have hs5 := hf.2.2.2.1
    have HG := hid (show nextsP code ⟨jop, ja, jb, jn⟩ (p + slong ⟨jop, ja, jb, jn⟩) = Gm code false p from (gm_off hi).symm)
    have hx := byte_at HBy.out p hpl
    have HSo := hid (((readP_in hpl).trans (insIn_eq code p hx.1 hx.2)).symm.trans hi)
    have HNx := hid (show comesN code q (rl.take (k + 1)) = m + (if q ∈ Gm code false p then 1 else 0) from by
      rw [List.take_succ_eq_append_getElem hlt, comesN_app, ← HMm.out, hp]
      simp)
    obtain ⟨_, _, he, hcs⟩ := HRs.out.on HBw.out
    cases he
    rcases hcs with h | ⟨g4, o4, rfl, hg4, hcs⟩
    · subst h; simp at hlt
    have q0 := hcs k hlt
    have HGd := hid (show rl.getD k 0 = (p : Int) by simp [hlt, hp])
    rw [HGd.out] at q0
    clear hcs hp hps hi hf hx
    go_wp2_with fail
    refine (sRead_c code _ p _ (HRd.out.on HBw.out) HBy.out hlen hpl).mono ?_
    rintro e w5 ⟨i5, rfl, hij, hb5⟩
    rw [HSo.out]
    obtain rfl := hij ⟨jop, ja, jb, jn⟩ HSo.out
    unfold IIns.val
    simp only [Option.isSome_some]
    obtain ⟨w6, hw6, hr6, hb6, hz6⟩ := new_ex w5 70 #[.int .i64 jop, .int .i64 ja, .int .i64 jb, .int .i64 jn]
    have HB6 := hid (HBw.out.trans ((hb5.trans (hb6.mono hb5.size)).mono hzw))
    have HX6 := hid hr6
    have HQ6 := hid ((HRs.out.on HB6.out))
    clear hij hb5 hr6 hb6 q0
    go_upto_region 6 with fail
    clear hw6
    obtain ⟨gx, hgx⟩ : ∃ x, w5.heap.size = x := ⟨_, rfl⟩
    rw [hgx] at HX6
    try rw [hgx]
    have x0 := HX6.out.cell 0
    have x1 := HX6.out.cell 1
    have x2 := HX6.out.cell 2
    have x3 := HX6.out.cell 3
    simp at x0 x1 x2 x3
    obtain ⟨_, _, he, hcs⟩ := HQ6.out
    cases he
    rcases hcs with h | ⟨g7, o7, he7, hg7, hcs⟩
    · subst h; simp at hlt
    simp only [Option.some.injEq, Addr.mk.injEq, and_true] at he7
    obtain ⟨rfl, rfl⟩ := he7
    have q0 := hcs k hlt
    rw [HGd.out] at q0
    clear hcs hgx
    go_cut [11] (fun s wx => ∃ s8 c8, s = .slice s8 (Gm code false p).length c8 ∧ wx.ownsRow w6.heap.size 3 1 s (Gm code false p).length (ints (Gm code false p)) ∧ Below w6.heap.size w6 wx)
    case first =>
      go_region_with (go_at_call 87; refine (nexts_c code _ p ⟨jop, ja, jb, jn⟩ _ ((HRd.out.on HB6.out).on (Below.refl _ _).drew) HBy.out hlen (by omega) HV.out hs1 hs5).mono ?_; rintro e w8 ⟨v8, rfl, hown8, hb8⟩; rw [HG.out] at hown8; have HO8 := hid hown8; have HB8 := hid (((Below.refl w6.heap.size w6).drew).trans hb8); obtain ⟨s8, c8, rfl⟩ := own_slice hown8; clear hown8 hb8)
      all_goals
        go_wp2_with fail
        go_meet
        exact ⟨_, _, rfl, HO8.out, HB8.out⟩
    case rest =>
      obtain ⟨s8, c8, rfl, hown8, hb8⟩ := hcut
      generalize wc = w8 at hown8 hb8 ⊢
      have HO8 := hid hown8
      have HB8 := hid (HB6.out.trans (hb8.mono HB6.out.size))
      have hgl : (Gm code false p).length ≤ 10 := (gm_bd HBy.out hlen false (S := []) (fun q hq => by cases hq)).len p (by omega)
      obtain ⟨l, hl⟩ : ∃ l, Gm code false p = l := ⟨_, rfl⟩
      rw [hl] at hgl HO8 HNx ⊢
      clear hown8 hb8 x0 x1 x2 x3 q0 hl
      go_wp2_with fail
      refine (inList_c l _ q w8 (Rd.of_own HO8.out) (by omega)).mono ?_
      rintro e w9 ⟨rfl, rfl⟩
      by_cases hq : q ∈ l
      · rw [decide_eq_true hq]
        rw [if_pos hq] at HNx
        clear hq
        go_wp2_with fail
        go_roundw
        case rel => exact ⟨k + 1, m + 1, by go_num, by omega, by go_num, HNx.out.symm, by omega, HB8.out⟩
        case measure => simp [intOf]; omega
      · rw [decide_eq_false hq]
        rw [if_neg hq] at HNx
        clear hq
        go_wp2_with fail
        go_roundw
        case rel => exact ⟨k + 1, m, by go_num, by omega, rfl, HNx.out.symm, by omega, HB8.out⟩
        case measure => simp [intOf]; omega
end Go.Proofs.YtihhpgklpichgaaGreat.Wk
/- Where blocks begin, for the model: leaders. -/
namespace Go.Proofs.YtihhpgklpichgaaGreat.Wk
open Go.RowKit Pl Ft Mm In C2 Im Sw Gp

theorem BAt.put {w : World} {g n : Nat} {f : Nat → Bool} (h : BAt w g n f) {p : Nat} (hp : p < n) (b : Bool) : BAt (w.setCell ⟨g, p, none⟩ (.bool b)) g n (fun q => if q = p then b else f q) := by
  obtain ⟨cur, hr, hc⟩ := h
  refine ⟨_, hr.set p (.bool b), fun j hj => ?_⟩
  have h1 := hc j hj
  have hl : p < cur.size := by have := hc p hp; exact (Array.getElem?_eq_some_iff.1 this).1
  show _ = some (Value.bool (if j = p then b else f j))
  by_cases e : j = p
  · subst e
    rw [if_pos rfl, Array.getElem?_setIfInBounds_self, if_pos hl]
  · rw [if_neg e, Array.getElem?_setIfInBounds_ne (fun h => e h.symm)]
    exact h1
theorem BAt.free {w : World} {g n : Nat} {f : Nat → Bool} (h : BAt w g n f) (j : Nat) : w.frozen? ⟨g, j, none⟩ = false := by obtain ⟨cur, hr, _⟩ := h; exact hr.free j
def TurnAt (code : List Int) (y : Int) : Prop := ∃ i, readP code y.toNat = some i ∧ turnI i = true
structure LdRel (code rl : List Int) (g : Nat) (w3 : World) (k : Nat) (f : Nat → Bool) (wr : World) : Prop where
  at_ : BAt wr g code.length f
  iff_ : ∀ q, q < code.length → (f q = true ↔ ∃ y ∈ rl.take k, TurnAt code y ∧ (q : Int) ∈ Gm code false y.toNat)
  only : Only (fun b => b = g) w3 wr
structure LiRel (n g : Nat) (f0 : Nat → Bool) (l : List Int) (w8 : World) (t : Nat) (f : Nat → Bool) (wr : World) : Prop where
  at_ : BAt wr g n f
  iff_ : ∀ q, q < n → (f q = true ↔ f0 q = true ∨ (q : Int) ∈ l.take t)
  only : Only (fun b => b = g) w8 wr
structure LcRel (code rl : List Int) (g : Nat) (f0 : Nat → Bool) (w3 : World) (k : Nat) (f : Nat → Bool) (wr : World) : Prop where
  at_ : BAt wr g code.length f
  iff_ : ∀ q, q < code.length → (f q = true ↔ f0 q = true ∨ ((q : Int) ∈ rl.take k ∧ 1 < comesN code (q : Int) rl))
  only : Only (fun b => b = g) w3 wr
theorem truesL_congr {f f' : Nat → Bool} {n : Nat} (h : ∀ q, q < n → f q = f' q) : truesL f n = truesL f' n := by
  unfold truesL
  congr 1
  exact List.filter_congr (fun q hq => h q (List.mem_range.1 hq))
theorem truesL_filter (f : Nat → Bool) (g : Int → Bool) (n : Nat) : (truesL f n).filter g = truesL (fun q => f q && g (q : Int)) n := by
  unfold truesL
  rw [List.filter_map, List.filter_filter]
  congr 1
  apply List.filter_congr
  intro q _
  simp [Bool.and_comm]
set_option maxRecDepth 100000 in
set_option maxHeartbeats 8000000 in
theorem leaders_c (code : List Int) (a : Nat) (ac : Option Addr) (cc : Nat) (w : World) (hr : Rd w (.slice ac code.length cc) code) (hb : code.all isByte = true) (hlen : code.length ≤ 2000) (hal : a < code.length) (hS : Snd code a) :
    Calls Tryz.prog 112 #[.slice ac code.length cc, .int .i64 a] w (WaysPost2 (leadL code a) w) := by
  have HRd := hid hr
  have HBy := hid hb
  have HSn := hid hS
  obtain ⟨i0, hi, hz0, hz1, hz2⟩ := info_parts info_bool
  have H0 := hid hz0
  have H1 := hid hz1
  have H2 := hid hz2
  have HI := hid hi
  clear hz0 hz1 hz2 hi hr hb hS
  have HB1 := hid ((Below.refl w.heap.size w).alloc (Nat.le_refl _) (.cells #[.int .i64 a] 3))
  have HRs := hid (Rd.of_own (own_lit w [(a : Int)] #[.int .i64 a] rfl (by simp) 1 rfl))
  go_enter Tryz.func112, Tryz.ntmps112
  go_wp2_with fail
  refine (walk_c code [(a : Int)] false ac _ cc _ _ (HRd.out.on HB1.out) HRs.out HBy.out hlen (by omega) (fun q hq => by obtain rfl : q = (a : Int) := (by simpa using hq); omega) (by simp)).mono ?_
  rintro e w1 ⟨v1, ms, rfl, hown1, hms, hb1⟩
  have HB2 := hid (HB1.out.trans (hb1.mono HB1.out.size))
  rw [trues_reach hms] at hown1
  obtain ⟨rl, hrl⟩ : ∃ l, reachL code [(a : Int)] false = l := ⟨_, rfl⟩
  rw [hrl] at hown1
  have HRl := hid hrl
  have HPr := hid (show placesN code a = rl.map Int.toNat from by rw [placesN, hrl])
  have HMb := hid (show ∀ y ∈ rl, ∃ p : Nat, y = (p : Int) ∧ (readP code p).isSome = true ∧ Rc (Gm code false) [(a : Int)] p from fun y hy => by
    rw [← hrl] at hy
    obtain ⟨p, hp, h1, h2⟩ := mem_rl.1 hy
    exact ⟨p, hp, h2, h1⟩)
  have HNd := hid (show rl.Nodup from by
    rw [← hrl]
    unfold reachL truesL
    rw [List.nodup_iff_pairwise_ne]
    refine List.pairwise_map.2 (List.Pairwise.imp ?_ (List.Pairwise.filter _ List.nodup_range))
    intro x y hxy e
    omega)
  have hrlen : rl.length ≤ 2000 := by rw [← hrl]; have := reachL_len code [(a : Int)] false; omega
  have HO1 := hid (own_mono (base' := w.heap.size) hown1 HB1.out.size)
  obtain ⟨s1, c1, rfl⟩ := own_slice hown1
  obtain ⟨lo, hlo⟩ : ∃ b, lostIn code ms = b := ⟨_, rfl⟩
  rw [hlo]
  clear hown1 hb1 hrl hms hlo
  have hz1 := HB2.out.size
  go_wp2_with (refine wpList_make_full _ rfl _ _ 102 rfl w1.heap.size 4 i0 (.bool false) 1 Tryz.underlying102 HI.out H0.out H1.out .i64 .i64 _ _ code.length rfl rfl rfl rfl (by rw [H2.out]; omega) (by simp only [maxLen]; omega) (Nat.le_refl _) ?_; intro w2 hown2 hg2)
  rw [made_bools] at hown2
  obtain ⟨g0, c0, he0, hg0, hat⟩ := BAt.of_own (f := fun _ => false) hown2 (by omega)
  simp only [Value.slice.injEq, Option.some.injEq, Addr.mk.injEq, true_and, and_true] at he0
  obtain ⟨rfl, -⟩ := he0
  have hbg := (Below.refl w1.heap.size w1).grown hg2 (Nat.le_refl _) (by simp)
  have HB3 := hid (HB2.out.trans (hbg.mono hz1))
  have HO3 := hid (own_on HO1.out hbg)
  have HAt := hid hat
  obtain ⟨g, hgg⟩ : ∃ g, w1.heap.size = g := ⟨_, rfl⟩
  rw [hgg] at HAt
  try rw [hgg]
  have HG := hid (show w.heap.size ≤ g by omega)
  have HNo := hid (fun b (hb : (Value.slice s1 rl.length c1).ownBlock = some b) => show b ≠ g from fun h => by have := (HO1.out.lt b hb).2; omega)
  have hz3 := HB3.out.size
  clear hown2 hg2 hbg hat hgg hg0
  go_wp2_with fail
  go_loopw [8] (fun c wr => ∃ (k : Nat) (f : Nat → Bool), c = .int .i64 k ∧ k ≤ rl.length ∧ LdRel code rl g w2 k f wr) (fun c _ => rl.length - (intOf c).toNat)
  case atStart => exact ⟨0, fun _ => false, rfl, by omega, ⟨HAt.out, fun q _ => by simp, Only.refl _ _⟩⟩
  case round =>
    obtain ⟨k, f, rfl, hk, hrel⟩ := hrel
    have HR := hid hrel
    have HBw := hid (HB3.out.trans (hrel.only.below HB3.out.size (fun b hb => by rw [hb]; exact HG.out)))
    have HOr := hid (own_only HO3.out (fun b hb => HNo.out b hb) hrel.only)
    have hzr := hrel.only.size
    obtain ⟨wo, rfl⟩ : ∃ y : World, y = wr := ⟨_, rfl⟩
    clear hrel
    by_cases hlt : k < rl.length
    case neg =>
      obtain rfl : k = rl.length := by omega
      have HF1 := hid (show ∀ q, q < code.length → (f q = true ↔ ∃ y ∈ rl, TurnAt code y ∧ (q : Int) ∈ Gm code false y.toNat) from by have h := HR.out.iff_; rwa [List.take_length] at h)
      go_wp2_with fail
      go_loopw [14] (fun c wr => ∃ (k : Nat) (f2 : Nat → Bool), c = .int .i64 k ∧ k ≤ rl.length ∧ LcRel code rl g f w2 k f2 wr) (fun c _ => rl.length - (intOf c).toNat)
      case atStart => exact ⟨0, f, rfl, by omega, ⟨HR.out.at_, fun q _ => by simp, HR.out.only⟩⟩
      case round =>
        obtain ⟨j, f2, rfl, hj, hrel⟩ := hrel
        have HC := hid hrel
        have HBq := hid (HB3.out.trans (hrel.only.below HB3.out.size (fun b hb => by rw [hb]; exact HG.out)))
        have HOq := hid (own_only HO3.out (fun b hb => HNo.out b hb) hrel.only)
        have hzq := hrel.only.size
        obtain ⟨wi, rfl⟩ : ∃ y : World, y = wr := ⟨_, rfl⟩
        clear hrel
        by_cases hlj : j < rl.length
        case neg =>
          obtain rfl : j = rl.length := by omega
          have HF2 := hid (show ∀ q, q < code.length → (f2 q = true ↔ BegP code (placesN code a) q) from fun q hq => by
            rw [HC.out.iff_ q hq, HF1.out q hq, List.take_length, comes_two HNd.out]
            rw [HPr.out]
            have hmm : ∀ p : Nat, p ∈ rl.map Int.toNat ↔ (p : Int) ∈ rl := fun p => by
              rw [List.mem_map]
              constructor
              · rintro ⟨y, hy, rfl⟩
                obtain ⟨p, rfl, _, _⟩ := HMb.out y hy
                simpa using hy
              · exact fun h => ⟨_, h, by simp⟩
            constructor
            · rintro (⟨y, hy, ⟨i, hi, ht⟩, hq2⟩ | ⟨_, x, hx, y, hy, hne, h1, h2⟩)
              · exact .inl ⟨y.toNat, List.mem_map.2 ⟨y, hy, rfl⟩, i, hi, ht, hq2⟩
              · obtain ⟨p, rfl, _, _⟩ := HMb.out x hx
                obtain ⟨r, rfl, _, _⟩ := HMb.out y hy
                exact .inr ⟨p, (hmm p).2 hx, r, (hmm r).2 hy, fun e => hne (by rw [e]), by simpa using h1, by simpa using h2⟩
            · rintro (⟨p, hp, i, hi, ht, hq2⟩ | ⟨p, hp, r, hr, hne, h1, h2⟩)
              · exact .inl ⟨(p : Int), (hmm p).1 hp, ⟨i, by simpa using hi, ht⟩, by simpa using hq2⟩
              · have hpr := (hmm p).1 hp
                have hqr : (q : Int) ∈ rl := by
                  rw [← HRl.out]
                  obtain ⟨p2, e, _, hrc⟩ := HMb.out _ hpr
                  obtain rfl : p = p2 := by omega
                  exact mem_rl.2 ⟨q, rfl, .step p q hrc h1, HSn.out.rd q (.step p q hrc h1)⟩
                exact .inr ⟨hqr, (p : Int), hpr, (r : Int), (hmm r).1 hr, fun e => hne (by omega), by simpa using h1, by simpa using h2⟩)
          have q0 := HC.out.at_.cell hal
          have qf := HC.out.at_.free a
          have HA5 := hid (HC.out.at_.put hal false)
          have HB5 := hid (Below.setCell HBq.out (p := ⟨g, a, none⟩) (by simp only; exact HG.out) (.bool false))
          have HLead := hid (show [(a : Int)] ++ truesL (fun q => if q = a then false else f2 q) code.length = leadL code a from by
            unfold leadL
            rw [HRl.out, List.singleton_append]
            congr 1
            rw [← HRl.out]
            unfold reachL
            rw [truesL_filter]
            refine truesL_congr (fun q hq => ?_)
            have h2 := HF2.out q hq
            unfold begB
            rw [Int.toNat_natCast]
            by_cases e : q = a
            · subst e; simp
            · rw [if_neg e]
              have e2 : decide ((q : Int) = (a : Int)) = false := decide_eq_false (by omega)
              rw [e2]
              cases hf : f2 q with
              | true =>
                have hbp := h2.1 hf
                have hin : Rc (Gm code false) [(a : Int)] q ∧ (readP code q).isSome = true := by
                  have : ∃ p, p ∈ placesN code a ∧ (q : Int) ∈ Gm code false p := by
                    rcases hbp with ⟨p, hp, _, _, _, h⟩ | ⟨p, hp, _, _, _, h, _⟩
                    · exact ⟨p, hp, h⟩
                    · exact ⟨p, hp, h⟩
                  obtain ⟨p, hp, h⟩ := this
                  have hrc := (mem_places HSn.out).1 hp
                  exact ⟨.step p q hrc h, HSn.out.rd q (.step p q hrc h)⟩
                rw [pdec_yes hin, pdec_yes hbp]
                rfl
              | false =>
                rw [pdec_no (P := BegP code (placesN code a) q) (fun h => by rw [h2.2 h] at hf; cases hf)]
                simp)
          obtain ⟨f3, hf3⟩ : ∃ f3, (fun q => if q = a then false else f2 q) = f3 := ⟨_, rfl⟩
          rw [hf3] at HA5 HLead
          go_upto_region 19 with fail
          clear q0 qf hf3
          generalize wi.setCell ⟨g, a, none⟩ (.bool false) = w5 at HA5 HB5 ⊢
          have hz5 := HB5.out.size
          have HL6 := hid (own_lit w5 [(a : Int)] #[.int .i64 a] rfl (by simp) 1 rfl)
          have HB6 := hid (HB5.out.alloc hz5 (.cells #[.int .i64 a] 3))
          have HA6 := hid (HA5.out.on ((Below.refl w5.heap.size w5).alloc (Nat.le_refl _) (.cells #[.int .i64 a] 3)))
          have hz6 : w5.heap.size ≤ (w5.alloc (.cells #[.int .i64 a] 3)).heap.size := by simp
          go_wp2_with fail
          refine (trues_c code.length g code.length f3 _ HA6.out hlen).mono ?_
          rintro e w7 ⟨v7, rfl, hown7, hb7⟩
          have HL7 := hid (own_on HL6.out hb7)
          have HB7 := hid (HB6.out.trans (hb7.mono HB6.out.size))
          obtain ⟨tl, htl⟩ : ∃ l, truesL f3 code.length = l := ⟨_, rfl⟩
          have htll : tl.length ≤ 2000 := by rw [← htl]; have := truesL_len f3 code.length; omega
          rw [htl] at hown7 HLead
          obtain ⟨s7, c7, rfl⟩ := own_slice hown7
          have HSrc := hid (SrcAt.of_rd (Rd.of_own hown7))
          have HZ7 := hid (show w5.heap.size ≤ w7.heap.size from by have := hb7.size; omega)
          have hA : [(a : Int)].length + tl.length ≤ 1000000000 := by simp only [List.length_singleton]; omega
          have HA10 := hid hA
          obtain ⟨gl, hgl⟩ : ∃ x, w5.heap.size = x := ⟨_, rfl⟩
          rw [hgl] at HL7 HZ7 hz5
          try rw [hgl]
          obtain ⟨al, hal2⟩ : ∃ l, [(a : Int)] = l := ⟨_, rfl⟩
          have HAl := hid (show al.length = 1 from by rw [← hal2]; rfl)
          have HL8 := hid (show w7.ownsRow gl 3 1 (.slice (some ⟨gl, 0, none⟩) 1 1) al.length (ints al) from by rw [← hal2]; exact HL7.out)
          rw [hal2] at HA10 HLead
          clear hown7 hb7 htl hA hgl hal2
          go_wp2_with (at_builtin; refine app_ints _ rfl _ _ rfl gl al tl _ rfl HL8.out _ _ _ rfl rfl HSrc.out HA10.out HZ7.out ?_)
          intro v9 w9 hg9
          have hown9 := hg9.own
          rw [HLead.out] at hown9
          obtain ⟨ll, hll⟩ : ∃ l, leadL code a = l := ⟨_, rfl⟩
          rw [hll] at hown9
          have HLl := hid hll
          have HO9 := hid hown9
          have HB9 := hid (HB7.out.trans (hg9.bel.mono hz5))
          obtain ⟨s9, c9, rfl⟩ := own_slice hown9
          clear hg9 hown9 hll
          go_wp2_with fail
          go_ret
          unfold WaysPost2
          rw [HLl.out]
          exact ⟨_, rfl, own_mono HO9.out hz5, HB9.out⟩
        obtain ⟨p, hp, hps, _⟩ := HMb.out rl[j] (List.getElem_mem hlj)
        obtain ⟨i, hi⟩ := Option.isSome_iff_exists.1 hps
        have hpl := (readP_facts hi).1
        have HPj := hid hp
        obtain ⟨_, _, he, hcs⟩ := Rd.of_own HOq.out
        cases he
        rcases hcs with h | ⟨g4, o4, rfl, hg4, hcs⟩
        · subst h; simp at hlj
        have q0 := hcs j hlj
        have HGd := hid (show rl.getD j 0 = (p : Int) by simp [hlj, hp])
        rw [HGd.out] at q0
        clear hcs hp hps hi
        go_wp2_with fail
        refine (comes_c code rl ac _ cc c1 (p : Int) wi (HRd.out.on HBq.out) (Rd.of_own HOq.out) HBy.out hlen hrlen (fun y hy => by obtain ⟨p, h1, h2, _⟩ := HMb.out y hy; exact ⟨p, h1, h2⟩)).mono ?_
        rintro e w5 ⟨rfl, hb5⟩
        have HA5 := hid (HC.out.at_.on hb5)
        have HO5 := hid (own_on HOq.out hb5)
        have HB5 := hid hb5
        obtain ⟨_, _, he, hcs⟩ := Rd.of_own HO5.out
        cases he
        rcases hcs with h | ⟨g6, o6, he6, hg6, hcs⟩
        · subst h; simp at hlj
        simp only [Option.some.injEq, Addr.mk.injEq, and_true] at he6
        obtain ⟨rfl, rfl⟩ := he6
        have q0 := hcs j hlj
        rw [HGd.out] at q0
        have hmem : ∀ q : Nat, (q : Int) ∈ rl.take (j + 1) ↔ (q : Int) ∈ rl.take j ∨ q = p := fun q => by
          rw [take_mem_succ hlj, HPj.out]
          constructor
          · exact fun h => h.imp id (fun h => by omega)
          · exact fun h => h.imp id (fun h => by omega)
        have HMem := hid hmem
        obtain ⟨cn, hcn⟩ : ∃ n, comesN code (p : Int) rl = n := ⟨_, rfl⟩
        rw [hcn]
        have HCn := hid hcn
        clear hcs hb5 hmem hcn
        by_cases hgt : 1 < cn
        · have qb := HA5.out.cell hpl
          have qf := HA5.out.free p
          have HA6 := hid (HA5.out.put hpl true)
          go_wp2_with fail
          go_roundw
          case rel =>
            refine ⟨j + 1, _, by go_num, by omega, ⟨HA6.out, fun q hq => ?_, (HC.out.only.trans (.of_below HB5.out)).setCell (g := g) rfl p _⟩⟩
            rw [HMem.out q]
            by_cases e : q = p
            · subst e
              simp only [if_true, true_iff]
              exact .inr ⟨.inr (by trivial), by rw [HCn.out]; exact hgt⟩
            · simp only [if_neg e]
              rw [HC.out.iff_ q hq]
              constructor
              · exact fun h => h.imp id (fun h => ⟨.inl h.1, h.2⟩)
              · exact fun h => h.imp id (fun h => ⟨h.1.elim id (fun h2 => absurd h2 e), h.2⟩)
          case measure => simp [intOf]; omega
        · go_wp2_with fail
          go_roundw
          case rel =>
            refine ⟨j + 1, f2, by go_num, by omega, ⟨HA5.out, fun q hq => ?_, HC.out.only.trans (.of_below HB5.out)⟩⟩
            rw [HMem.out q, HC.out.iff_ q hq]
            constructor
            · exact fun h => h.imp id (fun h => ⟨.inl h.1, h.2⟩)
            · refine fun h => h.imp id (fun h => ⟨h.1.elim id (fun h2 => ?_), h.2⟩)
              have h3 := h.2
              rw [h2, HCn.out] at h3
              exact absurd h3 hgt
          case measure => simp [intOf]; omega
    obtain ⟨p, hp, hps, hrc⟩ := HMb.out rl[k] (List.getElem_mem hlt)
    obtain ⟨⟨jop, ja, jb, jn⟩, hi⟩ := Option.isSome_iff_exists.1 hps
    have hf := readP_facts hi
    have hpl := hf.1
    have HV := hid hf.2.1
    have HI2 := hid hi
    have HRc := hid hrc
    have hs1 := hf.2.2.1
    have hs5 := hf.2.2.2.1
    have HGm := hid (show nextsP code ⟨jop, ja, jb, jn⟩ (p + slong ⟨jop, ja, jb, jn⟩) = Gm code false p from (gm_off hi).symm)
    have hx := byte_at HBy.out p hpl
    have HSo := hid (((readP_in hpl).trans (insIn_eq code p hx.1 hx.2)).symm.trans hi)
    have HTk := hid (show ∀ y, y ∈ rl.take (k + 1) ↔ y ∈ rl.take k ∨ y = (p : Int) from fun y => by rw [take_mem_succ hlt, hp])
    have HTu := hid (show TurnAt code (p : Int) ↔ turnI ⟨jop, ja, jb, jn⟩ = true from by
      unfold TurnAt
      rw [Int.toNat_natCast, hi]
      constructor
      · rintro ⟨i, h, ht⟩; cases h; exact ht
      · exact fun h => ⟨_, rfl, h⟩)
    obtain ⟨_, _, he, hcs⟩ := Rd.of_own HOr.out
    cases he
    rcases hcs with h | ⟨g4, o4, rfl, hg4, hcs⟩
    · subst h; simp at hlt
    have q0 := hcs k hlt
    have HGd := hid (show rl.getD k 0 = (p : Int) by simp [hlt, hp])
    rw [HGd.out] at q0
    clear hcs hp hps hi hf hx hrc
    go_wp2_with fail
    refine (sRead_c code _ p _ (HRd.out.on HBw.out) HBy.out hlen hpl).mono ?_
    rintro e w5 ⟨i5, rfl, hij, hb5⟩
    rw [HSo.out]
    obtain rfl := hij ⟨jop, ja, jb, jn⟩ HSo.out
    unfold IIns.val
    simp only [Option.isSome_some]
    obtain ⟨w6, hw6, hr6, hb6, hz6⟩ := new_ex w5 70 #[.int .i64 jop, .int .i64 ja, .int .i64 jb, .int .i64 jn]
    have HB56 := hid (hb5.trans (hb6.mono hb5.size))
    have HB6 := hid (HBw.out.trans (HB56.out.mono HBw.out.size))
    have HX6 := hid hr6
    have HO6 := hid (own_on HOr.out HB56.out)
    clear hij hb5 hr6 hb6 q0
    go_upto_region 7 with fail
    clear hw6
    obtain ⟨gx, hgx⟩ : ∃ x, w5.heap.size = x := ⟨_, rfl⟩
    rw [hgx] at HX6
    try rw [hgx]
    have x0 := HX6.out.cell 0
    have x1 := HX6.out.cell 1
    have x2 := HX6.out.cell 2
    have x3 := HX6.out.cell 3
    simp at x0 x1 x2 x3
    obtain ⟨_, _, he, hcs⟩ := Rd.of_own HO6.out
    cases he
    rcases hcs with h | ⟨g7, o7, he7, hg7, hcs⟩
    · subst h; simp at hlt
    simp only [Option.some.injEq, Addr.mk.injEq, and_true] at he7
    obtain ⟨rfl, rfl⟩ := he7
    have q0 := hcs k hlt
    rw [HGd.out] at q0
    clear hcs hgx
    go_cut [11] (fun s wx => ∃ s8 c8, s = .slice s8 (Gm code false p).length c8 ∧ wx.ownsRow w6.heap.size 3 1 s (Gm code false p).length (ints (Gm code false p)) ∧ Below w6.heap.size w6 wx)
    case first =>
      go_region_with (go_at_call 87; refine (nexts_c code _ p ⟨jop, ja, jb, jn⟩ _ ((HRd.out.on HB6.out).on (Below.refl _ _).drew) HBy.out hlen (by omega) HV.out hs1 hs5).mono ?_; rintro e w8 ⟨v8, rfl, hown8, hb8⟩; rw [HGm.out] at hown8; have HO8 := hid hown8; have HB8 := hid (((Below.refl w6.heap.size w6).drew).trans hb8); obtain ⟨s8, c8, rfl⟩ := own_slice hown8; clear hown8 hb8)
      all_goals
        go_wp2_with fail
        go_meet
        exact ⟨_, _, rfl, HO8.out, HB8.out⟩
    case rest =>
      obtain ⟨s8, c8, rfl, hown8, hb8⟩ := hcut
      generalize wc = w8 at hown8 hb8 ⊢
      have HO8 := hid hown8
      have HB8 := hid (HB56.out.trans (hb8.mono HB56.out.size))
      have hgl : (Gm code false p).length ≤ 10 := (gm_bd HBy.out hlen false (S := []) (fun q hq => by cases hq)).len p (by omega)
      have HQ := hid (show ∀ t (h : t < (Gm code false p).length), ∃ q : Nat, (Gm code false p)[t] = (q : Int) ∧ q < code.length from fun t h => by
        have h1 : (Gm code false p)[t] ∈ Gm code false p := List.getElem_mem h
        obtain ⟨q, hq⟩ := Int.eq_ofNat_of_zero_le (HSn.out.nn p _ h1)
        rw [hq] at h1
        obtain ⟨j, hj⟩ := Option.isSome_iff_exists.1 (HSn.out.rd q (.step p q HRc.out h1))
        exact ⟨q, hq, (readP_facts hj).1⟩)
      obtain ⟨l, hl⟩ : ∃ l, Gm code false p = l := ⟨_, rfl⟩
      rw [hl] at hgl HO8 HQ ⊢
      have HL := hid hl
      have HX8 := hid (HX6.out.on hb8)
      have x0 := HX8.out.cell 0
      have x1 := HX8.out.cell 1
      have x2 := HX8.out.cell 2
      have x3 := HX8.out.cell 3
      simp at x0 x1 x2 x3
      have HA8 := hid (HR.out.at_.on HB8.out)
      obtain ⟨tu, htu⟩ : ∃ b, turnI ⟨jop, ja, jb, jn⟩ = b := ⟨_, rfl⟩
      have HTb := hid htu
      clear hown8 q0 hl htu hb8
      go_upto_region 8 with fail
      go_cut [56] (fun s wx => s = .bool tu ∧ Below w8.heap.size w8 wx)
      case first =>
        go_wp2_with fail
        refine (isJump_c ⟨jop, ja, jb, jn⟩ w8).mono ?_
        rintro e w9 ⟨rfl, hb9⟩
        have HX9 := hid (HX8.out.on hb9)
        have HB9 := hid hb9
        have y0 := HX9.out.cell 0
        simp at y0
        simp only
        clear hb9
        cases hj : (decide (jop = 27) || decide (jop = 28))
        · have htv : tu = decide (jop = 30) := by
            rw [← HTb.out]
            unfold turnI
            simp only [Bool.or_eq_false_iff, decide_eq_false_iff_not] at hj
            simp only
            rw [Bool.eq_iff_iff]
            simp only [decide_eq_true_eq]
            omega
          have HTv := hid htv
          clear htv hj
          by_cases h30 : jop = 30
          · have h30b : (jop == 30) = true := by simpa using h30
            have HE := hid (show tu = true by rw [HTv.out]; simpa using h30)
            clear h30
            go_wp2_with fail
            go_meet
            exact ⟨by rw [HE.out], HB9.out⟩
          · have h30b : (jop == 30) = false := by simpa using h30
            have HE := hid (show tu = false by rw [HTv.out]; simpa using h30)
            clear h30
            go_wp2_with fail
            go_meet
            exact ⟨by rw [HE.out], HB9.out⟩
        · have HE := hid (show tu = true by
            rw [← HTb.out]
            unfold turnI
            simp only [Bool.or_eq_true, decide_eq_true_eq] at hj ⊢
            omega)
          clear hj
          go_wp2_with fail
          go_meet
          exact ⟨by rw [HE.out], HB9.out⟩
      case rest =>
        obtain ⟨rfl, hb9⟩ := hcut
        generalize wc = w9 at hb9 ⊢
        have HA9 := hid (HA8.out.on hb9)
        have HO9 := hid (own_on HO8.out hb9)
        have HOn9 := hid ((Only.of_below HB8.out).trans (Only.of_below hb9) : Only (fun b => b = g) wo w9)
        have HGl := hid (show ∀ b, (Value.slice s8 l.length c8).ownBlock = some b → b ≠ g from fun b hb h => by
          have h1 := (HO8.out.lt b hb).1
          have h2 := HR.out.at_.lt
          have h3 := HB56.out.size
          omega)
        clear x0 x1 x2 x3 hb9
        cases tu
        · go_wp2_with fail
          go_roundw
          case rel =>
            refine ⟨k + 1, f, by go_num, by omega, ⟨HA9.out, fun q hq => ?_, HR.out.only.trans HOn9.out⟩⟩
            rw [HR.out.iff_ q hq]
            constructor
            · rintro ⟨y, hy, h⟩
              exact ⟨y, (HTk.out y).2 (.inl hy), h⟩
            · rintro ⟨y, hy, ht, hq2⟩
              rcases (HTk.out y).1 hy with h | h
              · exact ⟨y, h, ht, hq2⟩
              · rw [h, HTu.out, HTb.out] at ht
                cases ht
          case measure => simp [intOf]; omega
        · go_wp2_with fail
          go_loopw [13] (fun c wr => ∃ (t : Nat) (f' : Nat → Bool), c = .int .i64 t ∧ t ≤ l.length ∧ LiRel code.length g f l w9 t f' wr) (fun c _ => l.length - (intOf c).toNat)
          case atStart => exact ⟨0, f, rfl, by omega, ⟨HA9.out, fun q _ => by simp, Only.refl _ _⟩⟩
          case round =>
            obtain ⟨t, f', rfl, ht, hrel⟩ := hrel
            have HT := hid hrel
            have HOt := hid (own_only HO9.out (fun b hb h => HGl.out b hb h) hrel.only)
            clear hrel
            by_cases hlt' : t < l.length
            case neg =>
              obtain rfl : t = l.length := by omega
              go_wp2_with fail
              go_roundw
              case rel =>
                refine ⟨k + 1, f', by go_num, by omega, ⟨HT.out.at_, fun q hq => ?_, HR.out.only.trans (HOn9.out.trans HT.out.only)⟩⟩
                have h1 := HT.out.iff_ q hq
                rw [List.take_length] at h1
                rw [h1, HR.out.iff_ q hq]
                constructor
                · rintro (⟨y, hy, h⟩ | h)
                  · exact ⟨y, (HTk.out y).2 (.inl hy), h⟩
                  · exact ⟨(p : Int), (HTk.out _).2 (.inr rfl), HTu.out.2 HTb.out, by rw [Int.toNat_natCast, HL.out]; exact h⟩
                · rintro ⟨y, hy, ht, hq2⟩
                  rcases (HTk.out y).1 hy with h | h
                  · exact .inl ⟨y, h, ht, hq2⟩
                  · rw [h, Int.toNat_natCast, HL.out] at hq2
                    exact .inr hq2
              case measure => simp [intOf]; omega
            obtain ⟨q, hq1, hq2⟩ := HQ.out t hlt'
            have HQ1 := hid hq1
            obtain ⟨_, _, he, hcs⟩ := Rd.of_own HOt.out
            cases he
            rcases hcs with h | ⟨g9, o9, rfl, hg9, hcs⟩
            · subst h; simp at hlt'
            have hnc := hcs t hlt'
            rw [show l.getD t 0 = (q : Int) by simp [hlt', hq1]] at hnc
            have qb := HT.out.at_.cell hq2
            have qf := HT.out.at_.free q
            have HA10 := hid (HT.out.at_.put hq2 true)
            clear hcs hq1
            go_wp2_with fail
            go_roundw
            case rel =>
              refine ⟨t + 1, _, by go_num, by omega, ⟨HA10.out, fun r hr => ?_, HT.out.only.setCell (g := g) rfl q _⟩⟩
              rw [take_mem_succ hlt', HQ1.out]
              by_cases e : r = q
              · subst e; simp
              · simp only [if_neg e]
                rw [HT.out.iff_ r hr]
                constructor
                · exact fun h => h.imp id .inl
                · exact fun h => h.imp id (fun h => h.elim id (fun h2 => absurd (by omega) e))
            case measure => simp [intOf]; omega
end Go.Proofs.YtihhpgklpichgaaGreat.Wk
/- Framed of the model. -/
namespace Go.Proofs.YtihhpgklpichgaaGreat.Wk
open Go.RowKit Pl Ft Mm In C2 Im Sw Gp

set_option maxRecDepth 100000 in
set_option maxHeartbeats 4000000 in
theorem sframed_c (m : Img) (vc vd vn : Value) (w : World) (h : ICells w vc vd vn m) (h1 : imageOk m = true) :
    Calls Tryz.prog 74 #[imgVal vc vd vn m] w fun e w' => e = .returned (.bool (!(lostG m.code (Gw m.code) [m.entry]) && (decide ((funsL m).length ≤ 10) && (funsL m).all fun x => okFr m.code x.toNat))) ∧ Below w.heap.size w w' := by
  obtain ⟨ac, cc, rfl⟩ := rd_slice h.c
  obtain ⟨ad, cd, rfl⟩ := rd_slice h.d
  obtain ⟨an, cn, rfl⟩ := nrd_slice h.n
  have HI := hid h
  have HOk := hid h1
  have HBd := hid (imageOk_bd h1)
  have hfl := funsL_len2 m h1
  clear h h1
  have hV : imgVal (.slice ac m.code.length cc) (.slice ad m.data.length cd) (.slice an m.names.length cn) m = .agg #[.slice ac m.code.length cc, .int .i64 m.entry, .int .i64 m.room, .slice ad m.data.length cd, .slice an m.names.length cn] := rfl
  have HV := hid hV
  rw [hV]
  clear hV
  have HX1 := hid (Row.new w 30 #[.slice ac m.code.length cc, .int .i64 m.entry, .int .i64 m.room, .slice ad m.data.length cd, .slice an m.names.length cn])
  have HB1 := hid ((Below.refl w.heap.size w).alloc (Nat.le_refl _) (.cells #[.slice ac m.code.length cc, .int .i64 m.entry, .int .i64 m.room, .slice ad m.data.length cd, .slice an m.names.length cn] 30))
  obtain ⟨fl, hfs⟩ : ∃ l, funsL m = l := ⟨_, rfl⟩
  have HFl := hid hfs
  rw [hfs] at hfl ⊢
  obtain ⟨lo, hlo⟩ : ∃ b, lostG m.code (Gw m.code) [m.entry] = b := ⟨_, rfl⟩
  have HLo := hid hlo
  rw [hlo]
  clear hfs hlo
  go_enter Tryz.func74, Tryz.ntmps74
  go_wp2_with fail
  generalize w.alloc (.cells #[.slice ac m.code.length cc, .int .i64 m.entry, .int .i64 m.room, .slice ad m.data.length cd, .slice an m.names.length cn] 30) = w1 at HB1 HX1 ⊢
  rw [← HV.out]
  refine (ssound_c m _ _ _ w1 (HI.out.on HB1.out) HOk.out).mono ?_
  rintro e w2 ⟨rfl, hb2⟩
  rw [HLo.out]
  have HX2 := hid (HX1.out.on hb2)
  have HB2 := hid (HB1.out.trans (hb2.mono HB1.out.size))
  have x0 := HX2.out.cell 0
  have x1 := HX2.out.cell 1
  have x2 := HX2.out.cell 2
  have x3 := HX2.out.cell 3
  have x4 := HX2.out.cell 4
  simp at x0 x1 x2 x3 x4
  clear hb2
  cases lo
  case true =>
    go_wp2_with fail
    go_ret
    exact ⟨rfl, HB2.out⟩
  have hV2 : (Value.agg #[.slice ac m.code.length cc, .int .i64 m.entry, .int .i64 m.room, .slice ad m.data.length cd, .slice an m.names.length cn]) = imgVal (.slice ac m.code.length cc) (.slice ad m.data.length cd) (.slice an m.names.length cn) m := rfl
  go_wp2_with fail
  try rw [hV2]
  refine (sFuns_c m _ _ _ w2 (HI.out.on HB2.out) HOk.out).mono ?_
  rintro e w3 ⟨v3, rfl, hown3, hb3⟩
  rw [HFl.out] at hown3
  have HX3 := hid (HX2.out.on hb3)
  have HB3 := hid (HB2.out.trans (hb3.mono HB2.out.size))
  obtain ⟨s3, c3, rfl⟩ := own_slice hown3
  clear hown3 hb3 x0 x1 x2 x3 x4
  have x0 := HX3.out.cell 0
  have x1 := HX3.out.cell 1
  have x2 := HX3.out.cell 2
  have x3 := HX3.out.cell 3
  have x4 := HX3.out.cell 4
  simp at x0 x1 x2 x3 x4
  by_cases h10 : fl.length > 10
  · have hd : decide (fl.length ≤ 10) = false := decide_eq_false (by omega)
    have HD := hid hd
    clear hd
    go_wp2_with fail
    go_ret
    rw [HD.out]
    exact ⟨congrArg (fun b => Ending.returned (.bool b)) (by simp), HB3.out⟩
  have H10 := hid (show decide (fl.length ≤ 10) = true from decide_eq_true (by omega))
  go_wp2_with fail
  try rw [hV2]
  refine (sFuns_c m _ _ _ w3 (HI.out.on HB3.out) HOk.out).mono ?_
  rintro e w4 ⟨v4, rfl, hown4, hb4⟩
  rw [HFl.out] at hown4
  have HX4 := hid (HX3.out.on hb4)
  have HB4 := hid (HB3.out.trans (hb4.mono HB3.out.size))
  have HO4 := hid hown4
  obtain ⟨s4, c4, rfl⟩ := own_slice hown4
  clear hown4 hb4 x0 x1 x2 x3 x4 hV2
  go_wp2_with fail
  go_loopw [4] (fun c wr => ∃ k : Nat, c = .int .i64 k ∧ k ≤ fl.length ∧ ((fl.take k).all fun x => okFr m.code x.toNat) = true ∧ Below w4.heap.size w4 wr) (fun c _ => fl.length - (intOf c).toNat)
  case atStart => exact ⟨0, rfl, by omega, rfl, Below.refl _ _⟩
  case round =>
    obtain ⟨k, rfl, hk, hall, hbw⟩ := hrel
    have HAll := hid hall
    have HBw := hid hbw
    have HXw := hid (HX4.out.on hbw)
    have HBt := hid (HB4.out.trans (hbw.mono HB4.out.size))
    have HOw := hid (own_on HO4.out hbw)
    obtain ⟨wo, rfl⟩ : ∃ y : World, y = wr := ⟨_, rfl⟩
    clear hall hbw
    by_cases hlt : k < fl.length
    case neg =>
      obtain rfl : k = fl.length := by omega
      have hal := HAll.out
      rw [List.take_length] at hal
      have HAl := hid hal
      clear hal
      go_wp2_with fail
      go_ret
      rw [H10.out, HAl.out]
      exact ⟨congrArg (fun b => Ending.returned (.bool b)) (by simp), HBt.out⟩
    have hmem : fl[k] ∈ fl := List.getElem_mem hlt
    have hsf : isSf m fl[k] = true := by unfold isSf isFunP; rw [HOk.out, HLo.out, HFl.out, decide_eq_true hmem]; rfl
    obtain ⟨a, ha⟩ := sf_nat hsf
    rw [ha] at hsf
    have HSf := hid (sf_snd hsf)
    have HT := hid (show ((fl.take (k + 1)).all fun x => okFr m.code x.toNat) = (((fl.take k).all fun x => okFr m.code x.toNat) && okFr m.code a) from by rw [List.take_succ_eq_append_getElem hlt, List.all_append, ha]; simp)
    have HNo := hid (show okFr m.code a = false → (fl.all fun x => okFr m.code x.toNat) = false from fun h => by
      rw [List.all_eq_false]
      exact ⟨fl[k], List.getElem_mem hlt, by rw [ha, Int.toNat_natCast, h]; decide⟩)
    obtain ⟨_, _, he, hcs⟩ := Rd.of_own HOw.out
    cases he
    rcases hcs with h | ⟨g4, o4, rfl, hg4, hcs⟩
    · subst h; simp at hlt
    have q0 := hcs k hlt
    have HGd := hid (show fl.getD k 0 = (a : Int) by simp [hlt, ha])
    rw [HGd.out] at q0
    have x0 := HXw.out.cell 0
    have hlw := HXw.out.lt
    simp at x0
    clear hcs hmem hsf ha
    go_upto_region 7 with fail
    go_cut [6] (fun s wx => s = .bool (pdec (okH m.code a)) ∧ Below wo.heap.size wo wx)
    case first =>
      go_region_with (go_at_call 72; refine (sHeights_c m.code a ac cc _ ((HI.out.on HBt.out).c.on (Below.refl _ _).drew) HBd.out.cb HBd.out.c1 HSf.out.2.2.2.2 HSf.out.2.2.2.1).mono ?_; rintro e w8 ⟨v8, rfl, hown8, hb8⟩; rw [heightsO_some]; have HB8 := hid (((Below.refl wo.heap.size wo).drew).trans hb8); obtain ⟨n8, hn8⟩ : ∃ n, ((heightsO m.code a).getD []).length = n := ⟨_, rfl⟩; rw [hn8] at hown8; obtain ⟨s8, c8, rfl⟩ := own_slice hown8; clear hown8 hb8 hn8)
      all_goals
        go_wp2_with fail
        go_meet
        exact ⟨rfl, HB8.out⟩
    case rest =>
      obtain ⟨rfl, hb9⟩ := hcut
      generalize wc = w9 at hb9 ⊢
      have HB9 := hid hb9
      have HXr := hid (HXw.out.on hb9)
      have HO9 := hid (own_on HOw.out hb9)
      have HBs := hid (HBt.out.trans (hb9.mono HBt.out.size))
      clear hb9 x0 q0 hlw
      obtain ⟨ok, hok⟩ : ∃ b, pdec (okH m.code a) = b := ⟨_, rfl⟩
      rw [hok]
      have HOkH := hid hok
      clear hok
      obtain ⟨_, _, he, hcs⟩ := Rd.of_own HO9.out
      cases he
      rcases hcs with h | ⟨g6, o6, he6, hg6, hcs⟩
      · subst h; simp at hlt
      simp only [Option.some.injEq, Addr.mk.injEq, and_true] at he6
      obtain ⟨rfl, rfl⟩ := he6
      have q0 := hcs k hlt
      rw [HGd.out] at q0
      have x0 := HXr.out.cell 0
      simp at x0
      clear hcs
      go_upto_region 8 with fail
      go_cut [46] (fun s wx => s = .bool (!okFr m.code a) ∧ Below w9.heap.size w9 wx)
      case first =>
        have HFr := hid (show okFr m.code a = (ok && decide ((leadL m.code a).length ≤ 30)) from by unfold okFr; rw [HOkH.out])
        cases ok
        · go_region
          all_goals
            go_wp2_with fail
            go_meet
            exact ⟨by rw [HFr.out]; rfl, by first | exact (Below.refl _ _).drew | exact Below.refl _ _⟩
        · go_region_with (go_at_call 112; refine (leaders_c m.code a ac cc _ ((HI.out.on HBs.out).c.on (Below.refl _ _).drew) HBd.out.cb HBd.out.c1 HSf.out.2.2.2.2 HSf.out.2.2.2.1).mono ?_; rintro e w10 ⟨v10, rfl, hown10, hb10⟩; have HB10 := hid (((Below.refl w9.heap.size w9).drew).trans hb10); obtain ⟨ln, hln⟩ : ∃ n, (leadL m.code a).length = n := ⟨_, rfl⟩; rw [hln] at hown10; have HLn := hid hln; obtain ⟨s10, c10, rfl⟩ := own_slice hown10; clear hown10 hb10 hln)
          all_goals
            go_wp2_with fail
            go_meet
            refine ⟨congrArg Value.bool ?_, HB10.out⟩
            rw [HFr.out, HLn.out]
            have hle : decide ((30 : Int) < (ln : Int)) = !decide (ln ≤ 30) := by
              by_cases h : ln ≤ 30
              · rw [decide_eq_true h, decide_eq_false (by omega)]; rfl
              · rw [decide_eq_false h, decide_eq_true (by omega)]; rfl
            simp
            exact hle
      case rest =>
        obtain ⟨rfl, hb10⟩ := hcut
        generalize wc = w10 at hb10 ⊢
        have HB10 := hid (HBw.out.trans ((HB9.out.trans (hb10.mono HB9.out.size)).mono HBw.out.size))
        have HBs10 := hid (HBs.out.trans (hb10.mono HBs.out.size))
        obtain ⟨b, hb⟩ : ∃ b, okFr m.code a = b := ⟨_, rfl⟩
        rw [hb]
        have HBb := hid hb
        clear hb hb10 q0 x0
        cases b
        · go_wp2_with fail
          go_ret
          rw [HNo.out HBb.out]
          exact ⟨congrArg (fun b => Ending.returned (.bool b)) (by simp), HBs10.out⟩
        · go_wp2_with fail
          go_roundw
          case rel => exact ⟨k + 1, by go_num, by omega, by rw [HT.out, HAll.out, HBb.out]; rfl, HB10.out⟩
          case measure => simp [intOf]; omega
set_option maxRecDepth 100000 in
set_option maxHeartbeats 4000000 in
theorem sFramed_c (m : Img) (vc vd vn : Value) (w : World) (h : ICells w vc vd vn m) (hs : Sm m) :
    Calls Tryz.prog 39 #[imgVal vc vd vn m] w fun e w' => e = .returned (.bool (framedP m)) ∧ Below w.heap.size w w' := by
  obtain ⟨ac, cc, rfl⟩ := rd_slice h.c
  obtain ⟨ad, cd, rfl⟩ := rd_slice h.d
  obtain ⟨an, cn, rfl⟩ := nrd_slice h.n
  have HI := hid h
  have HS := hid hs
  clear h hs
  have hV : imgVal (.slice ac m.code.length cc) (.slice ad m.data.length cd) (.slice an m.names.length cn) m = .agg #[.slice ac m.code.length cc, .int .i64 m.entry, .int .i64 m.room, .slice ad m.data.length cd, .slice an m.names.length cn] := rfl
  have HV := hid hV
  rw [hV]
  clear hV
  have HX1 := hid (Row.new w 30 #[.slice ac m.code.length cc, .int .i64 m.entry, .int .i64 m.room, .slice ad m.data.length cd, .slice an m.names.length cn])
  have HB1 := hid ((Below.refl w.heap.size w).alloc (Nat.le_refl _) (.cells #[.slice ac m.code.length cc, .int .i64 m.entry, .int .i64 m.room, .slice ad m.data.length cd, .slice an m.names.length cn] 30))
  obtain ⟨o, ho⟩ : ∃ o, framedP m = o := ⟨_, rfl⟩
  have HO := hid ho
  rw [ho]
  clear ho
  go_enter Tryz.func39, Tryz.ntmps39
  go_wp2_with fail
  generalize w.alloc (.cells #[.slice ac m.code.length cc, .int .i64 m.entry, .int .i64 m.room, .slice ad m.data.length cd, .slice an m.names.length cn] 30) = w1 at HB1 HX1 ⊢
  rw [← HV.out]
  refine (validImage_c m _ _ _ w1 (HI.out.on HB1.out) HS.out).mono ?_
  rintro e w2 ⟨rfl, hb2⟩
  have HX2 := hid (HX1.out.on hb2)
  have HB2 := hid (HB1.out.trans (hb2.mono HB1.out.size))
  have x0 := HX2.out.cell 0
  have x1 := HX2.out.cell 1
  have x2 := HX2.out.cell 2
  have x3 := HX2.out.cell 3
  have x4 := HX2.out.cell 4
  simp at x0 x1 x2 x3 x4
  clear hb2
  cases h1 : imageOk m
  · obtain rfl : o = false := by rw [← HO.out, framedP, h1]; rfl
    clear h1
    go_wp2_with fail
    go_ret
    exact ⟨rfl, HB2.out⟩
  · have HOk := hid h1
    have hV2 : (Value.agg #[.slice ac m.code.length cc, .int .i64 m.entry, .int .i64 m.room, .slice ad m.data.length cd, .slice an m.names.length cn]) = imgVal (.slice ac m.code.length cc) (.slice ad m.data.length cd) (.slice an m.names.length cn) m := rfl
    clear h1
    go_wp2_with fail
    try rw [hV2]
    refine (sframed_c m _ _ _ w2 (HI.out.on HB2.out) HOk.out).mono ?_
    rintro e w3 ⟨rfl, hb3⟩
    have HB3 := hid (HB2.out.trans (hb3.mono HB2.out.size))
    obtain ⟨b, hb⟩ : ∃ b, (!(lostG m.code (Gw m.code) [m.entry]) && (decide ((funsL m).length ≤ 10) && (funsL m).all fun x => okFr m.code x.toNat)) = b := ⟨_, rfl⟩
    rw [hb]
    have HBb := hid hb
    clear hb hb3 x0 x1 x2 x3 x4 hV2
    go_wp2_with fail
    go_ret
    have he : b = o := by rw [← HO.out, framedP, HOk.out, Bool.true_and, HBb.out]
    exact ⟨congrArg (fun b => Ending.returned (.bool b)) he, HB3.out⟩
end Go.Proofs.YtihhpgklpichgaaGreat.Wk
/- The exact law of Framed: the walk. -/
namespace Go.Proofs.YtihhpgklpichgaaGreat.Wk
open Go.RowKit Pl Ft Mm In C2 Im Sw

set_option maxRecDepth 100000 in
set_option maxHeartbeats 2000000 in
theorem exactFramed_w (m : Img) (vc vd vn : Value) (w : World) (hc : Rd w vc m.code) (hd : Rd w vd m.data) (hn : NRd w vn m.names) (hw : Wide m) :
    Calls Tryz.prog 11 #[imgVal vc vd vn m] w fun e w' => e = .returned (.bool true) ∧ Below w.heap.size w w' := by
  have HC := hid hc
  have HD := hid hd
  have HN := hid hn
  have HW := hid hw
  clear hc hd hn hw
  have hV : imgVal vc vd vn m = .agg #[vc, .int .i64 m.entry, .int .i64 m.room, vd, vn] := rfl
  rw [hV]
  clear hV
  have HX0 := hid (Row.new w 25 #[vc, .int .i64 m.entry, .int .i64 m.room, vd, vn])
  have HB0 := hid ((Below.refl w.heap.size w).alloc (Nat.le_refl _) (.cells #[vc, .int .i64 m.entry, .int .i64 m.room, vd, vn] 25))
  go_enter Tryz.func11, Tryz.ntmps11
  go_wp2_with fail
  refine (szImage_c m vc vd vn _ _ (HC.out.on HB0.out) (HD.out.on HB0.out) (HN.out.on HB0.out) HW.out (by omega) (by omega)).mono ?_
  rintro e w1 ⟨x, rfl, hx1, hx0, hxp, hb1⟩
  have HB1 := hid (HB0.out.trans (hb1.mono HB0.out.size))
  have HX1 := hid (HX0.out.on hb1)
  have HP := hid hxp
  have hz1 := hb1.size
  simp only [World.size_alloc] at hz1
  clear hb1 hxp
  by_cases hx : 0 ≤ x
  case neg =>
    go_wp2_with fail
    go_ret
    exact ⟨rfl, HB1.out⟩
  have HS := hid (HP.out hx)
  have x0 := HX1.out.cell 0
  have x1 := HX1.out.cell 1
  have x2 := HX1.out.cell 2
  have x3 := HX1.out.cell 3
  have x4 := HX1.out.cell 4
  simp at x0 x1 x2 x3 x4
  go_wp2_with fail
  refine (toImage_c m vc vd vn _ (HC.out.on HB1.out) (HD.out.on HB1.out) (HN.out.on HB1.out) HS.out).mono ?_
  rintro e w2 ⟨ac, ad, an, rfl, hown2, hb2⟩
  have HO2 := hid hown2
  have HB2 := hid (HB1.out.trans (hb2.mono HB1.out.size))
  have HX2 := hid (HX1.out.on hb2)
  have hz2 := hb2.size
  clear hown2 hb2 x0 x1 x2 x3 x4
  go_wp2_with fail
  refine (sFramed_c m ac ad an _ HO2.out.cells HS.out).mono ?_
  rintro e w3 ⟨rfl, hb3⟩
  have HB3 := hid (HB2.out.trans (hb3.mono HB2.out.size))
  have HX3 := hid (HX2.out.on hb3)
  have hz3 := hb3.size
  clear hb3
  have x0 := HX3.out.cell 0
  have x1 := HX3.out.cell 1
  have x2 := HX3.out.cell 2
  have x3 := HX3.out.cell 3
  have x4 := HX3.out.cell 4
  simp at x0 x1 x2 x3 x4
  go_wp2_with fail
  refine (toImage_c m vc vd vn _ (HC.out.on HB3.out) (HD.out.on HB3.out) (HN.out.on HB3.out) HS.out).mono ?_
  rintro e w4 ⟨bc, bd, bn, rfl, hown4, hb4⟩
  have HO4 := hid hown4
  have HB4 := hid (HB3.out.trans (hb4.mono HB3.out.size))
  have HX4 := hid (HX3.out.on hb4)
  have hz4 := hb4.size
  clear hown4 hb4 x0 x1 x2 x3 x4
  obtain ⟨s1, c1, rfl⟩ := own_slice HO4.out.c
  obtain ⟨s2, c2, rfl⟩ := own_slice HO4.out.d
  obtain ⟨s3, c3, rfl⟩ := own_slice HO4.out.n
  unfold imgVal
  simp only
  go_wp2_with fail
  have HY4 := hid (Row.new w4 30 #[.slice s1 m.code.length c1, .int .i64 m.entry, .int .i64 m.room, .slice s2 m.data.length c2, .slice s3 m.names.length c3])
  have HB5 := hid (HB4.out.alloc HB4.out.size (.cells #[.slice s1 m.code.length c1, .int .i64 m.entry, .int .i64 m.room, .slice s2 m.data.length c2, .slice s3 m.names.length c3] 30))
  have HX5 := hid (HX4.out.alloc (.cells #[.slice s1 m.code.length c1, .int .i64 m.entry, .int .i64 m.room, .slice s2 m.data.length c2, .slice s3 m.names.length c3] 30))
  have HO5 := hid (HO4.out.on ((Below.refl _ _).alloc (Nat.le_refl _) (.cells #[.slice s1 m.code.length c1, .int .i64 m.entry, .int .i64 m.room, .slice s2 m.data.length c2, .slice s3 m.names.length c3] 30)))
  refine (framed_c m _ _ _ _ HO5.out.cells HS.out (own_cap3 HO4.out.c)).mono ?_
  rintro e w6 ⟨rfl, hb6⟩
  have HY6 := hid (HY4.out.on hb6)
  have HX6 := hid (HX5.out.on hb6)
  have HO6 := hid (HO5.out.on hb6)
  have HB6 := hid (HB5.out.trans (hb6.mono HB5.out.size))
  have hz6 := hb6.size
  simp only [World.size_alloc] at hz6
  clear hb6
  have x0 := HX6.out.cell 0
  have x1 := HX6.out.cell 1
  have x2 := HX6.out.cell 2
  have x3 := HX6.out.cell 3
  have x4 := HX6.out.cell 4
  have y0 := HY6.out.cell 0
  have y1 := HY6.out.cell 1
  have y2 := HY6.out.cell 2
  have y3 := HY6.out.cell 3
  have y4 := HY6.out.cell 4
  simp at x0 x1 x2 x3 x4 y0 y1 y2 y3 y4
  have hw4 : w4.heap.size < w6.heap.size := by omega
  have hw0 : w.heap.size < w6.heap.size := by omega
  cases hok : framedP m
  all_goals
    go_wp2_with fail
    go_region_with (first
      | (go_at_call 15; refine (toImage_c m vc vd vn _ (HC.out.on HB6.out.drew) (HD.out.on HB6.out.drew) (HN.out.on HB6.out.drew) HS.out).mono ?_; rintro e w7 ⟨tc, td, tn, rfl, hown7, hb7⟩; have HO7 := hid hown7; have HB7 := hid hb7; have HY7 := hid (HY6.out.drew.on hb7); have z0 := HY7.out.cell 0; have z1 := HY7.out.cell 1; have z2 := HY7.out.cell 2; have z3 := HY7.out.cell 3; have z4 := HY7.out.cell 4; simp at z0 z1 z2 z3 z4; clear hown7 hb7)
      | (go_at_call 18; refine (eqImage_own m _ _ _ _ _ _ _ (HO6.out.on ((Below.refl _ _).drew.trans HB7.out)) HO7.out HS.out).mono ?_; rintro e w8 ⟨rfl, hb8⟩))
    all_goals
      have HB8 := hid ((HB6.out.drew.trans (HB7.out.mono HB6.out.drew.size)).trans (hb8.mono (HB6.out.drew.trans (HB7.out.mono HB6.out.drew.size)).size))
      clear hb8 x0 x1 x2 x3 x4 y0 y1 y2 y3 y4
      go_wp2_with fail
      go_ret
      exact ⟨rfl, HB8.out⟩
end Go.Proofs.YtihhpgklpichgaaGreat.Wk
