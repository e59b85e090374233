/- opened of the model: which row a first byte opens. -/
import Derived.Test.YtihhpgklpichgaaGreatRead
import Derived.Test.YtihhpgklpichgaaGreatC2t
import Derived.Test.YtihhpgklpichgaaGreatIm4
set_option linter.unusedSimpArgs false
set_option linter.unusedVariables false
namespace Go.Proofs.YtihhpgklpichgaaGreat.C2
open Go.RowKit Pl Ft Mm In Im

def openVal (x : Int) : Value := match sopened x with
  | none => .tuple #[.int .i64 (-1), .int .i64 0]
  | some k => .tuple #[.int .i64 k, .int .i64 (x - (stab.getD k .none).first)]
theorem stab_bd : ∀ k, k < 31 → (0 ≤ (stab.getD k .none).first ∧ (stab.getD k .none).first ≤ 200) ∧ (0 ≤ (stab.getD k .none).a ∧ (stab.getD k .none).a ≤ 20) ∧ (0 ≤ (stab.getD k .none).b ∧ (stab.getD k .none).b ≤ 20) := by decide +kernel
def NoneHit (x : Int) (k : Nat) : Prop := ∀ j, j < k → shit x j = false
theorem NoneHit.succ {x : Int} {k : Nat} (h : NoneHit x k) (hk : shit x k = false) : NoneHit x (k + 1) := by
  intro j hj
  by_cases e : j = k
  · subst e; exact hk
  · exact h j (by omega)
theorem range_find_some {p : Nat → Bool} {k n : Nat} (hk : k < n) (hno : ∀ j, j < k → p j = false) (hp : p k = true) : (List.range n).find? p = some k := by
  rw [List.find?_range_eq_some]
  refine ⟨hp, List.mem_range.2 hk, fun j hj => by rw [hno j hj]; rfl⟩
theorem range_find_none {p : Nat → Bool} {n : Nat} (hno : ∀ j, j < n → p j = false) : (List.range n).find? p = none := by
  rw [List.find?_eq_none]
  intro j hj
  rw [hno j (List.mem_range.1 hj)]
  simp
theorem sopened_at {x : Int} {k : Nat} (hk : k < 31) (hno : NoneHit x k) (h : shit x k = true) : sopened x = some k := range_find_some hk hno h
theorem sopened_no {x : Int} (hno : NoneHit x 31) : sopened x = none := range_find_none hno
theorem shit_eq {x : Int} {k : Nat} {f : SForm} (hf : stab.getD k .none = f) {m : Int} (hm : smore f = m) : shit x k = (inRange x f.first (f.first + m) || ((k == 27 || k == 28) && inRange x (f.first + 8) (f.first + 8 + m))) := by
  subst hf hm
  rfl
def OpenPost (x : Int) (w : World) (e : Ending) (w' : World) : Prop := e = .returned (openVal x) ∧ Below w.heap.size w w'
theorem open_yes {x : Int} {k : Nat} {f : SForm} {w wr : World} (hf : stab.getD k .none = f) (h : sopened x = some k) (hb : Below w.heap.size w wr) : OpenPost x w (.returned (.tuple #[.int .i64 k, .int .i64 (x - f.first)])) wr := by
  subst hf
  exact ⟨by unfold openVal; rw [h], hb⟩
set_option maxRecDepth 100000 in
set_option maxHeartbeats 4000000 in
theorem sOpened_c (x : Int) (h0 : 0 ≤ x) (h1 : x ≤ 255) (w : World) : Calls Tryz.prog 105 #[.int .i64 x] w (OpenPost x w) := by
  go_enter Tryz.func105, Tryz.ntmps105
  go_wp2_with fail
  refine (sforms_c _).mono ?_
  rintro e w1 ⟨g, cap, rfl, hown, hb⟩
  have HOw := hid hown
  have HB := hid hb
  clear hown hb
  go_wp2_with fail
  go_loopw [5] (fun c wr => ∃ k : Nat, c = .int .i64 k ∧ k ≤ 31 ∧ NoneHit x k ∧ ∃ m, wr = w1.drewN m) (fun c _ => 31 - (intOf c).toNat)
  case atStart => exact ⟨0, rfl, by omega, fun j hj => by omega, 0, rfl⟩
  case round =>
    obtain ⟨k, rfl, hk, hno, hw⟩ := hrel
    have HNo := hid hno
    have HW := hid hw
    have HCell := hid (cell_wd hw)
    clear hno hw
    by_cases hlt : k < 31
    · obtain ⟨c0, c1, c2, c3, _, _, _, _⟩ := sforms_at (show k ≤ 30 by omega) HOw.out
      have hbd := stab_bd k hlt
      obtain ⟨f, hf⟩ : ∃ f, stab.getD k .none = f := ⟨_, rfl⟩
      rw [hf] at c0 c1 c2 c3 hbd
      have HF := hid hf
      clear hf
      obtain ⟨first, plus, fa, fb, flow, fhigh, frest⟩ := f
      simp only at c0 c1 c2 c3 hbd
      obtain ⟨⟨b0, b1⟩, ⟨b2, b3⟩, b4, b5⟩ := hbd
      rw [← HCell.out] at c0 c1 c2 c3
      have k1 : (k : Int) < 31 := by omega
      have k0 : 0 ≤ (k : Int) := by omega
      obtain ⟨m, hm⟩ : ∃ m, smore ⟨first, plus, fa, fb, flow, fhigh, frest⟩ = m := ⟨_, rfl⟩
      have hsh := shit_eq (x := x) HF.out hm
      simp only at hsh
      have HSh := hid hsh
      clear hsh
      by_cases hp1 : plus = 97
      · obtain rfl : fa = m := by rw [← hm]; simp [smore, hp1]
        have hp : (plus == 97) = true := by simpa using hp1
        clear hm hp1
        have ws : IntKind.i64.wrap (first + fa) = first + fa := IntWalk.i64_in _ (by omega)
        cases hr1 : inRange x first (first + fa)
        · have HR1 := hid hr1
          clear hr1
          go_wp2_with fail
          go_quiet ((go_at_call 83; exact Calls.quiet_of_same (inR_q HR1.out _)))
          have HW2 := hid (wd_more HW.out nq)
          have HC2 := hid (show ∀ p, (wr.drewN nq).cell? p = wr.cell? p from fun p => rfl)
          generalize wr.drewN nq = wx at HW2 HC2 ⊢
          rw [← HC2.out] at c0 c1 c2 c3
          by_cases h27 : k = 27 ∨ k = 28
          · have hkk : (k == 27 || k == 28) = true := by rcases h27 with rfl | rfl <;> rfl
            have HKK := hid hkk
            have ws2 : IntKind.i64.wrap (first + 8) = first + 8 := IntWalk.i64_in _ (by omega)
            have ws3 : IntKind.i64.wrap (first + 8 + fa) = first + 8 + fa := IntWalk.i64_in _ (by omega)
            clear hkk ws
            cases hr2 : inRange x (first + 8) (first + 8 + fa)
            · have HNh := hid (show shit x k = false by rw [HSh.out, HR1.out, hr2]; simp)
              have HR2 := hid hr2
              clear hr2
              rcases h27 with h27 | h27
              · have e1 : ((k : Int) == 27) = true := by rw [h27]; rfl
                clear h27
                go_wp2_with fail
                go_quiet ((go_at_call 83; exact Calls.quiet_of_same (inR_q HR2.out _)))
                clear ws2 ws3 e1 c0 c1 c2 c3 hp
                go_wp2_with fail
                go_roundw
                case rel => exact ⟨k + 1, by go_num, by omega, HNo.out.succ HNh.out, wd_more HW2.out _⟩
                case measure => simp [intOf]; omega
              · have e1 : ((k : Int) == 27) = false := by rw [h27]; rfl
                have e2 : ((k : Int) == 28) = true := by rw [h27]; rfl
                clear h27
                go_wp2_with fail
                go_quiet ((go_at_call 83; exact Calls.quiet_of_same (inR_q HR2.out _)))
                clear ws2 ws3 e1 e2 c0 c1 c2 c3 hp
                go_wp2_with fail
                go_roundw
                case rel => exact ⟨k + 1, by go_num, by omega, HNo.out.succ HNh.out, wd_more HW2.out _⟩
                case measure => simp [intOf]; omega
            · have HSo := hid (sopened_at hlt HNo.out (by rw [HSh.out, HR1.out, HKK.out, hr2]; rfl))
              have HR2 := hid hr2
              clear hr2
              have wd : IntKind.i64.wrap (x - first) = x - first := IntWalk.i64_in _ (by omega)
              rcases h27 with h27 | h27
              · have e1 : ((k : Int) == 27) = true := by rw [h27]; rfl
                clear h27
                go_wp2_with fail
                go_quiet ((go_at_call 83; exact Calls.quiet_of_same (inR_q HR2.out _)))
                clear ws2 ws3 e1 hp
                go_wp2_with fail
                go_quiet (fail)
                clear wd c0 c1 c2 c3
                go_wp2_with fail
                go_ret2
                obtain ⟨mm, hmm⟩ := wd_more (wd_more HW2.out _) _
                rw [hmm]
                exact open_yes HF.out HSo.out (HB.out.trans ((below_drewN _ mm).mono HB.out.size))
              · have e1 : ((k : Int) == 27) = false := by rw [h27]; rfl
                have e2 : ((k : Int) == 28) = true := by rw [h27]; rfl
                clear h27
                go_wp2_with fail
                go_quiet ((go_at_call 83; exact Calls.quiet_of_same (inR_q HR2.out _)))
                clear ws2 ws3 e1 e2 hp
                go_wp2_with fail
                go_quiet (fail)
                clear wd c0 c1 c2 c3
                go_wp2_with fail
                go_ret2
                obtain ⟨mm, hmm⟩ := wd_more (wd_more HW2.out _) _
                rw [hmm]
                exact open_yes HF.out HSo.out (HB.out.trans ((below_drewN _ mm).mono HB.out.size))
          · have HNh := hid (show shit x k = false by
              have e : (k == 27 || k == 28) = false := by
                rw [Bool.or_eq_false_iff, beq_eq_false_iff_ne, beq_eq_false_iff_ne]; omega
              rw [HSh.out, HR1.out, e]; rfl)
            have e1 : ((k : Int) == 27) = false := by rw [beq_eq_false_iff_ne]; omega
            have e2 : ((k : Int) == 28) = false := by rw [beq_eq_false_iff_ne]; omega
            clear h27 ws
            go_wp2_with fail
            go_quiet (fail)
            clear e1 e2 c0 c1 c2 c3 hp
            go_wp2_with fail
            go_roundw
            case rel => exact ⟨k + 1, by go_num, by omega, HNo.out.succ HNh.out, wd_more HW2.out _⟩
            case measure => simp [intOf]; omega
        · have HR1 := hid hr1
          have HSo := hid (sopened_at hlt HNo.out (by rw [HSh.out, hr1]; rfl))
          clear hr1
          have wd : IntKind.i64.wrap (x - first) = x - first := IntWalk.i64_in _ (by omega)
          go_wp2_with fail
          go_quiet ((go_at_call 83; exact Calls.quiet_of_same (inR_q HR1.out _)))
          clear ws hp
          go_wp2_with fail
          go_quiet (fail)
          clear wd c0 c1 c2 c3
          go_wp2_with fail
          go_ret2
          obtain ⟨mm, hmm⟩ := wd_more (wd_more HW.out _) _
          rw [hmm]
          exact open_yes HF.out HSo.out (HB.out.trans ((below_drewN _ mm).mono HB.out.size))
      · have hp : (plus == 97) = false := by simpa using hp1
        by_cases hp2 : plus = 98
        · obtain rfl : fb = m := by rw [← hm]; simp [smore, hp2]
          have hq : (plus == 98) = true := by simpa using hp2
          clear hm hp1 hp2
          have ws : IntKind.i64.wrap (first + fb) = first + fb := IntWalk.i64_in _ (by omega)
          cases hr1 : inRange x first (first + fb)
          · have HR1 := hid hr1
            clear hr1
            go_wp2_with fail
            go_quiet ((go_at_call 83; exact Calls.quiet_of_same (inR_q HR1.out _)))
            have HW2 := hid (wd_more HW.out nq)
            have HC2 := hid (show ∀ p, (wr.drewN nq).cell? p = wr.cell? p from fun p => rfl)
            generalize wr.drewN nq = wx at HW2 HC2 ⊢
            rw [← HC2.out] at c0 c1 c2 c3
            by_cases h27 : k = 27 ∨ k = 28
            · have hkk : (k == 27 || k == 28) = true := by rcases h27 with rfl | rfl <;> rfl
              have HKK := hid hkk
              have ws2 : IntKind.i64.wrap (first + 8) = first + 8 := IntWalk.i64_in _ (by omega)
              have ws3 : IntKind.i64.wrap (first + 8 + fb) = first + 8 + fb := IntWalk.i64_in _ (by omega)
              clear hkk ws
              cases hr2 : inRange x (first + 8) (first + 8 + fb)
              · have HNh := hid (show shit x k = false by rw [HSh.out, HR1.out, hr2]; simp)
                have HR2 := hid hr2
                clear hr2
                rcases h27 with h27 | h27
                · have e1 : ((k : Int) == 27) = true := by rw [h27]; rfl
                  clear h27
                  go_wp2_with fail
                  go_quiet ((go_at_call 83; exact Calls.quiet_of_same (inR_q HR2.out _)))
                  clear ws2 ws3 e1 c0 c1 c2 c3 hp hq
                  go_wp2_with fail
                  go_roundw
                  case rel => exact ⟨k + 1, by go_num, by omega, HNo.out.succ HNh.out, wd_more HW2.out _⟩
                  case measure => simp [intOf]; omega
                · have e1 : ((k : Int) == 27) = false := by rw [h27]; rfl
                  have e2 : ((k : Int) == 28) = true := by rw [h27]; rfl
                  clear h27
                  go_wp2_with fail
                  go_quiet ((go_at_call 83; exact Calls.quiet_of_same (inR_q HR2.out _)))
                  clear ws2 ws3 e1 e2 c0 c1 c2 c3 hp hq
                  go_wp2_with fail
                  go_roundw
                  case rel => exact ⟨k + 1, by go_num, by omega, HNo.out.succ HNh.out, wd_more HW2.out _⟩
                  case measure => simp [intOf]; omega
              · have HSo := hid (sopened_at hlt HNo.out (by rw [HSh.out, HR1.out, HKK.out, hr2]; rfl))
                have HR2 := hid hr2
                clear hr2
                have wd : IntKind.i64.wrap (x - first) = x - first := IntWalk.i64_in _ (by omega)
                rcases h27 with h27 | h27
                · have e1 : ((k : Int) == 27) = true := by rw [h27]; rfl
                  clear h27
                  go_wp2_with fail
                  go_quiet ((go_at_call 83; exact Calls.quiet_of_same (inR_q HR2.out _)))
                  clear ws2 ws3 e1 hp hq
                  go_wp2_with fail
                  go_quiet (fail)
                  clear wd c0 c1 c2 c3
                  go_wp2_with fail
                  go_ret2
                  obtain ⟨mm, hmm⟩ := wd_more (wd_more HW2.out _) _
                  rw [hmm]
                  exact open_yes HF.out HSo.out (HB.out.trans ((below_drewN _ mm).mono HB.out.size))
                · have e1 : ((k : Int) == 27) = false := by rw [h27]; rfl
                  have e2 : ((k : Int) == 28) = true := by rw [h27]; rfl
                  clear h27
                  go_wp2_with fail
                  go_quiet ((go_at_call 83; exact Calls.quiet_of_same (inR_q HR2.out _)))
                  clear ws2 ws3 e1 e2 hp hq
                  go_wp2_with fail
                  go_quiet (fail)
                  clear wd c0 c1 c2 c3
                  go_wp2_with fail
                  go_ret2
                  obtain ⟨mm, hmm⟩ := wd_more (wd_more HW2.out _) _
                  rw [hmm]
                  exact open_yes HF.out HSo.out (HB.out.trans ((below_drewN _ mm).mono HB.out.size))
            · have HNh := hid (show shit x k = false by
                have e : (k == 27 || k == 28) = false := by
                  rw [Bool.or_eq_false_iff, beq_eq_false_iff_ne, beq_eq_false_iff_ne]; omega
                rw [HSh.out, HR1.out, e]; rfl)
              have e1 : ((k : Int) == 27) = false := by rw [beq_eq_false_iff_ne]; omega
              have e2 : ((k : Int) == 28) = false := by rw [beq_eq_false_iff_ne]; omega
              clear h27 ws
              go_wp2_with fail
              go_quiet (fail)
              clear e1 e2 c0 c1 c2 c3 hp hq
              go_wp2_with fail
              go_roundw
              case rel => exact ⟨k + 1, by go_num, by omega, HNo.out.succ HNh.out, wd_more HW2.out _⟩
              case measure => simp [intOf]; omega
          · have HR1 := hid hr1
            have HSo := hid (sopened_at hlt HNo.out (by rw [HSh.out, hr1]; rfl))
            clear hr1
            have wd : IntKind.i64.wrap (x - first) = x - first := IntWalk.i64_in _ (by omega)
            go_wp2_with fail
            go_quiet ((go_at_call 83; exact Calls.quiet_of_same (inR_q HR1.out _)))
            clear ws hp hq
            go_wp2_with fail
            go_quiet (fail)
            clear wd c0 c1 c2 c3
            go_wp2_with fail
            go_ret2
            obtain ⟨mm, hmm⟩ := wd_more (wd_more HW.out _) _
            rw [hmm]
            exact open_yes HF.out HSo.out (HB.out.trans ((below_drewN _ mm).mono HB.out.size))
        · obtain rfl : 0 = m := by rw [← hm]; simp [smore, hp1, hp2]
          have hq : (plus == 98) = false := by simpa using hp2
          clear hm hp1 hp2
          have hsh0 := HSh.out
          simp only [Int.add_zero] at hsh0
          have HSh := hid hsh0
          clear hsh0
          have ws : IntKind.i64.wrap first = first := IntWalk.i64_in _ (by omega)
          cases hr1 : inRange x first first
          · have HR1 := hid hr1
            clear hr1
            go_wp2_with fail
            go_quiet ((go_at_call 83; exact Calls.quiet_of_same (inR_q HR1.out _)))
            have HW2 := hid (wd_more HW.out nq)
            have HC2 := hid (show ∀ p, (wr.drewN nq).cell? p = wr.cell? p from fun p => rfl)
            generalize wr.drewN nq = wx at HW2 HC2 ⊢
            rw [← HC2.out] at c0 c1 c2 c3
            by_cases h27 : k = 27 ∨ k = 28
            · have hkk : (k == 27 || k == 28) = true := by rcases h27 with rfl | rfl <;> rfl
              have HKK := hid hkk
              have ws2 : IntKind.i64.wrap (first + 8) = first + 8 := IntWalk.i64_in _ (by omega)
              have ws3 : IntKind.i64.wrap (first + 8) = first + 8 := IntWalk.i64_in _ (by omega)
              clear hkk ws
              cases hr2 : inRange x (first + 8) (first + 8)
              · have HNh := hid (show shit x k = false by rw [HSh.out, HR1.out, hr2]; simp)
                have HR2 := hid hr2
                clear hr2
                rcases h27 with h27 | h27
                · have e1 : ((k : Int) == 27) = true := by rw [h27]; rfl
                  clear h27
                  go_wp2_with fail
                  go_quiet ((go_at_call 83; exact Calls.quiet_of_same (inR_q HR2.out _)))
                  clear ws2 ws3 e1 c0 c1 c2 c3 hp hq
                  go_wp2_with fail
                  go_roundw
                  case rel => exact ⟨k + 1, by go_num, by omega, HNo.out.succ HNh.out, wd_more HW2.out _⟩
                  case measure => simp [intOf]; omega
                · have e1 : ((k : Int) == 27) = false := by rw [h27]; rfl
                  have e2 : ((k : Int) == 28) = true := by rw [h27]; rfl
                  clear h27
                  go_wp2_with fail
                  go_quiet ((go_at_call 83; exact Calls.quiet_of_same (inR_q HR2.out _)))
                  clear ws2 ws3 e1 e2 c0 c1 c2 c3 hp hq
                  go_wp2_with fail
                  go_roundw
                  case rel => exact ⟨k + 1, by go_num, by omega, HNo.out.succ HNh.out, wd_more HW2.out _⟩
                  case measure => simp [intOf]; omega
              · have HSo := hid (sopened_at hlt HNo.out (by rw [HSh.out, HR1.out, HKK.out, hr2]; rfl))
                have HR2 := hid hr2
                clear hr2
                have wd : IntKind.i64.wrap (x - first) = x - first := IntWalk.i64_in _ (by omega)
                rcases h27 with h27 | h27
                · have e1 : ((k : Int) == 27) = true := by rw [h27]; rfl
                  clear h27
                  go_wp2_with fail
                  go_quiet ((go_at_call 83; exact Calls.quiet_of_same (inR_q HR2.out _)))
                  clear ws2 ws3 e1 hp hq
                  go_wp2_with fail
                  go_quiet (fail)
                  clear wd c0 c1 c2 c3
                  go_wp2_with fail
                  go_ret2
                  obtain ⟨mm, hmm⟩ := wd_more (wd_more HW2.out _) _
                  rw [hmm]
                  exact open_yes HF.out HSo.out (HB.out.trans ((below_drewN _ mm).mono HB.out.size))
                · have e1 : ((k : Int) == 27) = false := by rw [h27]; rfl
                  have e2 : ((k : Int) == 28) = true := by rw [h27]; rfl
                  clear h27
                  go_wp2_with fail
                  go_quiet ((go_at_call 83; exact Calls.quiet_of_same (inR_q HR2.out _)))
                  clear ws2 ws3 e1 e2 hp hq
                  go_wp2_with fail
                  go_quiet (fail)
                  clear wd c0 c1 c2 c3
                  go_wp2_with fail
                  go_ret2
                  obtain ⟨mm, hmm⟩ := wd_more (wd_more HW2.out _) _
                  rw [hmm]
                  exact open_yes HF.out HSo.out (HB.out.trans ((below_drewN _ mm).mono HB.out.size))
            · have HNh := hid (show shit x k = false by
                have e : (k == 27 || k == 28) = false := by
                  rw [Bool.or_eq_false_iff, beq_eq_false_iff_ne, beq_eq_false_iff_ne]; omega
                rw [HSh.out, HR1.out, e]; rfl)
              have e1 : ((k : Int) == 27) = false := by rw [beq_eq_false_iff_ne]; omega
              have e2 : ((k : Int) == 28) = false := by rw [beq_eq_false_iff_ne]; omega
              clear h27 ws
              go_wp2_with fail
              go_quiet (fail)
              clear e1 e2 c0 c1 c2 c3 hp hq
              go_wp2_with fail
              go_roundw
              case rel => exact ⟨k + 1, by go_num, by omega, HNo.out.succ HNh.out, wd_more HW2.out _⟩
              case measure => simp [intOf]; omega
          · have HR1 := hid hr1
            have HSo := hid (sopened_at hlt HNo.out (by rw [HSh.out, hr1]; rfl))
            clear hr1
            have wd : IntKind.i64.wrap (x - first) = x - first := IntWalk.i64_in _ (by omega)
            go_wp2_with fail
            go_quiet ((go_at_call 83; exact Calls.quiet_of_same (inR_q HR1.out _)))
            clear ws hp hq
            go_wp2_with fail
            go_quiet (fail)
            clear wd c0 c1 c2 c3
            go_wp2_with fail
            go_ret2
            obtain ⟨mm, hmm⟩ := wd_more (wd_more HW.out _) _
            rw [hmm]
            exact open_yes HF.out HSo.out (HB.out.trans ((below_drewN _ mm).mono HB.out.size))
    · obtain rfl : k = 31 := by omega
      have HO := hid (sopened_no HNo.out)
      go_wp2_with fail
      go_ret2
      obtain ⟨m, rfl⟩ := HW.out
      exact ⟨by unfold openVal; rw [HO.out]; rfl, HB.out.trans ((below_drewN _ m).mono HB.out.size)⟩
end Go.Proofs.YtihhpgklpichgaaGreat.C2
