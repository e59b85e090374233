/- What operators make of two words, and what memory tells: of, truth, memory, cellIn of the program; binary, bit, memAt of the model. -/
import Derived.Test.YtffibmlgdacafaaDoorUd
import Derived.Test.YtffibmlgdacafaaDoorBase
set_option linter.unusedSimpArgs false
set_option linter.unusedVariables false
namespace Go.Proofs.YtffibmlgdacafaaDoor.Um
open Go.RowKit Pl Ft Mm In C2 Im
open C1 (fEq fLess fLow hol)

def opOf (o : Opr) (a b : Int) : Int := if o.asks then (if hol o.number (fEq a b) (fLess a b) (fLow a b) then 1 else 0) else aluDo o.number a b
def opVal (s : ByteArray) (a b : Int) : Int := opOf ((opFound s).getD .none) a b
theorem alu_word {op a b : Int} (ha : isW a = true) (hb : isW b = true) : 0 ≤ alu op a b ∧ alu op a b ≤ 65535 := by
  unfold alu
  have h3 := nand_b a b ha hb
  have h4 := nor_b a b ha hb
  have h5 := nxor_b a b ha hb
  repeat' split
  all_goals first | omega | exact h3.2 | exact h4.2 | exact h5.2
theorem truth_c (b : Bool) (w : World) : Calls Tryd.prog 107 #[.bool b] w fun e w' => e = .returned (.int .i64 (if b then 1 else 0)) ∧ w' = w := by
  cases b
  all_goals
    go_enter Tryd.func107, Tryd.ntmps107
    go_wp2_with fail
    go_ret
    exact ⟨rfl, rfl⟩
theorem bit_c (b : Bool) (w : World) : Calls Tryd.prog 120 #[.bool b] w fun e w' => e = .returned (.int .i64 (if b then 1 else 0)) ∧ w' = w := by
  cases b
  all_goals
    go_enter Tryd.func120, Tryd.ntmps120
    go_wp2_with fail
    go_ret
    exact ⟨rfl, rfl⟩
set_option maxHeartbeats 2000000 in
theorem of_c (o : Opr) (a b : Int) (w : World) : Calls Tryd.prog 106 #[o.val, .int .i64 a, .int .i64 b] w fun e w' => e = .returned (.int .i64 (opOf o a b)) ∧ Below w.heap.size w w' := by
  obtain ⟨t, k, n⟩ := o
  unfold Opr.val opOf
  simp only
  have HB0 := hid ((Below.refl w.heap.size w).alloc (Nat.le_refl _) (.cells #[.string t, .bool k, .int .i64 n] 119))
  have HX0 := hid (Row.new w 119 #[.string t, .bool k, .int .i64 n])
  cases k
  · go_enter Tryd.func106, Tryd.ntmps106
    go_wp2_with fail
    refine (C1.aluDo_c n a b _).mono ?_
    rintro e w1 ⟨rfl, hb1⟩
    have HB1 := hid (HB0.out.trans (hb1.mono HB0.out.size))
    obtain ⟨z, hz⟩ : ∃ z, aluDo n a b = z := ⟨_, rfl⟩
    rw [hz]
    have HZ := hid hz
    clear hb1 hz
    go_wp2_with fail
    go_ret
    exact ⟨int_eq (by simp [HZ.out]), HB1.out⟩
  · cases hh : hol n (fEq a b) (fLess a b) (fLow a b)
    all_goals
      have HH := hid hh
      clear hh
      go_enter Tryd.func106, Tryd.ntmps106
      go_wp2_with fail
      go_region_with (first
        | (go_at_call 25; refine (C1.flagsOf_c a b _).mono ?_; rintro e w1 ⟨rfl, hb1⟩; have HB1 := hid (HB0.out.drew.trans (hb1.mono HB0.out.drew.size)); have HX1 := hid (HX0.out.drew.on hb1); have x2 := HX1.out.cell 2; simp at x2; clear hb1)
        | (go_at_call 24; refine (C1.condHolds_c n _ _ _ _).mono ?_; rw [HH.out]; rintro e w2 ⟨rfl, hb2⟩; have HB2 := hid (HB1.out.trans (hb2.mono HB1.out.size)); clear hb2)
        | (go_at_call 107; refine (truth_c _ _).mono ?_; (first | rw [if_pos rfl] | rw [if_neg Bool.false_ne_true]); rintro e w3 ⟨rfl, rfl⟩))
      all_goals
        go_wp2_with fail
        go_ret
        exact ⟨int_eq (by simp), HB2.out⟩
theorem found_lit : ∀ k, k < 9 → opFound (oprs.getD k .none).text = some (oprs.getD k .none) := by
  intro k hk
  refine found_at hk (by simp) ?_
  intro j hj
  have hj9 : j < 9 := by omega
  simp only [ByteArray.toList_eq]
  revert j
  revert k
  decide
theorem op_mem {s : ByteArray} (h : isOp s = true) : ∃ k, k < 9 ∧ s = (oprs.getD k .none).text := by
  have hm : s.toList ∈ opTexts := by simpa [isOp] using h
  simp only [opTexts, List.mem_cons, List.not_mem_nil, or_false] at hm
  rcases hm with h | h | h | h | h | h | h | h | h
  · exact ⟨0, by omega, text_of h⟩
  · exact ⟨1, by omega, text_of h⟩
  · exact ⟨2, by omega, text_of h⟩
  · exact ⟨3, by omega, text_of h⟩
  · exact ⟨4, by omega, text_of h⟩
  · exact ⟨5, by omega, text_of h⟩
  · exact ⟨6, by omega, text_of h⟩
  · exact ⟨7, by omega, text_of h⟩
  · exact ⟨8, by omega, text_of h⟩
theorem opVal_lit {k : Nat} (hk : k < 9) (a b : Int) : opVal (oprs.getD k .none).text a b = opOf (oprs.getD k .none) a b := by
  rw [opVal, found_lit k hk]; rfl
theorem opVal_word {s : ByteArray} (h : isOp s = true) {a b : Int} (ha : isW a = true) (hb : isW b = true) : 0 ≤ opVal s a b ∧ opVal s a b ≤ 65535 := by
  obtain ⟨k, hk, rfl⟩ := op_mem h
  rw [opVal_lit hk]
  unfold opOf
  split
  · split <;> omega
  · unfold aluDo
    rw [ha, hb]
    have h9 : k = 0 ∨ k = 1 ∨ k = 2 ∨ k = 3 ∨ k = 4 ∨ k = 5 ∨ k = 6 ∨ k = 7 ∨ k = 8 := by omega
    have := alu_word (op := (oprs.getD k .none).number) ha hb
    rcases h9 with rfl | rfl | rfl | rfl | rfl | rfl | rfl | rfl | rfl <;> simpa [oprs] using this
/-- What memory tells from an address on. -/
def memIn (mem : List Int) (a : Int) (wide : Nat) : Option Int := if a + wide ≤ mem.length then some (numIn ((mem.drop a.toNat).take wide)) else none
end Go.Proofs.YtffibmlgdacafaaDoor.Um
