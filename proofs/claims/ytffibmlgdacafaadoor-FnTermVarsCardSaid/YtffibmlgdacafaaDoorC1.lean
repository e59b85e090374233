/- What chapter 1's functions, the program's and the model's, return: one theorem a function, for every input · What AluDo, FlagsOf and CondHolds, the program's and the model's, return: one theorem a function, for every input · What FlagsOf and CondHolds, the program's and the model's, return: one theorem a function, for every input. -/
import Derived.Test.YtffibmlgdacafaaDoorRows
import Derived.Test.YtffibmlgdacafaaDoorBase
import Derived.WalkKit
import Derived.Outline
import Derived.Handy
import Derived.Laws.EntriesVeiled
set_option linter.unusedSimpArgs false
set_option linter.unusedVariables false
namespace Go.Proofs.YtffibmlgdacafaaDoor.C1
open Go.RowKit Pl

theorem isWord_c (n : Int) (w : World) : Calls Tryd.prog 63 #[.int .i64 n] w fun e w' => e = .returned (.bool (isW n)) ∧ w = w' := by
  by_cases h1 : 0 ≤ n
  all_goals by_cases h2 : n ≤ 65535
  all_goals
    go_enter Tryd.func63, Tryd.ntmps63
    go_wp2
    go_ret
    exact ⟨by simp [isW, *], rfl⟩
theorem inRange_c (n l h : Int) (w : World) : Calls Tryd.prog 53 #[.int .i64 n, .int .i64 l, .int .i64 h] w fun e w' => e = .returned (.bool (decide (l ≤ n ∧ n ≤ h))) ∧ w = w' := by
  by_cases h1 : l ≤ n
  all_goals by_cases h2 : n ≤ h
  all_goals
    go_enter Tryd.func53, Tryd.ntmps53
    go_wp2
    go_ret
    exact ⟨by simp [*], rfl⟩
theorem sisWord_c (n : Int) (w : World) : Calls Tryd.prog 118 #[.int .i64 n] w fun e w' => e = .returned (.bool (isW n)) ∧ w = w' := by
  go_enter Tryd.func118, Tryd.ntmps118
  go_wp2_with (go_at_call 53; refine (inRange_c _ _ _ _).mono ?_; rintro e w' ⟨rfl, rfl⟩)
  go_ret
  exact ⟨bool_eq (by simp [isW]), rfl⟩
theorem wordOf_c (n : Int) (w : World) : Calls Tryd.prog 163 #[.int .i64 n] w fun e w' => e = .returned (.int .i64 (n % 65536)) ∧ w = w' := by
  have h1 := Pl.and65535 n
  go_enter Tryd.func163, Tryd.ntmps163
  go_wp2
  go_ret
  exact ⟨rfl, rfl⟩
theorem swrap_c (n : Int) (w : World) : Calls Tryd.prog 136 #[.int .i64 n] w fun e w' => e = .returned (.int .i64 (n % 65536)) ∧ w = w' := by
  go_enter Tryd.func136, Tryd.ntmps136
  go_wp2
  go_ret
  exact ⟨int_eq (wrap_eq n), rfl⟩
theorem signedOf_c (n : Int) (w : World) : Calls Tryd.prog 64 #[.int .i64 n] w fun e w' => e = .returned (.int .i64 (signedOf n)) ∧ w = w' := by
  cases hW : isW n
  · go_enter Tryd.func64, Tryd.ntmps64
    go_wp2_with (go_at_call 63; refine (isWord_c _ _).mono ?_; rintro e w' ⟨rfl, rfl⟩)
    go_ret
    exact ⟨int_eq (by simp [signedOf, hW]), rfl⟩
  · have hb := isW_iff.1 hW
    obtain ⟨hb1, hb2⟩ := hb
    by_cases hs : 32768 ≤ n
    all_goals
      go_enter Tryd.func64, Tryd.ntmps64
      go_wp2_with (go_at_call 63; refine (isWord_c _ _).mono ?_; rintro e w' ⟨rfl, rfl⟩)
      go_ret
      exact ⟨int_eq (by simp only [signedOf, hW, sg]; simp <;> omega), rfl⟩
theorem ssigned_c (n : Int) (hW : isW n = true) (w : World) : Calls Tryd.prog 187 #[.int .i64 n] w fun e w' => e = .returned (.int .i64 (sg n)) ∧ w = w' := by
  obtain ⟨hb1, hb2⟩ := isW_iff.1 hW
  by_cases hs : 32768 ≤ n
  all_goals
    go_enter Tryd.func187, Tryd.ntmps187
    go_wp2
    go_ret
    exact ⟨int_eq (by simp only [sg]; simp <;> omega), rfl⟩
end Go.Proofs.YtffibmlgdacafaaDoor.C1
namespace Go.Proofs.YtffibmlgdacafaaDoor.C1
open Go.RowKit Pl

theorem ops_of {op : Int} (h0 : 0 ≤ op) (h1 : op ≤ 5) : op = 0 ∨ op = 1 ∨ op = 2 ∨ op = 3 ∨ op = 4 ∨ op = 5 := by omega
theorem mul_bd {a b : Int} (ha : 0 ≤ a) (ha' : a ≤ 65535) (hb : 0 ≤ b) (hb' : b ≤ 65535) : 0 ≤ a * b ∧ a * b ≤ 4294836225 := by
  refine ⟨Int.mul_nonneg ha hb, ?_⟩
  have := Int.mul_le_mul ha' hb' hb (by omega)
  omega
theorem alu_c (op a b : Int) (h0 : 0 ≤ op) (h1 : op ≤ 5) (hA : isW a = true) (hB : isW b = true) (w : World) :
    Calls Tryd.prog 165 #[.int .i64 op, .int .i64 a, .int .i64 b] w fun e w' => e = .returned (.int .i64 (alu op a b)) ∧ w = w' := by
  obtain ⟨ha1, ha2⟩ := isW_iff.1 hA
  obtain ⟨hb1, hb2⟩ := isW_iff.1 hB
  obtain ⟨hm1, hm2⟩ := mul_bd ha1 ha2 hb1 hb2
  have hn := hid (nand_b a b hA hB).1
  have ho := hid (nor_b a b hA hB).1
  have hx := hid (nxor_b a b hA hB).1
  rcases ops_of h0 h1 with rfl | rfl | rfl | rfl | rfl | rfl
  all_goals
    go_enter Tryd.func165, Tryd.ntmps165
    go_wp2_with (go_at_call 136; refine (swrap_c _ _).mono ?_; rintro e w' ⟨rfl, rfl⟩)
    go_ret
    exact ⟨int_eq (by first | (simp [alu]; done) | (rw [hn.out]; simp [alu]; done) | (rw [ho.out]; simp [alu]; done) | (rw [hx.out]; simp [alu]; done)), rfl⟩
theorem wordOps_c (w : World) : Calls Tryd.prog 162 #[] w fun e w' => e = .returned (.agg #[.func (.func 181) #[] #[], .func (.func 182) #[] #[], .func (.func 183) #[] #[], .func (.func 184) #[] #[], .func (.func 185) #[] #[], .func (.func 186) #[] #[]]) ∧ Below w.heap.size w w' := by
  go_enter Tryd.func162, Tryd.ntmps162
  go_wp2
  exact bodyPost_ret (v := .agg #[.func (.func 181) #[] #[], .func (.func 182) #[] #[], .func (.func 183) #[] #[], .func (.func 184) #[] #[], .func (.func 185) #[] #[], .func (.func 186) #[] #[]]) (by simp [results, Tryd.results162, go_sem]) rfl ⟨rfl, (Below.refl _ _).alloc (Nat.le_refl _) _⟩
theorem opadd_c (a b : Int) (hA : isW a = true) (hB : isW b = true) (w : World) : Calls Tryd.prog 181 #[.int .i64 a, .int .i64 b] w fun e w' => e = .returned (.int .i64 (a + b)) ∧ w = w' := by
  obtain ⟨ha1, ha2⟩ := isW_iff.1 hA
  obtain ⟨hb1, hb2⟩ := isW_iff.1 hB
  go_enter Tryd.func181, Tryd.ntmps181
  go_wp2
  go_ret
  exact ⟨int_eq rfl, rfl⟩
theorem opsub_c (a b : Int) (hA : isW a = true) (hB : isW b = true) (w : World) : Calls Tryd.prog 182 #[.int .i64 a, .int .i64 b] w fun e w' => e = .returned (.int .i64 (a - b)) ∧ w = w' := by
  obtain ⟨ha1, ha2⟩ := isW_iff.1 hA
  obtain ⟨hb1, hb2⟩ := isW_iff.1 hB
  go_enter Tryd.func182, Tryd.ntmps182
  go_wp2
  go_ret
  exact ⟨int_eq rfl, rfl⟩
theorem opmul_c (a b : Int) (hA : isW a = true) (hB : isW b = true) (w : World) : Calls Tryd.prog 183 #[.int .i64 a, .int .i64 b] w fun e w' => e = .returned (.int .i64 (a * b)) ∧ w = w' := by
  obtain ⟨ha1, ha2⟩ := isW_iff.1 hA
  obtain ⟨hb1, hb2⟩ := isW_iff.1 hB
  obtain ⟨hm1, hm2⟩ := mul_bd ha1 ha2 hb1 hb2
  go_enter Tryd.func183, Tryd.ntmps183
  go_wp2
  go_ret
  exact ⟨int_eq rfl, rfl⟩
theorem opand_c (a b : Int) (hA : isW a = true) (hB : isW b = true) (w : World) : Calls Tryd.prog 184 #[.int .i64 a, .int .i64 b] w fun e w' => e = .returned (.int .i64 (nand a b)) ∧ w = w' := by
  obtain ⟨ha1, ha2⟩ := isW_iff.1 hA
  obtain ⟨hb1, hb2⟩ := isW_iff.1 hB
  have hn := hid (nand_b a b hA hB).1
  go_enter Tryd.func184, Tryd.ntmps184
  go_wp2
  go_ret
  exact ⟨int_eq (by rw [hn.out]), rfl⟩
theorem opor_c (a b : Int) (hA : isW a = true) (hB : isW b = true) (w : World) : Calls Tryd.prog 185 #[.int .i64 a, .int .i64 b] w fun e w' => e = .returned (.int .i64 (nor a b)) ∧ w = w' := by
  obtain ⟨ha1, ha2⟩ := isW_iff.1 hA
  obtain ⟨hb1, hb2⟩ := isW_iff.1 hB
  have hn := hid (nor_b a b hA hB).1
  go_enter Tryd.func185, Tryd.ntmps185
  go_wp2
  go_ret
  exact ⟨int_eq (by rw [hn.out]), rfl⟩
theorem opxor_c (a b : Int) (hA : isW a = true) (hB : isW b = true) (w : World) : Calls Tryd.prog 186 #[.int .i64 a, .int .i64 b] w fun e w' => e = .returned (.int .i64 (nxor a b)) ∧ w = w' := by
  obtain ⟨ha1, ha2⟩ := isW_iff.1 hA
  obtain ⟨hb1, hb2⟩ := isW_iff.1 hB
  have hn := hid (nxor_b a b hA hB).1
  go_enter Tryd.func186, Tryd.ntmps186
  go_wp2
  go_ret
  exact ⟨int_eq (by rw [hn.out]), rfl⟩
set_option maxHeartbeats 2000000 in
theorem aluDo_c (op a b : Int) (w : World) :
    Calls Tryd.prog 138 #[.int .i64 op, .int .i64 a, .int .i64 b] w fun e w' => e = .returned (.int .i64 (aluDo op a b)) ∧ Below w.heap.size w w' := by
  by_cases h0 : op < 0
  · have hO : decide (0 ≤ op ∧ op ≤ 5) = false := by simp; omega
    go_enter Tryd.func138, Tryd.ntmps138
    go_wp2_with (go_at_call 162; refine (wordOps_c _).mono ?_; rintro e w1 ⟨rfl, hb⟩)
    go_ret
    exact ⟨int_eq (by simp only [aluDo, hO]; simp), hb.alloc hb.size _⟩
  · by_cases h6 : 6 ≤ op
    · have hO : decide (0 ≤ op ∧ op ≤ 5) = false := by simp; omega
      go_enter Tryd.func138, Tryd.ntmps138
      go_wp2_with (go_at_call 162; refine (wordOps_c _).mono ?_; rintro e w1 ⟨rfl, hb⟩)
      go_ret
      exact ⟨int_eq (by simp only [aluDo, hO]; simp), hb.alloc hb.size _⟩
    · have hO : decide (0 ≤ op ∧ op ≤ 5) = true := by simp; omega
      have ho1 : 0 ≤ op := by omega
      have ho2 : op < 6 := by omega
      cases hA : isW a
      · go_enter Tryd.func138, Tryd.ntmps138
        go_wp2_with (first | (go_at_call 162; refine (wordOps_c _).mono ?_; rintro e w1 ⟨rfl, hb⟩) | (go_at_call 63; refine (isWord_c _ _).mono ?_; rintro e w' ⟨rfl, rfl⟩))
        go_ret
        exact ⟨int_eq (by simp only [aluDo, hO, hA]; simp), hb.alloc hb.size _⟩
      · cases hB : isW b
        · go_enter Tryd.func138, Tryd.ntmps138
          go_wp2_with (first | (go_at_call 162; refine (wordOps_c _).mono ?_; rintro e w1 ⟨rfl, hb⟩) | (go_at_call 63; refine (isWord_c _ _).mono ?_; rintro e w' ⟨rfl, rfl⟩))
          go_ret
          exact ⟨int_eq (by simp only [aluDo, hO, hA, hB]; simp), hb.alloc hb.size _⟩
        · obtain ⟨ha1, ha2⟩ := isW_iff.1 hA
          obtain ⟨hb1, hb2⟩ := isW_iff.1 hB
          obtain ⟨hm1, hm2⟩ := mul_bd ha1 ha2 hb1 hb2
          have hn := hid (nand_b a b hA hB)
          have ho := hid (nor_b a b hA hB)
          have hx := hid (nxor_b a b hA hB)
          clear hO
          rcases ops_of ho1 (by omega) with rfl | rfl | rfl | rfl | rfl | rfl
          all_goals
            go_enter Tryd.func138, Tryd.ntmps138
            go_wp2_with (first | (go_at_call 162; refine (wordOps_c _).mono ?_; rintro e w1 ⟨rfl, hb⟩) | (go_at_call 63; refine (isWord_c _ _).mono ?_; rintro e w' ⟨rfl, rfl⟩) | (go_at_call 163; refine (wordOf_c _ _).mono ?_; rintro e w' ⟨rfl, rfl⟩) | (go_at_call 181; refine (opadd_c _ _ hA hB _).mono ?_; rintro e w' ⟨rfl, rfl⟩) | (go_at_call 182; refine (opsub_c _ _ hA hB _).mono ?_; rintro e w' ⟨rfl, rfl⟩) | (go_at_call 183; refine (opmul_c _ _ hA hB _).mono ?_; rintro e w' ⟨rfl, rfl⟩) | (go_at_call 184; refine (opand_c _ _ hA hB _).mono ?_; rintro e w' ⟨rfl, rfl⟩) | (go_at_call 185; refine (opor_c _ _ hA hB _).mono ?_; rintro e w' ⟨rfl, rfl⟩) | (go_at_call 186; refine (opxor_c _ _ hA hB _).mono ?_; rintro e w' ⟨rfl, rfl⟩))
            go_ret
            refine ⟨int_eq ?_, hb.alloc hb.size _⟩
            first | (simp [aluDo, alu, hA, hB]; done) | (simp [aluDo, alu, hA, hB]; have := hn.out; have := ho.out; have := hx.out; omega)
end Go.Proofs.YtffibmlgdacafaaDoor.C1
namespace Go.Proofs.YtffibmlgdacafaaDoor.C1
open Go.RowKit Pl

/-- The flags of two numbers, as a value. -/
def fEq (a b : Int) : Bool := isW a && isW b && a == b
def fLess (a b : Int) : Bool := isW a && isW b && decide (sg a < sg b)
def fLow (a b : Int) : Bool := isW a && isW b && decide (a < b)
theorem agg3_eq {a b c a' b' c' : Bool} (h1 : a = a') (h2 : b = b') (h3 : c = c') : Ending.returned (.agg #[.bool a, .bool b, .bool c]) = Ending.returned (.agg #[.bool a', .bool b', .bool c']) := by rw [h1, h2, h3]
theorem compared_c (a b : Int) (hA : isW a = true) (hB : isW b = true) (w : World) :
    Calls Tryd.prog 164 #[.int .i64 a, .int .i64 b] w fun e w' => e = .returned (.agg #[.bool (fEq a b), .bool (fLess a b), .bool (fLow a b)]) ∧ Below w.heap.size w w' := by
  go_enter Tryd.func164, Tryd.ntmps164
  go_wp2_with (go_at_call 187; refine (ssigned_c _ (by assumption) _).mono ?_; rintro e w' ⟨rfl, rfl⟩)
  exact bodyPost_ret (v := .agg #[.bool (a == b), .bool (decide (sg a < sg b)), .bool (decide (a < b))]) (by simp [results, Tryd.results164, go_sem]) rfl ⟨agg3_eq (by simp [fEq, hA, hB]) (by simp [fLess, hA, hB]) (by simp [fLow, hA, hB]), (Below.refl _ _).alloc (Nat.le_refl _) _⟩
theorem flagsOf_c (a b : Int) (w : World) :
    Calls Tryd.prog 25 #[.int .i64 a, .int .i64 b] w fun e w' => e = .returned (.agg #[.bool (fEq a b), .bool (fLess a b), .bool (fLow a b)]) ∧ Below w.heap.size w w' := by
  cases hA : isW a
  · go_enter Tryd.func25, Tryd.ntmps25
    go_wp2_with (first | (go_at_call 63; refine (isWord_c _ _).mono ?_; rintro e w' ⟨rfl, rfl⟩))
    exact bodyPost_ret (v := .agg #[.bool false, .bool false, .bool false]) (by simp [results, Tryd.results25, go_sem]) rfl ⟨agg3_eq (by simp [fEq, hA]) (by simp [fLess, hA]) (by simp [fLow, hA]), (Below.refl _ _).alloc (Nat.le_refl _) _⟩
  · cases hB : isW b
    · go_enter Tryd.func25, Tryd.ntmps25
      go_wp2_with (first | (go_at_call 63; refine (isWord_c _ _).mono ?_; rintro e w' ⟨rfl, rfl⟩))
      exact bodyPost_ret (v := .agg #[.bool false, .bool false, .bool false]) (by simp [results, Tryd.results25, go_sem]) rfl ⟨agg3_eq (by simp [fEq, hA, hB]) (by simp [fLess, hA, hB]) (by simp [fLow, hA, hB]), (Below.refl _ _).alloc (Nat.le_refl _) _⟩
    · have ea : signedOf a = sg a := by simp [signedOf, hA]
      have eb : signedOf b = sg b := by simp [signedOf, hB]
      have Ha := hid ea
      have Hb := hid eb
      clear ea eb
      go_enter Tryd.func25, Tryd.ntmps25
      go_wp2_with (first | (go_at_call 63; refine (isWord_c _ _).mono ?_; rintro e w' ⟨rfl, rfl⟩) | (go_at_call 64; refine (signedOf_c _ _).mono ?_; rintro e w' ⟨rfl, rfl⟩))
      exact bodyPost_ret (v := .agg #[.bool (a == b), .bool (decide (signedOf a < signedOf b)), .bool (decide (a < b))]) (by simp [results, Tryd.results25, go_sem]) rfl ⟨agg3_eq (by simp [fEq, hA, hB]) (by rw [Ha.out, Hb.out]; simp [fLess, hA, hB]) (by simp [fLow, hA, hB]), (Below.refl _ _).alloc (Nat.le_refl _) _⟩
def hol (c : Int) (x y z : Bool) : Bool := if c = 0 then x else if c = 1 then !x else if c = 2 then y else if c = 3 then !y else if c = 4 then z else if c = 5 then !z else false
theorem condHolds_c (c : Int) (x y z : Bool) (w : World) :
    Calls Tryd.prog 24 #[.int .i64 c, .agg #[.bool x, .bool y, .bool z]] w fun e w' => e = .returned (.bool (hol c x y z)) ∧ Below w.heap.size w w' := by
  by_cases h0 : 0 ≤ c ∧ c ≤ 5
  · rcases ops_of h0.1 h0.2 with rfl | rfl | rfl | rfl | rfl | rfl
    all_goals
      clear h0
      go_enter Tryd.func24, Tryd.ntmps24
      go_wp2
      go_ret
      exact ⟨by simp [hol], (Below.refl _ _).alloc (Nat.le_refl _) _⟩
  · rcases (by omega : c < 0 ∨ 5 < c) with h | h
    all_goals
      clear h0
      go_enter Tryd.func24, Tryd.ntmps24
      go_wp2
      go_ret
      exact ⟨bool_eq (by unfold hol; repeat (rw [if_neg (by omega)])), (Below.refl _ _).alloc (Nat.le_refl _) _⟩
end Go.Proofs.YtffibmlgdacafaaDoor.C1
