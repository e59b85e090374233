/- What AluDo, FlagsOf and CondHolds, the program's and the model's, return: one theorem a function, for every input. -/
import Derived.Test.YtghkmblclfbfgaaC1
import Derived.Laws.EntriesVeiled
namespace Go.Proofs.Ytghkmblclfbfgaa.C1
open Go.RowKit Pl

theorem ops_of {op : Int} (h0 : 0 ≤ op) (h1 : op ≤ 5) : op = 0 ∨ op = 1 ∨ op = 2 ∨ op = 3 ∨ op = 4 ∨ op = 5 := by omega
theorem mul_bd {a b : Int} (ha : 0 ≤ a) (ha' : a ≤ 65535) (hb : 0 ≤ b) (hb' : b ≤ 65535) : 0 ≤ a * b ∧ a * b ≤ 4294836225 := by
  refine ⟨Int.mul_nonneg ha hb, ?_⟩
  have := Int.mul_le_mul ha' hb' hb (by omega)
  omega
theorem alu_c (op a b : Int) (h0 : 0 ≤ op) (h1 : op ≤ 5) (hA : isW a = true) (hB : isW b = true) (w : World) :
    Calls Try.prog 44 #[.int .i64 op, .int .i64 a, .int .i64 b] w fun e w' => e = .returned (.int .i64 (alu op a b)) ∧ w = w' := by
  obtain ⟨ha1, ha2⟩ := isW_iff.1 hA
  obtain ⟨hb1, hb2⟩ := isW_iff.1 hB
  obtain ⟨hm1, hm2⟩ := mul_bd ha1 ha2 hb1 hb2
  have hn := hid (nand_b a b hA hB).1
  have ho := hid (nor_b a b hA hB).1
  have hx := hid (nxor_b a b hA hB).1
  rcases ops_of h0 h1 with rfl | rfl | rfl | rfl | rfl | rfl
  all_goals
    go_enter Try.func44, Try.ntmps44
    go_wp2_with (go_at_call 38; refine (swrap_c _ _).mono ?_; rintro e w' ⟨rfl, rfl⟩)
    go_ret
    exact ⟨int_eq (by first | (simp [alu]; done) | (rw [hn.out]; simp [alu]; done) | (rw [ho.out]; simp [alu]; done) | (rw [hx.out]; simp [alu]; done)), rfl⟩
theorem sAluDo_c (op a b : Int) (w : World) :
    Calls Try.prog 26 #[.int .i64 op, .int .i64 a, .int .i64 b] w fun e w' => e = .returned (.int .i64 (aluDo op a b)) ∧ w = w' := by
  cases hO : decide (0 ≤ op ∧ op ≤ 5)
  · go_enter Try.func26, Try.ntmps26
    go_wp2_with (first | (go_at_call 43; refine (inRange_c _ _ _ _).mono ?_; rintro e w' ⟨rfl, rfl⟩))
    go_ret
    exact ⟨int_eq (by simp only [aluDo, hO]; simp), rfl⟩
  · have hO' : 0 ≤ op ∧ op ≤ 5 := by simpa using hO
    obtain ⟨ho1, ho2⟩ := hO'
    cases hA : isW a
    all_goals cases hB : isW b
    all_goals
      go_enter Try.func26, Try.ntmps26
      go_wp2_with (first | (go_at_call 43; refine (inRange_c _ _ _ _).mono ?_; rintro e w' ⟨rfl, rfl⟩) | (go_at_call 40; refine (sisWord_c _ _).mono ?_; rintro e w' ⟨rfl, rfl⟩) | (go_at_call 44; refine (alu_c _ _ _ ho1 ho2 hA hB _).mono ?_; rintro e w' ⟨rfl, rfl⟩))
      go_ret
      exact ⟨int_eq (by simp [aluDo, *]), rfl⟩
theorem wordOps_c (w : World) : Calls Try.prog 42 #[] w fun e w' => e = .returned (.agg #[.func (.func 48) #[] #[], .func (.func 49) #[] #[], .func (.func 50) #[] #[], .func (.func 51) #[] #[], .func (.func 52) #[] #[], .func (.func 53) #[] #[]]) ∧ Below w.heap.size w w' := by
  go_enter Try.func42, Try.ntmps42
  go_wp2
  exact bodyPost_ret (v := .agg #[.func (.func 48) #[] #[], .func (.func 49) #[] #[], .func (.func 50) #[] #[], .func (.func 51) #[] #[], .func (.func 52) #[] #[], .func (.func 53) #[] #[]]) (by simp [results, Try.results42, go_sem]) rfl ⟨rfl, (Below.refl _ _).alloc (Nat.le_refl _) _⟩
theorem opadd_c (a b : Int) (hA : isW a = true) (hB : isW b = true) (w : World) : Calls Try.prog 48 #[.int .i64 a, .int .i64 b] w fun e w' => e = .returned (.int .i64 (a + b)) ∧ w = w' := by
  obtain ⟨ha1, ha2⟩ := isW_iff.1 hA
  obtain ⟨hb1, hb2⟩ := isW_iff.1 hB
  go_enter Try.func48, Try.ntmps48
  go_wp2
  go_ret
  exact ⟨int_eq rfl, rfl⟩
theorem opsub_c (a b : Int) (hA : isW a = true) (hB : isW b = true) (w : World) : Calls Try.prog 49 #[.int .i64 a, .int .i64 b] w fun e w' => e = .returned (.int .i64 (a - b)) ∧ w = w' := by
  obtain ⟨ha1, ha2⟩ := isW_iff.1 hA
  obtain ⟨hb1, hb2⟩ := isW_iff.1 hB
  go_enter Try.func49, Try.ntmps49
  go_wp2
  go_ret
  exact ⟨int_eq rfl, rfl⟩
theorem opmul_c (a b : Int) (hA : isW a = true) (hB : isW b = true) (w : World) : Calls Try.prog 50 #[.int .i64 a, .int .i64 b] w fun e w' => e = .returned (.int .i64 (a * b)) ∧ w = w' := by
  obtain ⟨ha1, ha2⟩ := isW_iff.1 hA
  obtain ⟨hb1, hb2⟩ := isW_iff.1 hB
  obtain ⟨hm1, hm2⟩ := mul_bd ha1 ha2 hb1 hb2
  go_enter Try.func50, Try.ntmps50
  go_wp2
  go_ret
  exact ⟨int_eq rfl, rfl⟩
theorem opand_c (a b : Int) (hA : isW a = true) (hB : isW b = true) (w : World) : Calls Try.prog 51 #[.int .i64 a, .int .i64 b] w fun e w' => e = .returned (.int .i64 (nand a b)) ∧ w = w' := by
  obtain ⟨ha1, ha2⟩ := isW_iff.1 hA
  obtain ⟨hb1, hb2⟩ := isW_iff.1 hB
  have hn := hid (nand_b a b hA hB).1
  go_enter Try.func51, Try.ntmps51
  go_wp2
  go_ret
  exact ⟨int_eq (by rw [hn.out]), rfl⟩
theorem opor_c (a b : Int) (hA : isW a = true) (hB : isW b = true) (w : World) : Calls Try.prog 52 #[.int .i64 a, .int .i64 b] w fun e w' => e = .returned (.int .i64 (nor a b)) ∧ w = w' := by
  obtain ⟨ha1, ha2⟩ := isW_iff.1 hA
  obtain ⟨hb1, hb2⟩ := isW_iff.1 hB
  have hn := hid (nor_b a b hA hB).1
  go_enter Try.func52, Try.ntmps52
  go_wp2
  go_ret
  exact ⟨int_eq (by rw [hn.out]), rfl⟩
theorem opxor_c (a b : Int) (hA : isW a = true) (hB : isW b = true) (w : World) : Calls Try.prog 53 #[.int .i64 a, .int .i64 b] w fun e w' => e = .returned (.int .i64 (nxor a b)) ∧ w = w' := by
  obtain ⟨ha1, ha2⟩ := isW_iff.1 hA
  obtain ⟨hb1, hb2⟩ := isW_iff.1 hB
  have hn := hid (nxor_b a b hA hB).1
  go_enter Try.func53, Try.ntmps53
  go_wp2
  go_ret
  exact ⟨int_eq (by rw [hn.out]), rfl⟩
set_option maxHeartbeats 2000000 in
theorem aluDo_c (op a b : Int) (w : World) :
    Calls Try.prog 24 #[.int .i64 op, .int .i64 a, .int .i64 b] w fun e w' => e = .returned (.int .i64 (aluDo op a b)) ∧ Below w.heap.size w w' := by
  by_cases h0 : op < 0
  · have hO : decide (0 ≤ op ∧ op ≤ 5) = false := by simp; omega
    go_enter Try.func24, Try.ntmps24
    go_wp2_with (go_at_call 42; refine (wordOps_c _).mono ?_; rintro e w1 ⟨rfl, hb⟩)
    go_ret
    exact ⟨int_eq (by simp only [aluDo, hO]; simp), hb.alloc hb.size _⟩
  · by_cases h6 : 6 ≤ op
    · have hO : decide (0 ≤ op ∧ op ≤ 5) = false := by simp; omega
      go_enter Try.func24, Try.ntmps24
      go_wp2_with (go_at_call 42; refine (wordOps_c _).mono ?_; rintro e w1 ⟨rfl, hb⟩)
      go_ret
      exact ⟨int_eq (by simp only [aluDo, hO]; simp), hb.alloc hb.size _⟩
    · have hO : decide (0 ≤ op ∧ op ≤ 5) = true := by simp; omega
      have ho1 : 0 ≤ op := by omega
      have ho2 : op < 6 := by omega
      cases hA : isW a
      · go_enter Try.func24, Try.ntmps24
        go_wp2_with (first | (go_at_call 42; refine (wordOps_c _).mono ?_; rintro e w1 ⟨rfl, hb⟩) | (go_at_call 39; refine (isWord_c _ _).mono ?_; rintro e w' ⟨rfl, rfl⟩))
        go_ret
        exact ⟨int_eq (by simp only [aluDo, hO, hA]; simp), hb.alloc hb.size _⟩
      · cases hB : isW b
        · go_enter Try.func24, Try.ntmps24
          go_wp2_with (first | (go_at_call 42; refine (wordOps_c _).mono ?_; rintro e w1 ⟨rfl, hb⟩) | (go_at_call 39; refine (isWord_c _ _).mono ?_; rintro e w' ⟨rfl, rfl⟩))
          go_ret
          exact ⟨int_eq (by simp only [aluDo, hO, hA, hB]; simp), hb.alloc hb.size _⟩
        · obtain ⟨ha1, ha2⟩ := isW_iff.1 hA
          obtain ⟨hb1, hb2⟩ := isW_iff.1 hB
          obtain ⟨hm1, hm2⟩ := mul_bd ha1 ha2 hb1 hb2
          have hn := hid (nand_b a b hA hB)
          have ho := hid (nor_b a b hA hB)
          have hx := hid (nxor_b a b hA hB)
          clear hO
          rcases ops_of ho1 (by omega) with rfl | rfl | rfl | rfl | rfl | rfl
          all_goals
            go_enter Try.func24, Try.ntmps24
            go_wp2_with (first | (go_at_call 42; refine (wordOps_c _).mono ?_; rintro e w1 ⟨rfl, hb⟩) | (go_at_call 39; refine (isWord_c _ _).mono ?_; rintro e w' ⟨rfl, rfl⟩) | (go_at_call 16; refine (wordOf_c _ _).mono ?_; rintro e w' ⟨rfl, rfl⟩) | (go_at_call 48; refine (opadd_c _ _ hA hB _).mono ?_; rintro e w' ⟨rfl, rfl⟩) | (go_at_call 49; refine (opsub_c _ _ hA hB _).mono ?_; rintro e w' ⟨rfl, rfl⟩) | (go_at_call 50; refine (opmul_c _ _ hA hB _).mono ?_; rintro e w' ⟨rfl, rfl⟩) | (go_at_call 51; refine (opand_c _ _ hA hB _).mono ?_; rintro e w' ⟨rfl, rfl⟩) | (go_at_call 52; refine (opor_c _ _ hA hB _).mono ?_; rintro e w' ⟨rfl, rfl⟩) | (go_at_call 53; refine (opxor_c _ _ hA hB _).mono ?_; rintro e w' ⟨rfl, rfl⟩))
            go_ret
            refine ⟨int_eq ?_, hb.alloc hb.size _⟩
            first | (simp [aluDo, alu, hA, hB]; done) | (simp [aluDo, alu, hA, hB]; have := hn.out; have := ho.out; have := hx.out; omega)
end Go.Proofs.Ytghkmblclfbfgaa.C1
