/- What chapter 1's functions, the program's and the model's, return: one theorem a function, for every input. -/
import Derived.Test.YtghkmblclfbfgaaRows
import Derived.Test.YtghkmblclfbfgaaPlain
import Derived.WalkKit
import Derived.Outline
import Derived.Handy
namespace Go.Proofs.Ytghkmblclfbfgaa.C1
open Go.RowKit Pl

theorem isWord_c (n : Int) (w : World) : Calls Try.prog 39 #[.int .i64 n] w fun e w' => e = .returned (.bool (isW n)) ∧ w = w' := by
  by_cases h1 : 0 ≤ n
  all_goals by_cases h2 : n ≤ 65535
  all_goals
    go_enter Try.func39, Try.ntmps39
    go_wp2
    go_ret
    exact ⟨by simp [isW, *], rfl⟩
theorem inRange_c (n l h : Int) (w : World) : Calls Try.prog 43 #[.int .i64 n, .int .i64 l, .int .i64 h] w fun e w' => e = .returned (.bool (decide (l ≤ n ∧ n ≤ h))) ∧ w = w' := by
  by_cases h1 : l ≤ n
  all_goals by_cases h2 : n ≤ h
  all_goals
    go_enter Try.func43, Try.ntmps43
    go_wp2
    go_ret
    exact ⟨by simp [*], rfl⟩
theorem sisWord_c (n : Int) (w : World) : Calls Try.prog 40 #[.int .i64 n] w fun e w' => e = .returned (.bool (isW n)) ∧ w = w' := by
  go_enter Try.func40, Try.ntmps40
  go_wp2_with (go_at_call 43; refine (inRange_c _ _ _ _).mono ?_; rintro e w' ⟨rfl, rfl⟩)
  go_ret
  exact ⟨bool_eq (by simp [isW]), rfl⟩
theorem wordOf_c (n : Int) (w : World) : Calls Try.prog 16 #[.int .i64 n] w fun e w' => e = .returned (.int .i64 (n % 65536)) ∧ w = w' := by
  have h1 := Pl.and65535 n
  go_enter Try.func16, Try.ntmps16
  go_wp2
  go_ret
  exact ⟨rfl, rfl⟩
theorem swrap_c (n : Int) (w : World) : Calls Try.prog 38 #[.int .i64 n] w fun e w' => e = .returned (.int .i64 (n % 65536)) ∧ w = w' := by
  go_enter Try.func38, Try.ntmps38
  go_wp2
  go_ret
  exact ⟨int_eq (wrap_eq n), rfl⟩
theorem sWordOf_c (n : Int) (w : World) : Calls Try.prog 17 #[.int .i64 n] w fun e w' => e = .returned (.int .i64 (n % 65536)) ∧ w = w' := by
  go_enter Try.func17, Try.ntmps17
  go_wp2_with (go_at_call 38; refine (swrap_c _ _).mono ?_; rintro e w' ⟨rfl, rfl⟩)
  go_ret
  exact ⟨rfl, rfl⟩
theorem signedOf_c (n : Int) (w : World) : Calls Try.prog 18 #[.int .i64 n] w fun e w' => e = .returned (.int .i64 (signedOf n)) ∧ w = w' := by
  cases hW : isW n
  · go_enter Try.func18, Try.ntmps18
    go_wp2_with (go_at_call 39; refine (isWord_c _ _).mono ?_; rintro e w' ⟨rfl, rfl⟩)
    go_ret
    exact ⟨int_eq (by simp [signedOf, hW]), rfl⟩
  · have hb := isW_iff.1 hW
    obtain ⟨hb1, hb2⟩ := hb
    by_cases hs : 32768 ≤ n
    all_goals
      go_enter Try.func18, Try.ntmps18
      go_wp2_with (go_at_call 39; refine (isWord_c _ _).mono ?_; rintro e w' ⟨rfl, rfl⟩)
      go_ret
      exact ⟨int_eq (by simp only [signedOf, hW, sg]; simp <;> omega), rfl⟩
theorem ssigned_c (n : Int) (hW : isW n = true) (w : World) : Calls Try.prog 41 #[.int .i64 n] w fun e w' => e = .returned (.int .i64 (sg n)) ∧ w = w' := by
  obtain ⟨hb1, hb2⟩ := isW_iff.1 hW
  by_cases hs : 32768 ≤ n
  all_goals
    go_enter Try.func41, Try.ntmps41
    go_wp2
    go_ret
    exact ⟨int_eq (by simp only [sg]; simp <;> omega), rfl⟩
theorem sSignedOf_c (n : Int) (w : World) : Calls Try.prog 20 #[.int .i64 n] w fun e w' => e = .returned (.int .i64 (signedOf n)) ∧ w = w' := by
  cases hW : isW n
  all_goals
    go_enter Try.func20, Try.ntmps20
    go_wp2_with (first | (go_at_call 40; refine (sisWord_c _ _).mono ?_; rintro e w' ⟨rfl, rfl⟩) | (go_at_call 41; refine (ssigned_c _ (by assumption) _).mono ?_; rintro e w' ⟨rfl, rfl⟩))
    go_ret
    exact ⟨int_eq (by simp [signedOf, hW]), rfl⟩
theorem lowPut_c (a b : Int) (w : World) : Calls Try.prog 22 #[.int .i64 a, .int .i64 b] w fun e w' => e = .returned (.int .i64 (lowPut a b)) ∧ w = w' := by
  cases hA : isW a
  all_goals cases hB : isW b
  all_goals go_enter Try.func22, Try.ntmps22
  all_goals go_wp2_with (go_at_call 39; refine (isWord_c _ _).mono ?_; rintro e w' ⟨rfl, rfl⟩)
  all_goals go_ret
  · exact ⟨int_eq (by simp [lowPut, *]), rfl⟩
  · exact ⟨int_eq (by simp [lowPut, *]), rfl⟩
  · exact ⟨int_eq (by simp [lowPut, *]), rfl⟩
  · have hb := isW_iff.1 hA
    exact ⟨int_eq (by rw [low_put a b hb.1 hb.2]; simp [lowPut, *]), rfl⟩
theorem sLowPut_c (a b : Int) (w : World) : Calls Try.prog 23 #[.int .i64 a, .int .i64 b] w fun e w' => e = .returned (.int .i64 (lowPut a b)) ∧ w = w' := by
  cases hA : isW a
  · cases hB : isW b
    all_goals go_enter Try.func23, Try.ntmps23
    all_goals go_wp2_with (go_at_call 40; refine (sisWord_c _ _).mono ?_; rintro e w' ⟨rfl, rfl⟩)
    all_goals go_ret
    all_goals exact ⟨int_eq (by simp [lowPut, *]), rfl⟩
  · cases hB : isW b
    · go_enter Try.func23, Try.ntmps23
      go_wp2_with (go_at_call 40; refine (sisWord_c _ _).mono ?_; rintro e w' ⟨rfl, rfl⟩)
      go_ret
      exact ⟨int_eq (by simp [lowPut, *]), rfl⟩
    · obtain ⟨ha1, ha2⟩ := isW_iff.1 hA
      obtain ⟨hb1, hb2⟩ := isW_iff.1 hB
      go_enter Try.func23, Try.ntmps23
      go_wp2_with (go_at_call 40; refine (sisWord_c _ _).mono ?_; rintro e w' ⟨rfl, rfl⟩)
      go_ret
      exact ⟨int_eq (by simp [lowPut, *]), rfl⟩
end Go.Proofs.Ytghkmblclfbfgaa.C1
