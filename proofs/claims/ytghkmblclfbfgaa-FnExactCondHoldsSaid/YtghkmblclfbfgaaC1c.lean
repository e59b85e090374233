/- What FlagsOf and CondHolds, the program's and the model's, return: one theorem a function, for every input. -/
import Derived.Test.YtghkmblclfbfgaaC1b
namespace Go.Proofs.Ytghkmblclfbfgaa.C1
open Go.RowKit Pl

/-- The flags of two numbers, as a value. -/
def fEq (a b : Int) : Bool := isW a && isW b && a == b
def fLess (a b : Int) : Bool := isW a && isW b && decide (sg a < sg b)
def fLow (a b : Int) : Bool := isW a && isW b && decide (a < b)
theorem agg3_eq {a b c a' b' c' : Bool} (h1 : a = a') (h2 : b = b') (h3 : c = c') : Ending.returned (.agg #[.bool a, .bool b, .bool c]) = Ending.returned (.agg #[.bool a', .bool b', .bool c']) := by rw [h1, h2, h3]
theorem compared_c (a b : Int) (hA : isW a = true) (hB : isW b = true) (w : World) :
    Calls Try.prog 45 #[.int .i64 a, .int .i64 b] w fun e w' => e = .returned (.agg #[.bool (fEq a b), .bool (fLess a b), .bool (fLow a b)]) ∧ Below w.heap.size w w' := by
  go_enter Try.func45, Try.ntmps45
  go_wp2_with (go_at_call 41; refine (ssigned_c _ (by assumption) _).mono ?_; rintro e w' ⟨rfl, rfl⟩)
  exact bodyPost_ret (v := .agg #[.bool (a == b), .bool (decide (sg a < sg b)), .bool (decide (a < b))]) (by simp [results, Try.results45, go_sem]) rfl ⟨agg3_eq (by simp [fEq, hA, hB]) (by simp [fLess, hA, hB]) (by simp [fLow, hA, hB]), (Below.refl _ _).alloc (Nat.le_refl _) _⟩
theorem sFlagsOf_c (a b : Int) (w : World) :
    Calls Try.prog 29 #[.int .i64 a, .int .i64 b] w fun e w' => e = .returned (.agg #[.bool (fEq a b), .bool (fLess a b), .bool (fLow a b)]) ∧ Below w.heap.size w w' := by
  cases hA : isW a
  · go_enter Try.func29, Try.ntmps29
    go_wp2_with (first | (go_at_call 40; refine (sisWord_c _ _).mono ?_; rintro e w' ⟨rfl, rfl⟩))
    exact bodyPost_ret (v := .agg #[.bool false, .bool false, .bool false]) (by simp [results, Try.results29, go_sem]) rfl ⟨agg3_eq (by simp [fEq, hA]) (by simp [fLess, hA]) (by simp [fLow, hA]), (Below.refl _ _).alloc (Nat.le_refl _) _⟩
  · cases hB : isW b
    · go_enter Try.func29, Try.ntmps29
      go_wp2_with (first | (go_at_call 40; refine (sisWord_c _ _).mono ?_; rintro e w' ⟨rfl, rfl⟩))
      exact bodyPost_ret (v := .agg #[.bool false, .bool false, .bool false]) (by simp [results, Try.results29, go_sem]) rfl ⟨agg3_eq (by simp [fEq, hA, hB]) (by simp [fLess, hA, hB]) (by simp [fLow, hA, hB]), (Below.refl _ _).alloc (Nat.le_refl _) _⟩
    · go_enter Try.func29, Try.ntmps29
      go_wp2_with (first | (go_at_call 40; refine (sisWord_c _ _).mono ?_; rintro e w' ⟨rfl, rfl⟩) | (go_at_call 45; refine (compared_c _ _ hA hB _).mono ?_; rintro e w1 ⟨rfl, hb⟩; obtain ⟨hc, hf⟩ := bcell hb))
      refine bodyPost_ret (v := .agg #[.bool (fEq a b), .bool (fLess a b), .bool (fLow a b)]) (by simp [results, Try.results29, go_sem, hc]) rfl ⟨rfl, ?_⟩
      exact (((((Below.refl _ _).alloc (Nat.le_refl _) _).trans (hb.mono (by simp))).setCell (by simp) _).setCell (by simp) _).setCell (by simp) _
theorem flagsOf_c (a b : Int) (w : World) :
    Calls Try.prog 28 #[.int .i64 a, .int .i64 b] w fun e w' => e = .returned (.agg #[.bool (fEq a b), .bool (fLess a b), .bool (fLow a b)]) ∧ Below w.heap.size w w' := by
  cases hA : isW a
  · go_enter Try.func28, Try.ntmps28
    go_wp2_with (first | (go_at_call 39; refine (isWord_c _ _).mono ?_; rintro e w' ⟨rfl, rfl⟩))
    exact bodyPost_ret (v := .agg #[.bool false, .bool false, .bool false]) (by simp [results, Try.results28, go_sem]) rfl ⟨agg3_eq (by simp [fEq, hA]) (by simp [fLess, hA]) (by simp [fLow, hA]), (Below.refl _ _).alloc (Nat.le_refl _) _⟩
  · cases hB : isW b
    · go_enter Try.func28, Try.ntmps28
      go_wp2_with (first | (go_at_call 39; refine (isWord_c _ _).mono ?_; rintro e w' ⟨rfl, rfl⟩))
      exact bodyPost_ret (v := .agg #[.bool false, .bool false, .bool false]) (by simp [results, Try.results28, go_sem]) rfl ⟨agg3_eq (by simp [fEq, hA, hB]) (by simp [fLess, hA, hB]) (by simp [fLow, hA, hB]), (Below.refl _ _).alloc (Nat.le_refl _) _⟩
    · have ea : signedOf a = sg a := by simp [signedOf, hA]
      have eb : signedOf b = sg b := by simp [signedOf, hB]
      have Ha := hid ea
      have Hb := hid eb
      clear ea eb
      go_enter Try.func28, Try.ntmps28
      go_wp2_with (first | (go_at_call 39; refine (isWord_c _ _).mono ?_; rintro e w' ⟨rfl, rfl⟩) | (go_at_call 18; refine (signedOf_c _ _).mono ?_; rintro e w' ⟨rfl, rfl⟩))
      exact bodyPost_ret (v := .agg #[.bool (a == b), .bool (decide (signedOf a < signedOf b)), .bool (decide (a < b))]) (by simp [results, Try.results28, go_sem]) rfl ⟨agg3_eq (by simp [fEq, hA, hB]) (by rw [Ha.out, Hb.out]; simp [fLess, hA, hB]) (by simp [fLow, hA, hB]), (Below.refl _ _).alloc (Nat.le_refl _) _⟩
def hol (c : Int) (x y z : Bool) : Bool := if c = 0 then x else if c = 1 then !x else if c = 2 then y else if c = 3 then !y else if c = 4 then z else if c = 5 then !z else false
theorem condHolds_c (c : Int) (x y z : Bool) (w : World) :
    Calls Try.prog 31 #[.int .i64 c, .agg #[.bool x, .bool y, .bool z]] w fun e w' => e = .returned (.bool (hol c x y z)) ∧ Below w.heap.size w w' := by
  by_cases h0 : 0 ≤ c ∧ c ≤ 5
  · rcases ops_of h0.1 h0.2 with rfl | rfl | rfl | rfl | rfl | rfl
    all_goals
      clear h0
      go_enter Try.func31, Try.ntmps31
      go_wp2
      go_ret
      exact ⟨by simp [hol], (Below.refl _ _).alloc (Nat.le_refl _) _⟩
  · rcases (by omega : c < 0 ∨ 5 < c) with h | h
    all_goals
      clear h0
      go_enter Try.func31, Try.ntmps31
      go_wp2
      go_ret
      exact ⟨bool_eq (by unfold hol; repeat (rw [if_neg (by omega)])), (Below.refl _ _).alloc (Nat.le_refl _) _⟩
theorem sholds_c (c : Int) (h0 : 0 ≤ c) (h5 : c ≤ 5) (x y z : Bool) (w : World) :
    Calls Try.prog 46 #[.int .i64 c, .agg #[.bool x, .bool y, .bool z]] w fun e w' => e = .returned (.bool (hol c x y z)) ∧ Below w.heap.size w w' := by
  rcases ops_of h0 h5 with rfl | rfl | rfl | rfl | rfl | rfl
  all_goals
    go_enter Try.func46, Try.ntmps46
    go_wp2
    go_ret
    exact ⟨by simp [hol], ((Below.refl _ _).alloc (Nat.le_refl _) _).alloc (by simp) _⟩
theorem sCondHolds_c (c : Int) (x y z : Bool) (w : World) :
    Calls Try.prog 32 #[.int .i64 c, .agg #[.bool x, .bool y, .bool z]] w fun e w' => e = .returned (.bool (hol c x y z)) ∧ Below w.heap.size w w' := by
  cases hO : decide (0 ≤ c ∧ c ≤ 5)
  · go_enter Try.func32, Try.ntmps32
    go_wp2_with (first | (go_at_call 43; refine (inRange_c _ _ _ _).mono ?_; rintro e w' ⟨rfl, rfl⟩))
    go_ret
    have : ¬ (0 ≤ c ∧ c ≤ 5) := by simpa using hO
    exact ⟨bool_eq (by unfold hol; repeat (rw [if_neg (by omega)])), (Below.refl _ _).alloc (Nat.le_refl _) _⟩
  · have hO' : 0 ≤ c ∧ c ≤ 5 := by simpa using hO
    obtain ⟨ho1, ho2⟩ := hO'
    go_enter Try.func32, Try.ntmps32
    go_wp2_with (first | (go_at_call 43; refine (inRange_c _ _ _ _).mono ?_; rintro e w' ⟨rfl, rfl⟩) | (go_at_call 46; refine (sholds_c _ ho1 ho2 _ _ _ _).mono ?_; rintro e w1 ⟨rfl, hb⟩))
    go_ret
    exact ⟨rfl, ((Below.refl _ _).alloc (Nat.le_refl _) _).trans (hb.mono (by simp))⟩
end Go.Proofs.Ytghkmblclfbfgaa.C1
