/- Simpler terms: a term with an operator and a word behind it, by the program: whole. -/
import Derived.Test.YtffibmlgdacafaaDoorWf2
import Derived.Test.YtffibmlgdacafaaDoorWf3
import Derived.Test.YtffibmlgdacafaaDoorWf4
import Derived.Test.YtffibmlgdacafaaDoorWf5
set_option linter.unusedSimpArgs false
set_option linter.unusedVariables false
namespace Go.Proofs.YtffibmlgdacafaaDoor.Um
open Go.RowKit Pl Ft Mm In C2 Im

theorem simplerAhead_c (m lo f0 g0 G h : Nat) (a : Tm) (va : Value) (s : ByteArray) (n : Int) (w : World) (hs : shape h a = true) (ho : isOp s = true) (hn : 0 ≤ n ∧ n ≤ 65535) (ha : KOwn w m f0 g0 va a.kids) (hlo : lo ≤ f0) (hhi : g0 ≤ G) (hG : G ≤ w.heap.size) (hT : Tabs w) :
    Calls Tryd.prog 151 #[tmVal a va, .string s, .int .i64 n] w (FoldPost (m + 1) lo G (rightT a s n) w) := by
  rcases op_lit ho with rfl | rfl | rfl | rfl | rfl | rfl | rfl | rfl | rfl
  · by_cases hn0 : n = 0
    · subst hn0
      exact ahead_add_0 m lo f0 g0 G h a va w hs ha hlo hhi hG hT
    exact ahead_add_n m lo f0 g0 G h a va n hn hn0 w hs ha hlo hhi hG hT
  · by_cases hn0 : n = 0
    · subst hn0
      exact ahead_sub_0 m lo f0 g0 G h a va w hs ha hlo hhi hG hT
    exact ahead_sub_n m lo f0 g0 G h a va n hn hn0 w hs ha hlo hhi hG hT
  · by_cases hn1 : n = 1
    · subst hn1
      exact ahead_mul_1 m lo f0 g0 G h a va w hs ha hlo hhi hG hT
    by_cases hn0 : n = 0
    · subst hn0
      exact ahead_mul_0 m lo f0 g0 G h a va w hs ha hlo hhi hG hT
    exact ahead_mul_n m lo f0 g0 G h a va n hn hn1 hn0 w hs ha hlo hhi hG hT
  · by_cases hn65535 : n = 65535
    · subst hn65535
      exact ahead_and_65535 m lo f0 g0 G h a va w hs ha hlo hhi hG hT
    by_cases hn0 : n = 0
    · subst hn0
      exact ahead_and_0 m lo f0 g0 G h a va w hs ha hlo hhi hG hT
    exact ahead_and_n m lo f0 g0 G h a va n hn hn65535 hn0 w hs ha hlo hhi hG hT
  · by_cases hn0 : n = 0
    · subst hn0
      exact ahead_or_0 m lo f0 g0 G h a va w hs ha hlo hhi hG hT
    by_cases hn65535 : n = 65535
    · subst hn65535
      exact ahead_or_65535 m lo f0 g0 G h a va w hs ha hlo hhi hG hT
    exact ahead_or_n m lo f0 g0 G h a va n hn hn0 hn65535 w hs ha hlo hhi hG hT
  · by_cases hn0 : n = 0
    · subst hn0
      exact ahead_xor_0 m lo f0 g0 G h a va w hs ha hlo hhi hG hT
    exact ahead_xor_n m lo f0 g0 G h a va n hn hn0 w hs ha hlo hhi hG hT
  · by_cases hn0 : n = 0
    · subst hn0
      exact ahead_eq_0 m lo f0 g0 G h a va w hs ha hlo hhi hG hT
    by_cases hn1 : n = 1
    · subst hn1
      exact ahead_eq_1 m lo f0 g0 G h a va w hs ha hlo hhi hG hT
    exact ahead_eq_n m lo f0 g0 G h a va n hn hn0 hn1 w hs ha hlo hhi hG hT
  · exact ahead_lt_n m lo f0 g0 G h a va n hn w hs ha hlo hhi hG hT
  · by_cases hn0 : n = 0
    · subst hn0
      exact ahead_lo_0 m lo f0 g0 G h a va w hs ha hlo hhi hG hT
    exact ahead_lo_n m lo f0 g0 G h a va n hn hn0 w hs ha hlo hhi hG hT
end Go.Proofs.YtffibmlgdacafaaDoor.Um
