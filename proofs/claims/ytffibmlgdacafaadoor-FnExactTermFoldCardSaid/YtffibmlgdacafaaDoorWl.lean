/- Simpler terms: a term with an operator and a word behind it, by the model: whole. -/
import Derived.Test.YtffibmlgdacafaaDoorWl2
import Derived.Test.YtffibmlgdacafaaDoorWl3
import Derived.Test.YtffibmlgdacafaaDoorWl4
import Derived.Test.YtffibmlgdacafaaDoorWl5
set_option linter.unusedSimpArgs false
set_option linter.unusedVariables false
namespace Go.Proofs.YtffibmlgdacafaaDoor.Um
open Go.RowKit Pl Ft Mm In C2 Im

theorem foldRight_c (m h : Nat) (P : Nat → Prop) (a : Tm) (va : Value) (s : ByteArray) (n : Int) (w : World) (hs : shape h a = true) (ho : isOp s = true) (hn : 0 ≤ n ∧ n ≤ 65535) (ha : KP P w m va a.kids) :
    Calls Tryd.prog 145 #[.string s, tmVal a va, .int .i64 n] w (FoldR (m + 1) P (rightT a s n) w) := by
  by_cases hn0 : n = 0
  · subst hn0
    rcases op_lit ho with rfl | rfl | rfl | rfl | rfl | rfl | rfl | rfl | rfl
    · exact right_add_0 m h P a va w hs ha
    · exact right_sub_0 m h P a va w hs ha
    · exact right_mul_0 m h P a va w hs ha
    · exact right_and_0 m h P a va w hs ha
    · exact right_or_0 m h P a va w hs ha
    · exact right_xor_0 m h P a va w hs ha
    · exact right_eq_0 m h P a va w hs ha
    · exact right_lt_0 m h P a va w hs ha
    · exact right_lo_0 m h P a va w hs ha
  by_cases hn1 : n = 1
  · subst hn1
    rcases op_lit ho with rfl | rfl | rfl | rfl | rfl | rfl | rfl | rfl | rfl
    · exact right_add_1 m h P a va w hs ha
    · exact right_sub_1 m h P a va w hs ha
    · exact right_mul_1 m h P a va w hs ha
    · exact right_and_1 m h P a va w hs ha
    · exact right_or_1 m h P a va w hs ha
    · exact right_xor_1 m h P a va w hs ha
    · exact right_eq_1 m h P a va w hs ha
    · exact right_lt_1 m h P a va w hs ha
    · exact right_lo_1 m h P a va w hs ha
  by_cases hn2 : n = 65535
  · subst hn2
    rcases op_lit ho with rfl | rfl | rfl | rfl | rfl | rfl | rfl | rfl | rfl
    · exact right_add_65535 m h P a va w hs ha
    · exact right_sub_65535 m h P a va w hs ha
    · exact right_mul_65535 m h P a va w hs ha
    · exact right_and_65535 m h P a va w hs ha
    · exact right_or_65535 m h P a va w hs ha
    · exact right_xor_65535 m h P a va w hs ha
    · exact right_eq_65535 m h P a va w hs ha
    · exact right_lt_65535 m h P a va w hs ha
    · exact right_lo_65535 m h P a va w hs ha
  rcases op_lit ho with rfl | rfl | rfl | rfl | rfl | rfl | rfl | rfl | rfl
  · exact right_add_n m h P a va n hn hn0 hn1 hn2 w hs ha
  · exact right_sub_n m h P a va n hn hn0 hn1 hn2 w hs ha
  · exact right_mul_n m h P a va n hn hn0 hn1 hn2 w hs ha
  · exact right_and_n m h P a va n hn hn0 hn1 hn2 w hs ha
  · exact right_or_n m h P a va n hn hn0 hn1 hn2 w hs ha
  · exact right_xor_n m h P a va n hn hn0 hn1 hn2 w hs ha
  · exact right_eq_n m h P a va n hn hn0 hn1 hn2 w hs ha
  · exact right_lt_n m h P a va n hn hn0 hn1 hn2 w hs ha
  · exact right_lo_n m h P a va n hn hn0 hn1 hn2 w hs ha
end Go.Proofs.YtffibmlgdacafaaDoor.Um
