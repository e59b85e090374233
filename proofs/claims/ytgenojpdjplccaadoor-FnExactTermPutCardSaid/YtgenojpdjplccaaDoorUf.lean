/- The laws' helpers once more, the term's parts given by name. -/
import Derived.Test.YtgenojpdjplccaaDoorUh2
set_option linter.unusedSimpArgs false
set_option linter.unusedVariables false
namespace Go.Proofs.YtgenojpdjplccaaDoor.Um
open Go.RowKit Pl Ft Mm In C2 Im

/-- The term's own parts. -/
structure Pt (t : Tm) (x0 x1 : Int) (x2 : ByteArray) (lk : Nat) : Prop where
  k : t.kind = x0
  n : t.num = x1
  s : t.text = x2
  l : t.kids.length = lk
theorem Pt.val {t : Tm} {x0 x1 : Int} {x2 : ByteArray} {lk : Nat} (h : Pt t x0 x1 x2 lk) (u : Value) : tmVal t u = .agg #[.int .i64 x0, .int .i64 x1, .string x2, u] := by rw [tmVal, h.k, h.n, h.s]
theorem Pt.of (t : Tm) : ∃ x0 x1 x2 lk, Pt t x0 x1 x2 lk := ⟨_, _, _, _, rfl, rfl, rfl, rfl⟩
variable {t : Tm} {x0 x1 : Int} {x2 : ByteArray} {lk : Nat}
theorem szTerm_v (hp : Pt t x0 x1 x2 lk) {n : Nat} {kv : Value} {left : Int} {w : World} (hr : KRd w n kv t.kids) (hl : Lim n t.kids) (ht : t.text.size ≤ 9223372036854775807) (h0 : 0 ≤ left) (h1 : left ≤ 1048576) :
    Calls Tryd.prog 28 #[.agg #[.int .i64 x0, .int .i64 x1, .string x2, kv], .int .i64 left] w (SzP left t.wide w) := by
  rw [← hp.val]
  exact szTerm_c n t kv left w hr hl ht h0 h1
theorem toTerm_v (hp : Pt t x0 x1 x2 lk) {n : Nat} {kv : Value} {w : World} (hr : KRd w n kv t.kids) (hw : t.wide ≤ 1048576) :
    Calls Tryd.prog 30 #[.agg #[.int .i64 x0, .int .i64 x1, .string x2, kv]] w fun e w' => ∃ a c, e = .returned (.agg #[.int .i64 x0, .int .i64 x1, .string x2, .slice a lk c]) ∧ KOwn w' n w.heap.size w'.heap.size (.slice a lk c) t.kids ∧ Below w.heap.size w w' := by
  rw [← hp.val]
  refine (toTerm_c n t kv w hr hw).mono ?_
  rintro e w' ⟨v, rfl, hown, hb⟩
  obtain ⟨a, c, rfl⟩ := hown.slice
  rw [hp.l] at hown ⊢
  exact ⟨a, c, by rw [hp.val], hown, hb⟩
theorem eqTerm_v (hp : Pt t x0 x1 x2 lk) {n : Nat} {va vb : Value} {w : World} (ha : KRd w n va t.kids) (hb : KRd w n vb t.kids) (hw : t.wide ≤ 1048576) :
    Calls Tryd.prog 32 #[.agg #[.int .i64 x0, .int .i64 x1, .string x2, va], .agg #[.int .i64 x0, .int .i64 x1, .string x2, vb]] w fun e w' => e = .returned (.bool true) ∧ Below w.heap.size w w' := by
  rw [← hp.val, ← hp.val]
  exact eqTerm_c n t va vb w ha hb hw
end Go.Proofs.YtgenojpdjplccaaDoor.Um
