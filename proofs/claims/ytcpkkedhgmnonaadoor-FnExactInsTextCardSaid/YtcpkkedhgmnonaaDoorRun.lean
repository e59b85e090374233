/- Straight rows of literals, walked at once: the kernel says what the frame holds behind them. No program is spoken of here. -/
import Derived.Test.YtcpkkedhgmnonaaDoorPlain
import Derived.Laws.Tables
import Derived.Laws.Rows
import Derived.Tactics2
set_option linter.unusedSimpArgs false
set_option linter.unusedVariables false
namespace Go.Proofs.YtcpkkedhgmnonaaDoor.Rn
open Go.RowKit

section
variable {P : Program}
/-- The frame behind n literals of structs or arrays. -/
def builds (P : Program) : Nat → List Oper → Act → Option Act
  | 0, _, a => some a
  | n + 1, o :: l, a =>
    match o.guard, o.op with
    | none, .build t parts => match P.built t (parts.map fun (i, x) => (i, a.eval x)).toList with
      | some cells => builds P n l (a.put o.dst (.agg cells))
      | none => none
    | _, _ => none
  | _ + 1, [], _ => none

theorem wpList_builds {ops : Array Oper} {Q : Exit → Act → World → Prop} {w : World} : ∀ (n : Nat) (l : List Oper) (a : Act),
    (∃ a', builds P n l a = some a' ∧ wpList P ops Q (l.drop n) a' w) → wpList P ops Q l a w
  | 0, l, a, ⟨a', h, hk⟩ => by
    simp only [builds, Option.some.injEq] at h
    subst h
    exact hk
  | n + 1, [], a, ⟨a', h, _⟩ => by simp [builds] at h
  | n + 1, o :: l, a, ⟨a', h, hk⟩ => by
    simp only [builds] at h
    split at h
    · rename_i t parts hg ho
      cases hb : P.built t (parts.map fun (i, x) => (i, a.eval x)).toList with
      | none => rw [hb] at h; cases h
      | some cells =>
        rw [hb] at h; simp only at h
        refine wpList_build hg t parts ho (by rw [hb]; rfl) ?_
        rw [hb]
        exact wpList_builds n l _ ⟨a', h, hk⟩
    · cases h
/-- The same; of the frame behind them is told only what two operands hold. -/
theorem wpList_builds2 {ops : Array Oper} {Q : Exit → Act → World → Prop} {w : World} (n : Nat) (l : List Oper) (a : Act) (x y : Operand) (vx vy : Value) (d : List Deferred)
    (h : (builds P n l a).map (fun a' => (a'.eval x, a'.eval y, a'.defers)) = some (vx, vy, d))
    (hk : ∀ a' : Act, a'.eval x = vx → a'.eval y = vy → a'.defers = d → wpList P ops Q (l.drop n) a' w) : wpList P ops Q l a w := by
  cases hb : builds P n l a with
  | none => rw [hb] at h; cases h
  | some a' =>
    rw [hb] at h
    simp only [Option.map_some, Option.some.injEq, Prod.mk.injEq] at h
    exact wpList_builds n l a ⟨a', hb, hk a' h.1 h.2.1 h.2.2⟩
/-- What a quiet operation puts: a literal, a move. -/
def quietOp (P : Program) (a : Act) (o : Oper) : Option Value :=
  match o.guard, o.op with
  | none, .build t parts => (P.built t (parts.map fun (i, x) => (i, a.eval x)).toList).map .agg
  | none, .move x => some (a.eval x)
  | none, .assign x => some (a.eval x)
  | _, _ => none
/-- The frame behind n quiet operations. -/
def runs (P : Program) : Nat → List Oper → Act → Option Act
  | 0, _, a => some a
  | n + 1, o :: l, a => (quietOp P a o).bind fun v => runs P n l (a.put o.dst v)
  | _ + 1, [], _ => none
theorem wpList_quietOp {ops : Array Oper} {Q : Exit → Act → World → Prop} {w : World} {o : Oper} {l : List Oper} {a : Act} {v : Value} (h : quietOp P a o = some v)
    (hk : wpList P ops Q l (a.put o.dst v) w) : wpList P ops Q (o :: l) a w := by
  unfold quietOp at h
  split at h
  · rename_i t parts hg ho
    cases hb : P.built t (parts.map fun (i, x) => (i, a.eval x)).toList with
    | none => rw [hb] at h; cases h
    | some cells =>
      rw [hb] at h
      simp only [Option.map_some, Option.some.injEq] at h
      subst h
      refine wpList_build hg t parts ho (by rw [hb]; rfl) ?_
      rw [hb]
      exact hk
  · rename_i x hg ho
    cases h
    refine wpList_plain hg fun K hK => ?_
    unfold Oper.wp execOp
    simp only [ho, Sem.run_bind, Sem.run_pure, Result.andThen_ok]
    exact hK _ _ hk
  · rename_i x hg ho
    cases h
    refine wpList_plain hg fun K hK => ?_
    unfold Oper.wp execOp
    simp only [ho, Sem.run_bind, Sem.run_pure, Result.andThen_ok]
    exact hK _ _ hk
  · cases h
theorem wpList_runs {ops : Array Oper} {Q : Exit → Act → World → Prop} {w : World} : ∀ (n : Nat) (l : List Oper) (a : Act) (a' : Act),
    runs P n l a = some a' → wpList P ops Q (l.drop n) a' w → wpList P ops Q l a w
  | 0, l, a, a', h, hk => by
    simp only [runs, Option.some.injEq] at h
    subst h
    exact hk
  | n + 1, [], a, a', h, hk => by simp [runs] at h
  | n + 1, o :: l, a, a', h, hk => by
    simp only [runs] at h
    cases hq : quietOp P a o with
    | none => rw [hq] at h; cases h
    | some v =>
      rw [hq] at h
      exact wpList_quietOp hq (wpList_runs n l _ a' h hk)
/-- n quiet operations; of the frame behind them is told what the caller asks. -/
theorem wpList_runsTo {ops : Array Oper} {Q : Exit → Act → World → Prop} {w : World} {β : Type} (f : Act → β) (r : β) (n : Nat) (l : List Oper) (a : Act)
    (h : (runs P n l a).map f = some r) (hk : ∀ a' : Act, f a' = r → wpList P ops Q (l.drop n) a' w) : wpList P ops Q l a w := by
  cases hb : runs P n l a with
  | none => rw [hb] at h; cases h
  | some a' =>
    rw [hb] at h
    simp only [Option.map_some, Option.some.injEq] at h
    exact wpList_runs n l a a' hb (hk a' h)
theorem eval_put {a : Act} {d : Nat} {v : Value} (h : d < a.tmps.size) : (a.put (some d) v).eval (.tmp d) = v := by
  simp [Act.put, Act.eval, h]
theorem eval_put_ne {a : Act} {d e : Nat} {v : Value} (h : e ≠ d) : (a.put (some d) v).eval (.tmp e) = a.eval (.tmp e) := by
  simp [Act.put, Act.eval, Array.getElem?_setIfInBounds_ne (Ne.symm h)]
theorem size_put {a : Act} {d : Option Nat} {v : Value} : (a.put d v).tmps.size = a.tmps.size := by
  cases d <;> simp [Act.put]
end
end Go.Proofs.YtcpkkedhgmnonaaDoor.Rn
