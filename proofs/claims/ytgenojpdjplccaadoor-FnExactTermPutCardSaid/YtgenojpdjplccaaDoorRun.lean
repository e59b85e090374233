/- Straight rows of literals, walked at once: the kernel says what the frame holds behind them. No program is spoken of here · Maps that a function lays by a literal, kept whole: the entries in order. No program is spoken of here. -/
import Derived.Test.YtgenojpdjplccaaDoorPlain
import Derived.Laws.Tables
import Derived.Laws.Rows
import Derived.Tactics2
import Derived.Maps.Own
import Derived.Deep.WholeRow
set_option linter.unusedSimpArgs false
set_option linter.unusedVariables false
namespace Go.Proofs.YtgenojpdjplccaaDoor.Rn
open Go.RowKit

section
variable {P : Program}
/-- The frame behind n literals of structs or arrays. -/
def builds (P : Program) : Nat → List Oper → Act → Option Act
  | 0, _, a => some a
  | n + 1, o :: l, a =>
    match o.guard, o.op with
    | none, .build t parts => match P.built t (parts.map fun (i, x) => (i, a.eval x)).toList with
      | some cells => builds P n l (a.put o.dst (.agg cells))
      | none => none
    | _, _ => none
  | _ + 1, [], _ => none

theorem wpList_builds {ops : Array Oper} {Q : Exit → Act → World → Prop} {w : World} : ∀ (n : Nat) (l : List Oper) (a : Act),
    (∃ a', builds P n l a = some a' ∧ wpList P ops Q (l.drop n) a' w) → wpList P ops Q l a w
  | 0, l, a, ⟨a', h, hk⟩ => by
    simp only [builds, Option.some.injEq] at h
    subst h
    exact hk
  | n + 1, [], a, ⟨a', h, _⟩ => by simp [builds] at h
  | n + 1, o :: l, a, ⟨a', h, hk⟩ => by
    simp only [builds] at h
    split at h
    · rename_i t parts hg ho
      cases hb : P.built t (parts.map fun (i, x) => (i, a.eval x)).toList with
      | none => rw [hb] at h; cases h
      | some cells =>
        rw [hb] at h; simp only at h
        refine wpList_build hg t parts ho (by rw [hb]; rfl) ?_
        rw [hb]
        exact wpList_builds n l _ ⟨a', h, hk⟩
    · cases h
/-- The same; of the frame behind them is told only what two operands hold. -/
theorem wpList_builds2 {ops : Array Oper} {Q : Exit → Act → World → Prop} {w : World} (n : Nat) (l : List Oper) (a : Act) (x y : Operand) (vx vy : Value) (d : List Deferred)
    (h : (builds P n l a).map (fun a' => (a'.eval x, a'.eval y, a'.defers)) = some (vx, vy, d))
    (hk : ∀ a' : Act, a'.eval x = vx → a'.eval y = vy → a'.defers = d → wpList P ops Q (l.drop n) a' w) : wpList P ops Q l a w := by
  cases hb : builds P n l a with
  | none => rw [hb] at h; cases h
  | some a' =>
    rw [hb] at h
    simp only [Option.map_some, Option.some.injEq, Prod.mk.injEq] at h
    exact wpList_builds n l a ⟨a', hb, hk a' h.1 h.2.1 h.2.2⟩
/-- What a quiet operation puts: a literal, a move. -/
def quietOp (P : Program) (a : Act) (o : Oper) : Option Value :=
  match o.guard, o.op with
  | none, .build t parts => (P.built t (parts.map fun (i, x) => (i, a.eval x)).toList).map .agg
  | none, .move x => some (a.eval x)
  | none, .assign x => some (a.eval x)
  | _, _ => none
/-- The frame behind n quiet operations. -/
def runs (P : Program) : Nat → List Oper → Act → Option Act
  | 0, _, a => some a
  | n + 1, o :: l, a => (quietOp P a o).bind fun v => runs P n l (a.put o.dst v)
  | _ + 1, [], _ => none
theorem wpList_quietOp {ops : Array Oper} {Q : Exit → Act → World → Prop} {w : World} {o : Oper} {l : List Oper} {a : Act} {v : Value} (h : quietOp P a o = some v)
    (hk : wpList P ops Q l (a.put o.dst v) w) : wpList P ops Q (o :: l) a w := by
  unfold quietOp at h
  split at h
  · rename_i t parts hg ho
    cases hb : P.built t (parts.map fun (i, x) => (i, a.eval x)).toList with
    | none => rw [hb] at h; cases h
    | some cells =>
      rw [hb] at h
      simp only [Option.map_some, Option.some.injEq] at h
      subst h
      refine wpList_build hg t parts ho (by rw [hb]; rfl) ?_
      rw [hb]
      exact hk
  · rename_i x hg ho
    cases h
    refine wpList_plain hg fun K hK => ?_
    unfold Oper.wp execOp
    simp only [ho, Sem.run_bind, Sem.run_pure, Result.andThen_ok]
    exact hK _ _ hk
  · rename_i x hg ho
    cases h
    refine wpList_plain hg fun K hK => ?_
    unfold Oper.wp execOp
    simp only [ho, Sem.run_bind, Sem.run_pure, Result.andThen_ok]
    exact hK _ _ hk
  · cases h
theorem wpList_runs {ops : Array Oper} {Q : Exit → Act → World → Prop} {w : World} : ∀ (n : Nat) (l : List Oper) (a : Act) (a' : Act),
    runs P n l a = some a' → wpList P ops Q (l.drop n) a' w → wpList P ops Q l a w
  | 0, l, a, a', h, hk => by
    simp only [runs, Option.some.injEq] at h
    subst h
    exact hk
  | n + 1, [], a, a', h, hk => by simp [runs] at h
  | n + 1, o :: l, a, a', h, hk => by
    simp only [runs] at h
    cases hq : quietOp P a o with
    | none => rw [hq] at h; cases h
    | some v =>
      rw [hq] at h
      exact wpList_quietOp hq (wpList_runs n l _ a' h hk)
/-- n quiet operations; of the frame behind them is told what the caller asks. -/
theorem wpList_runsTo {ops : Array Oper} {Q : Exit → Act → World → Prop} {w : World} {β : Type} (f : Act → β) (r : β) (n : Nat) (l : List Oper) (a : Act)
    (h : (runs P n l a).map f = some r) (hk : ∀ a' : Act, f a' = r → wpList P ops Q (l.drop n) a' w) : wpList P ops Q l a w := by
  cases hb : runs P n l a with
  | none => rw [hb] at h; cases h
  | some a' =>
    rw [hb] at h
    simp only [Option.map_some, Option.some.injEq] at h
    exact wpList_runs n l a a' hb (hk a' h)
theorem eval_put {a : Act} {d : Nat} {v : Value} (h : d < a.tmps.size) : (a.put (some d) v).eval (.tmp d) = v := by
  simp [Act.put, Act.eval, h]
theorem eval_put_ne {a : Act} {d e : Nat} {v : Value} (h : e ≠ d) : (a.put (some d) v).eval (.tmp e) = a.eval (.tmp e) := by
  simp [Act.put, Act.eval, Array.getElem?_setIfInBounds_ne (Ne.symm h)]
theorem size_put {a : Act} {d : Option Nat} {v : Value} : (a.put d v).tmps.size = a.tmps.size := by
  cases d <;> simp [Act.put]
end
end Go.Proofs.YtgenojpdjplccaaDoor.Rn
namespace Go.Proofs.YtgenojpdjplccaaDoor.Rn
open Go.RowKit Go.Maps Go.MapKept Go.ChangeMaps

section
variable {P : Program}
theorem setBlock_alloc (w : World) (o o' : Obj) : setBlock (w.alloc o) w.heap.size o' = w.alloc o' := by
  have h : (w.heap.push o).setIfInBounds w.heap.size o' = w.heap.push o' := by
    apply Array.ext_getElem?
    intro i
    by_cases hi : i = w.heap.size
    · subst hi
      simp
    · rw [Array.getElem?_setIfInBounds_ne (Ne.symm hi)]
      simp [Array.getElem?_push, hi]
  show ({ w with heap := (w.heap.push o).setIfInBounds w.heap.size o' } : World) = { w with heap := w.heap.push o' }
  rw [h]
theorem run_insert_new (w : World) (es : Array MapEntry) (clock : Nat) {t k e : TypeId} {kd : TypeDesc} (ht : P.underlying t = some (.map k e)) (hk : P.underlying k = some kd) (key val : Value)
    (hchk : ∀ w em, (Instr.checkKey em 10000 k key).run P w = .ok () w) (hn : Instr.findNow kd key es.toList 0 = some none) :
    (Instr.mapUpdate t (.map (some w.heap.size)) key val).run P (w.alloc (.map es clock)) = .ok () (w.alloc (.map (es.push { key := key, val := val, born := clock }) (clock + 1))) := by
  have hb : (w.alloc (.map es clock)).heap[w.heap.size]? = some (.map es clock) := heap_alloc_last w _
  simp [Instr.mapUpdate, run_underlying ht, run_underlying hk, MapKept.run_getObj_map hb, hchk, Instr.findKey, hn, MapKept.run_setObj_map _ hb, Result.andThen]
  exact setBlock_alloc w _ _
theorem wpList_insert_new {ops : Array Oper} {rest : List Oper} {o : Oper} {a : Act} {Q : Exit → Act → World → Prop} (hg : o.guard = none) (m x v : Operand) (t : TypeId) (hop : o.op = .insert t m x v) (hd : o.dst = none)
    (w : World) (es : Array MapEntry) (clock : Nat) {k e : TypeId} {kd : TypeDesc} (ht : P.underlying t = some (.map k e)) (hk : P.underlying k = some kd) (key val : Value)
    (hm : a.eval m = .map (some w.heap.size)) (hx : a.eval x = key) (hv : a.eval v = val)
    (hchk : ∀ w em, (Instr.checkKey em 10000 k key).run P w = .ok () w) (hn : Instr.findNow kd key es.toList 0 = some none)
    (hK : wpList P ops Q rest a (w.alloc (.map (es.push { key := key, val := val, born := clock }) (clock + 1)))) :
    wpList P ops Q (o :: rest) a (w.alloc (.map es clock)) := by
  refine wpList_plain hg fun K' hK' => ?_
  have hrun := run_insert_new w es clock ht hk key val hchk hn
  unfold Oper.wp
  simp [execOp, hop, hm, hx, hv, hrun, Result.andThen]
  refine hK' _ _ ?_
  rw [hd]
  exact hK
end
end Go.Proofs.YtgenojpdjplccaaDoor.Rn
