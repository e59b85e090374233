/- Maps that a function lays by a literal, kept whole: the entries in order. No program is spoken of here. -/
import Derived.Test.YtcpkkedhgmnonaaDoorRun
import Derived.Maps.Own
import Derived.Deep.WholeRow
set_option linter.unusedSimpArgs false
set_option linter.unusedVariables false
namespace Go.Proofs.YtcpkkedhgmnonaaDoor.Rn
open Go.RowKit Go.Maps Go.MapKept Go.ChangeMaps

section
variable {P : Program}
theorem setBlock_alloc (w : World) (o o' : Obj) : setBlock (w.alloc o) w.heap.size o' = w.alloc o' := by
  have h : (w.heap.push o).setIfInBounds w.heap.size o' = w.heap.push o' := by
    apply Array.ext_getElem?
    intro i
    by_cases hi : i = w.heap.size
    · subst hi
      simp
    · rw [Array.getElem?_setIfInBounds_ne (Ne.symm hi)]
      simp [Array.getElem?_push, hi]
  show ({ w with heap := (w.heap.push o).setIfInBounds w.heap.size o' } : World) = { w with heap := w.heap.push o' }
  rw [h]
theorem run_insert_new (w : World) (es : Array MapEntry) (clock : Nat) {t k e : TypeId} {kd : TypeDesc} (ht : P.underlying t = some (.map k e)) (hk : P.underlying k = some kd) (key val : Value)
    (hchk : ∀ w em, (Instr.checkKey em 10000 k key).run P w = .ok () w) (hn : Instr.findNow kd key es.toList 0 = some none) :
    (Instr.mapUpdate t (.map (some w.heap.size)) key val).run P (w.alloc (.map es clock)) = .ok () (w.alloc (.map (es.push { key := key, val := val, born := clock }) (clock + 1))) := by
  have hb : (w.alloc (.map es clock)).heap[w.heap.size]? = some (.map es clock) := heap_alloc_last w _
  simp [Instr.mapUpdate, run_underlying ht, run_underlying hk, MapKept.run_getObj_map hb, hchk, Instr.findKey, hn, MapKept.run_setObj_map _ hb, Result.andThen]
  exact setBlock_alloc w _ _
theorem wpList_insert_new {ops : Array Oper} {rest : List Oper} {o : Oper} {a : Act} {Q : Exit → Act → World → Prop} (hg : o.guard = none) (m x v : Operand) (t : TypeId) (hop : o.op = .insert t m x v) (hd : o.dst = none)
    (w : World) (es : Array MapEntry) (clock : Nat) {k e : TypeId} {kd : TypeDesc} (ht : P.underlying t = some (.map k e)) (hk : P.underlying k = some kd) (key val : Value)
    (hm : a.eval m = .map (some w.heap.size)) (hx : a.eval x = key) (hv : a.eval v = val)
    (hchk : ∀ w em, (Instr.checkKey em 10000 k key).run P w = .ok () w) (hn : Instr.findNow kd key es.toList 0 = some none)
    (hK : wpList P ops Q rest a (w.alloc (.map (es.push { key := key, val := val, born := clock }) (clock + 1)))) :
    wpList P ops Q (o :: rest) a (w.alloc (.map es clock)) := by
  refine wpList_plain hg fun K' hK' => ?_
  have hrun := run_insert_new w es clock ht hk key val hchk hn
  unfold Oper.wp
  simp [execOp, hop, hm, hx, hv, hrun, Result.andThen]
  refine hK' _ _ ?_
  rw [hd]
  exact hK
end
end Go.Proofs.YtcpkkedhgmnonaaDoor.Rn
