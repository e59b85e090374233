/- Lists of numbers in memory: what reads as a list; the laws' eqIntS, markIntS, heldIntS and the model's sameInts. -/
import Derived.Test.YtgenojpdjplccaaDoorRows
import Derived.Test.YtgenojpdjplccaaDoorFormTab
import Derived.Test.YtgenojpdjplccaaDoorMem
import Derived.WalkKit
import Derived.Outline
import Derived.Handy
import Derived.BigQuiet
import Derived.Deep.QuietTactic
import Derived.Deep.LoopGhost
import Derived.WalkLawsBesides
import Derived.Laws.OwnMore
import Derived.OwnWalk
set_option linter.unusedSimpArgs false
set_option linter.unusedVariables false
namespace Go.Proofs.YtgenojpdjplccaaDoor.In
open Go.RowKit Pl Ft Mm

/-- The slice v reads as these numbers. -/
def Rd (w : World) (v : Value) (xs : List Int) : Prop :=
  ∃ a cap, v = .slice a xs.length cap ∧ (xs = [] ∨ ∃ g o, a = some ⟨g, o, none⟩ ∧ g < w.heap.size ∧ ∀ j, j < xs.length → w.cell? ⟨g, o + j, none⟩ = some (.int .i64 (xs.getD j 0)))
theorem Rd.nil (w : World) (cap : Nat) : Rd w (.slice none 0 cap) [] := ⟨none, cap, rfl, .inl rfl⟩
theorem Rd.on {w w' : World} {v : Value} {xs : List Int} (h : Rd w v xs) (hb : Below w.heap.size w w') : Rd w' v xs := by
  obtain ⟨a, cap, e, h⟩ := h
  refine ⟨a, cap, e, ?_⟩
  rcases h with h | ⟨g, o, ea, hg, hc⟩
  · exact .inl h
  · refine .inr ⟨g, o, ea, Nat.lt_of_lt_of_le hg hb.size, fun j hj => ?_⟩
    rw [hb.cell (p := ⟨g, o + j, none⟩) hg]
    exact hc j hj
theorem Rd.alloc {w : World} {v : Value} {xs : List Int} (h : Rd w v xs) (o : Obj) : Rd (w.alloc o) v xs := h.on ((Below.refl _ _).alloc (Nat.le_refl _) o)
theorem Rd.of_own {w : World} {base : Nat} {e : TypeId} {v : Value} {xs : List Int} (h : w.ownsRow base e 1 v xs.length (ints xs)) : Rd w v xs := by
  obtain ⟨a, cap, rfl⟩ := own_slice h
  refine ⟨a, cap, rfl, ?_⟩
  by_cases h0 : xs = []
  · exact .inl h0
  · have hp : 0 < xs.length := List.length_pos_iff.2 h0
    obtain ⟨g, cap', hv, _, hg⟩ := own_addr h hp
    have ha : a = some ⟨g, 0, none⟩ := by simp at hv; exact hv.1
    subst ha
    refine .inr ⟨g, 0, rfl, hg, fun j hj => ?_⟩
    have := h.cells (g := g) rfl j (.int .i64 (xs.getD j 0)) (by simp [ints, hj])
    have e : (⟨g, 0, none⟩ : Addr).add j = ⟨g, j, none⟩ := by unfold Addr.add; split <;> simp_all
    rw [e] at this
    rw [Nat.zero_add]
    exact this
theorem below_drewN (w : World) (m : Nat) : Below w.heap.size w (w.drewN m) := ⟨rfl, rfl, rfl, Nat.le_refl _, fun _ _ => rfl⟩
/-- Numbers one after another. -/
def upFrom (k : Int) (n : Nat) : List Int := (List.range n).map fun (j : Nat) => k + j
theorem upFrom_len (k : Int) (n : Nat) : (upFrom k n).length = n := by simp [upFrom]
theorem upFrom_get (k : Int) (n j : Nat) (h : j < n) : (upFrom k n).getD j 0 = k + j := by simp [upFrom, h]
theorem mark_step (k0 : Int) (xs : List Int) (k : Nat) (h : k < xs.length) : (ints (upFrom k0 k ++ xs.drop k)).set k (.int .i64 (k0 + k)) = ints (upFrom k0 (k + 1) ++ xs.drop (k + 1)) := by
  have e : xs.drop k = xs[k] :: xs.drop (k + 1) := List.drop_eq_getElem_cons h
  have e2 : upFrom k0 (k + 1) = upFrom k0 k ++ [k0 + k] := by simp [upFrom, List.range_succ]
  rw [e, e2]
  simp only [ints, List.map_append, List.map_cons, List.map_nil]
  rw [List.set_append_right _ _ (by simp [upFrom])]
  simp [upFrom]
end Go.Proofs.YtgenojpdjplccaaDoor.In
