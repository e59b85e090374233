/- A worklist along any graph, plainly. A set of places as a map to truths, kept whole. -/
import Derived.Test.YtihhpgklpichgaaGreatSw
import Derived.Test.YtihhpgklpichgaaGreatMp
set_option linter.unusedSimpArgs false
set_option linter.unusedVariables false
namespace Go.Proofs.YtihhpgklpichgaaGreat.Wk
open Go.RowKit Pl Ft Mm In C2 Sw

/-- The places that are reached along a graph from some on. -/
inductive Rc (G : Nat → List Int) (S : List Int) : Nat → Prop
  | start (p : Nat) (h : (p : Int) ∈ S) : Rc G S p
  | step (p q : Nat) (h : Rc G S p) (hq : (q : Int) ∈ G p) : Rc G S q
/-- All places are from 0 to N, and each one leads to D at most. -/
structure GBd (G : Nat → List Int) (S : List Int) (N D : Nat) : Prop where
  st : ∀ q ∈ S, 0 ≤ q ∧ q ≤ N
  bd : ∀ p : Nat, p ≤ N → ∀ q ∈ G p, 0 ≤ q ∧ q ≤ N
  len : ∀ p : Nat, p ≤ N → (G p).length ≤ D
theorem Rc.le {G : Nat → List Int} {S : List Int} {N D : Nat} (hG : GBd G S N D) {p : Nat} (h : Rc G S p) : p ≤ N := by
  induction h with
  | start p h => have := hG.st p h; omega
  | step p q h hq ih => have := hG.bd p ih q hq; omega
theorem rc_nodup_le : ∀ (n : Nat) (l : List Nat), l.Nodup → (∀ x ∈ l, x < n) → l.length ≤ n
  | 0, l, _, h => by
    cases l with
    | nil => simp
    | cons a r => have := h a List.mem_cons_self; omega
  | n + 1, l, hn, h => by
    by_cases hm : n ∈ l
    · have h1 := rc_nodup_le n (l.erase n) (hn.erase n) (fun x hx => by
        have h2 := (hn.mem_erase_iff).1 hx
        have := h x h2.2
        have := h2.1
        omega)
      rw [List.length_erase_of_mem hm] at h1
      omega
    · have := rc_nodup_le n l hn (fun x hx => by
        have h1 := h x hx
        have h2 : x ≠ n := fun e => hm (e ▸ hx)
        omega)
      omega
/-- A worklist on its way: what was met, and what lies ahead. -/
structure WL (G : Nat → List Int) (S : List Int) (ms : List Nat) (ahead : List Int) : Prop where
  ra : ∀ q ∈ ahead, ∃ p : Nat, q = (p : Int) ∧ Rc G S p
  rm : ∀ p ∈ ms, Rc G S p
  cl : ∀ p ∈ ms, ∀ q : Nat, (q : Int) ∈ G p → q ∈ ms ∨ (q : Int) ∈ ahead
  st : ∀ q : Nat, (q : Int) ∈ S → q ∈ ms ∨ (q : Int) ∈ ahead
  nd : ms.Nodup
section
variable {G : Nat → List Int} {S : List Int} {N D : Nat} {ms : List Nat} {ahead rest : List Int} {a : Nat}
theorem WL.begin (hG : GBd G S N D) : WL G S [] S where
  ra q hq := ⟨q.toNat, by have := hG.st q hq; omega, .start _ (by have := hG.st q hq; rwa [show ((q.toNat : Nat) : Int) = q by omega])⟩
  rm p h := by cases h
  cl p h := by cases h
  st q hq := .inr hq
  nd := List.nodup_nil
theorem WL.again (h : WL G S ms ahead) (hm : ∀ q, q ∈ ahead ↔ q = (a : Int) ∨ q ∈ rest) (ha : a ∈ ms) : WL G S ms rest where
  ra q hq := h.ra q ((hm q).2 (.inr hq))
  rm := h.rm
  cl p hp q hq := by
    rcases h.cl p hp q hq with h1 | h1
    · exact .inl h1
    · rcases (hm q).1 h1 with h2 | h2
      · obtain rfl : q = a := by omega
        exact .inl ha
      · exact .inr h2
  st q hq := by
    rcases h.st q hq with h1 | h1
    · exact .inl h1
    · rcases (hm q).1 h1 with h2 | h2
      · obtain rfl : q = a := by omega
        exact .inl ha
      · exact .inr h2
  nd := h.nd
theorem WL.meet (hG : GBd G S N D) {rest' : List Int} (h : WL G S ms ahead) (hm : ∀ q, q ∈ ahead ↔ q = (a : Int) ∨ q ∈ rest) (ha : a ∉ ms) (hrest : ∀ q, q ∈ rest' ↔ q ∈ rest ∨ q ∈ G a) : WL G S (ms ++ [a]) rest' where
  ra q hq := by
    have hra : Rc G S a := by
      obtain ⟨p, e, hp⟩ := h.ra a ((hm a).2 (.inl rfl))
      obtain rfl : a = p := by omega
      exact hp
    rcases (hrest q).1 hq with h1 | h1
    · exact h.ra q ((hm q).2 (.inr h1))
    · have := hG.bd a (hra.le hG) q h1
      exact ⟨q.toNat, by omega, .step a _ hra (by rwa [show ((q.toNat : Nat) : Int) = q by omega])⟩
  rm p hp := by
    rcases List.mem_append.1 hp with h1 | h1
    · exact h.rm p h1
    · obtain rfl : p = a := by simpa using h1
      obtain ⟨p', e, hp⟩ := h.ra p ((hm p).2 (.inl rfl))
      obtain rfl : p = p' := by omega
      exact hp
  cl p hp q hq := by
    rcases List.mem_append.1 hp with h1 | h1
    · rcases h.cl p h1 q hq with h2 | h2
      · exact .inl (by simp [h2])
      · rcases (hm q).1 h2 with h3 | h3
        · obtain rfl : q = a := by omega
          exact .inl (by simp)
        · exact .inr ((hrest q).2 (.inl h3))
    · obtain rfl : p = a := by simpa using h1
      exact .inr ((hrest q).2 (.inr hq))
  st q hq := by
    rcases h.st q hq with h2 | h2
    · exact .inl (by simp [h2])
    · rcases (hm q).1 h2 with h3 | h3
      · obtain rfl : q = a := by omega
        exact .inl (by simp)
      · exact .inr ((hrest q).2 (.inl h3))
  nd := by
    rw [List.nodup_append]
    exact ⟨h.nd, by simp, fun x hx y hy => by
      obtain rfl : y = a := by simpa using hy
      exact fun e => ha (e ▸ hx)⟩
theorem WL.len (hG : GBd G S N D) (h : WL G S ms ahead) : ms.length ≤ N + 1 :=
  rc_nodup_le (N + 1) ms h.nd (fun p hp => by have := (h.rm p hp).le hG; omega)
theorem WL.done (h : WL G S ms []) (p : Nat) : p ∈ ms ↔ Rc G S p := by
  constructor
  · exact h.rm p
  · intro hr
    induction hr with
    | start p hp => rcases h.st p hp with h1 | h1; exact h1; cases h1
    | step p q _ hq ih => rcases h.cl p ih q hq with h1 | h1; exact h1; cases h1
end
end Go.Proofs.YtihhpgklpichgaaGreat.Wk
namespace Go.Proofs.YtihhpgklpichgaaGreat.Wk
open Go.RowKit Go.MapKept Pl Ft Mm In C2 Im Sw

def bEnt (p j : Nat) : MapEntry := { key := .int .i64 p, val := .bool true, born := j }
def bEnts (ms : List Nat) : Array MapEntry := ((List.range ms.length).map fun j => bEnt (ms.getD j 0) j).toArray
theorem bEnts_push (ms : List Nat) (p : Nat) : bEnts (ms ++ [p]) = (bEnts ms).push (bEnt p ms.length) := by
  apply Array.toList_inj.1
  unfold bEnts
  rw [Array.toList_push]
  simp only [List.length_append, List.length_singleton, List.range_succ, List.map_append, List.map_singleton]
  congr 1
  · apply List.map_congr_left
    intro j hj
    have hj := List.mem_range.1 hj
    rw [List.getD_eq_getElem?_getD, List.getD_eq_getElem?_getD, List.getElem?_append_left hj]
  · simp
theorem mem_bEnts {ms : List Nat} {e : MapEntry} (h : e ∈ (bEnts ms).toList) : ∃ p j, p ∈ ms ∧ e = bEnt p j := by
  unfold bEnts at h
  simp only [List.mem_map, List.mem_range] at h
  obtain ⟨j, hj, rfl⟩ := h
  exact ⟨ms.getD j 0, j, by simp [hj], rfl⟩
theorem bEnts_mem {ms : List Nat} {p : Nat} (h : p ∈ ms) : ∃ j, bEnt p j ∈ (bEnts ms).toList := by
  obtain ⟨j, hj, rfl⟩ := List.mem_iff_getElem.1 h
  refine ⟨j, ?_⟩
  unfold bEnts
  simp only [List.mem_map, List.mem_range]
  exact ⟨j, hj, by simp [hj]⟩
/-- Block b is the map of these places. -/
def SetAt (w : World) (b : Nat) (ms : List Nat) : Prop := w.heap[b]? = some (.map (bEnts ms) ms.length)
theorem SetAt.lt {w : World} {b : Nat} {ms : List Nat} (h : SetAt w b ms) : b < w.heap.size := (Array.getElem?_eq_some_iff.1 h).1
theorem SetAt.only {p : Nat → Prop} {w w' : World} {b : Nat} {ms : List Nat} (h : SetAt w b ms) (hp : ¬ p b) (ho : Only p w w') : SetAt w' b ms := (ho.block b h.lt hp).trans h
theorem SetAt.on {w w' : World} {b : Nat} {ms : List Nat} (h : SetAt w b ms) (hb : Below w.heap.size w w') : SetAt w' b ms := (hb.block b h.lt).trans h
theorem SetAt.alloc {w : World} {b : Nat} {ms : List Nat} (h : SetAt w b ms) (o : Obj) : SetAt (w.alloc o) b ms := h.on ((Below.refl _ _).alloc (Nat.le_refl _) o)
theorem SetAt.set {w : World} {b : Nat} {ms : List Nat} (h : SetAt w b ms) {p : Addr} (hp : b ≠ p.block) (u : Value) : SetAt (w.setCell p u) b ms := (Below.heap_setCell w p u b hp).trans h
theorem setAt_new (w : World) : SetAt (w.alloc (.map #[] 0)) w.heap.size [] := heap_alloc_last w _
theorem set_yes {w : World} {b : Nat} {ms : List Nat} {p : Nat} (h : SetAt w b ms) (hp : p ∈ ms) :
    (Instr.lookup 121 (.map (some b)) (.int .i64 p) false).run Tryz.prog w = .ok (.bool true) w := by
  obtain ⟨j, hj⟩ := findNow_yes (p : Int) (.bool true) (bEnts ms).toList 0 (fun e he => by
    obtain ⟨q, j, _, rfl⟩ := mem_bEnts he
    refine ⟨q, rfl, fun e => ?_⟩
    obtain rfl : q = p := by omega
    rfl) (by
    obtain ⟨j, hj⟩ := bEnts_mem hp
    exact ⟨_, hj, rfl⟩)
  have hk := check_int p w
  simp [Instr.lookup, run_underlying Tryz.underlying121, run_underlying Tryz.underlying3, Go.MapKept.run_getObj_map h, hk, Instr.findKey, Result.andThen, hj]
theorem set_no {w : World} {b : Nat} {ms : List Nat} {p : Nat} (h : SetAt w b ms) (hp : p ∉ ms) :
    (Instr.lookup 121 (.map (some b)) (.int .i64 p) false).run Tryz.prog w = .ok (.bool false) w := by
  have hj := findNow_no (p : Int) (bEnts ms).toList 0 (fun e he => by
    obtain ⟨q, j, hq, rfl⟩ := mem_bEnts he
    refine ⟨q, rfl, fun e => ?_⟩
    obtain rfl : q = p := by omega
    exact hp hq)
  have hk := check_int p w
  have hz : (zeroValue 4).run Tryz.prog w = .ok (.bool false) w := by kernel_rfl
  simp [Instr.lookup, run_underlying Tryz.underlying121, run_underlying Tryz.underlying3, Go.MapKept.run_getObj_map h, hk, Instr.findKey, Result.andThen, hj, hz]
def setSet (w : World) (b : Nat) (ms : List Nat) : World := { w with heap := w.heap.setIfInBounds b (.map (bEnts ms) ms.length) }
theorem setSet_at {w : World} {b : Nat} (hb : b < w.heap.size) (ms' : List Nat) : SetAt (setSet w b ms') b ms' := by
  unfold SetAt setSet
  simp [hb]
theorem setSet_only (w : World) (b : Nat) (ms : List Nat) : Only (fun g => g = b) w (setSet w b ms) :=
  ⟨rfl, rfl, rfl, by simp [setSet], fun k hk hne => by unfold setSet; simp only; rw [Array.getElem?_setIfInBounds_ne (fun e => hne e.symm)]⟩
theorem run_setPut {w : World} {b : Nat} {ms : List Nat} {p : Nat} (h : SetAt w b ms) (hp : p ∉ ms) :
    (Instr.mapUpdate 121 (.map (some b)) (.int .i64 p) (.bool true)).run Tryz.prog w = .ok () (setSet w b (ms ++ [p])) := by
  have hj := findNow_no (p : Int) (bEnts ms).toList 0 (fun e he => by
    obtain ⟨q, j, hq, rfl⟩ := mem_bEnts he
    refine ⟨q, rfl, fun e => ?_⟩
    obtain rfl : q = p := by omega
    exact hp hq)
  have hk := check_int p w
  unfold setSet
  rw [bEnts_push, List.length_append]
  simp [Instr.mapUpdate, run_underlying Tryz.underlying121, run_underlying Tryz.underlying3, Go.MapKept.run_getObj_map h, hk, Instr.findKey, Result.andThen, hj, Go.MapKept.run_setObj_map _ h, bEnt]
theorem stp_setPut {ops : Array Oper} {o : Oper} {a : Act} {K : Act → World → Prop} {Q : Exit → Act → World → Prop} {E : Prop} (w : World) (hgd : o.guard = none) (m x v : Operand) (hop : o.op = .mapUpdate 121 m x v) (hd : o.dst = none)
    {b : Nat} {ms : List Nat} {p : Nat} (h : SetAt w b ms) (hp : p ∉ ms) (hm : a.eval m = .map (some b)) (hx : a.eval x = .int .i64 p) (hv : a.eval v = .bool true)
    (hK : ∀ w', SetAt w' b (ms ++ [p]) → Only (fun g => g = b) w w' → K a w') : if Region.wanted o (yielded ops a.tmps) = true then Oper.wp Tryz.prog o a w K Q else E := by
  have hw : Region.wanted o (yielded ops a.tmps) = true := by simp [Region.wanted, hgd]
  rw [if_pos hw]
  have hrun := run_setPut h hp
  unfold Oper.wp
  simp [execOp, hop, hm, hx, hv, hrun, Result.andThen]
  show K (a.put o.dst undef) _
  rw [hd]
  exact hK _ (setSet_at h.lt _) (setSet_only _ _ _)
end Go.Proofs.YtihhpgklpichgaaGreat.Wk
