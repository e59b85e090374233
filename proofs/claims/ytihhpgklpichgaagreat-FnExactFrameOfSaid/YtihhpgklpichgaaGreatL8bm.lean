/- L8bm: several texts in one. -/
import Derived.Test.YtihhpgklpichgaaGreatMb
import Derived.Test.YtihhpgklpichgaaGreatFo
import Derived.Test.YtihhpgklpichgaaGreatBo
import Derived.Test.YtihhpgklpichgaaGreatFu
import Derived.BigQuiet
import Derived.Test.YtihhpgklpichgaaGreatL3a
import Derived.Test.YtihhpgklpichgaaGreatSwCap
/- Maps by numbers, kept whole: in the order in which their keys came, a value written over where its key was. -/
set_option linter.unusedSimpArgs false
set_option linter.unusedVariables false
namespace Go.Proofs.YtihhpgklpichgaaGreat.Wk
open Go.RowKit Go.MapKept Pl Ft Mm In C2 Im Sw

section
variable {α : Type}
def putE : List (Nat × α) → Nat → α → List (Nat × α)
  | [], q, x => [(q, x)]
  | (k, y) :: r, q, x => if k = q then (q, x) :: r else (k, y) :: putE r q x
def lookE : List (Nat × α) → Nat → Option α
  | [], _ => none
  | (k, y) :: r, q => if k = q then some y else lookE r q
def idxE : List (Nat × α) → Nat → Option (Nat × α)
  | [], _ => none
  | (k, y) :: r, q => if k = q then some (0, y) else (idxE r q).map fun t => (t.1 + 1, t.2)
theorem lookE_idx (es : List (Nat × α)) (q : Nat) : lookE es q = (idxE es q).map (·.2) := by
  induction es with
  | nil => rfl
  | cons e es ih =>
    obtain ⟨k, y⟩ := e
    unfold lookE idxE
    by_cases h : k = q
    · rw [if_pos h, if_pos h]; rfl
    · rw [if_neg h, if_neg h, ih]
      cases idxE es q <;> rfl
theorem look_put (es : List (Nat × α)) (q r : Nat) (x : α) : lookE (putE es q x) r = if r = q then some x else lookE es r := by
  induction es with
  | nil =>
    by_cases h : r = q
    · subst h; simp [putE, lookE]
    · have h2 : ¬ q = r := fun e => h e.symm
      simp [putE, lookE, h, h2]
  | cons e es ih =>
    obtain ⟨k, y⟩ := e
    by_cases hk : k = q
    · subst hk
      by_cases h : r = k
      · subst h; simp [putE, lookE]
      · have h2 : ¬ k = r := fun e => h e.symm
        simp [putE, lookE, h, h2]
    · by_cases h : r = q
      · subst h; simp [putE, lookE, hk, ih]
      · by_cases h3 : k = r
        · simp [putE, lookE, hk, h, h3]
        · simp [putE, lookE, hk, h, h3, ih]
theorem putE_len (es : List (Nat × α)) (q : Nat) (x : α) : (putE es q x).length ≤ es.length + 1 := by
  induction es with
  | nil => simp [putE]
  | cons e es ih =>
    obtain ⟨k, y⟩ := e
    unfold putE
    by_cases hk : k = q
    · rw [if_pos hk]; simp
    · rw [if_neg hk]; simp only [List.length_cons]; omega
theorem mem_put {es : List (Nat × α)} {q : Nat} {x : α} {e : Nat × α} (h : e ∈ putE es q x) : e ∈ es ∨ e = (q, x) := by
  induction es with
  | nil => exact .inr (by simpa [putE] using h)
  | cons c es ih =>
    obtain ⟨k, y⟩ := c
    unfold putE at h
    by_cases hk : k = q
    · rw [if_pos hk] at h
      rcases List.mem_cons.1 h with h | h
      · exact .inr h
      · exact .inl (List.mem_cons_of_mem _ h)
    · rw [if_neg hk] at h
      rcases List.mem_cons.1 h with h | h
      · exact .inl (by rw [h]; exact List.mem_cons_self)
      · exact (ih h).imp (List.mem_cons_of_mem _) id
theorem look_mem {es : List (Nat × α)} {q : Nat} {x : α} (h : lookE es q = some x) : (q, x) ∈ es := by
  induction es with
  | nil => cases h
  | cons c es ih =>
    obtain ⟨k, y⟩ := c
    unfold lookE at h
    by_cases hk : k = q
    · rw [if_pos hk] at h; cases h; rw [hk]; exact List.mem_cons_self
    · rw [if_neg hk] at h; exact List.mem_cons_of_mem _ (ih h)
def eEnt (enc : α → Value) (p : Nat) (x : α) (j : Nat) : MapEntry := { key := .int .i64 p, val := enc x, born := j }
def eList (enc : α → Value) : List (Nat × α) → Nat → List MapEntry
  | [], _ => []
  | (k, x) :: r, j => eEnt enc k x j :: eList enc r (j + 1)
theorem eList_len (enc : α → Value) : ∀ (es : List (Nat × α)) (j : Nat), (eList enc es j).length = es.length
  | [], _ => rfl
  | (k, x) :: r, j => by simp [eList, eList_len enc r]
theorem findNow_e (enc : α → Value) (p : Nat) : ∀ (es : List (Nat × α)) (j i : Nat), Instr.findNow (.int .i64) (.int .i64 p) (eList enc es j) i = some ((idxE es p).map fun t => (i + t.1, enc t.2))
  | [], _, _ => rfl
  | (k, x) :: r, j, i => by
    unfold eList idxE
    by_cases hk : k = p
    · subst hk
      have hs : Instr.sameNow (.int .i64) (.int .i64 (k : Nat)) (eEnt enc k x j).key = some true := by simp [eEnt, Instr.sameNow]
      unfold Instr.findNow
      rw [hs, if_pos rfl]
      simp [eEnt]
    · have hs : Instr.sameNow (.int .i64) (.int .i64 (p : Nat)) (eEnt enc k x j).key = some false := by
        simp only [eEnt, Instr.sameNow, if_true]
        rw [Option.some.injEq, beq_eq_false_iff_ne]
        omega
      unfold Instr.findNow
      rw [hs, if_neg hk]
      have h := findNow_e enc p r (j + 1) (i + 1)
      simp only [h]
      cases idxE r p with
      | none => rfl
      | some t => simp; omega
theorem putE_none (enc : α → Value) {es : List (Nat × α)} {p : Nat} (x : α) (h : idxE es p = none) : ∀ j, (eList enc (putE es p x) j).toArray = (eList enc es j).toArray.push (eEnt enc p x (j + es.length)) ∧ (putE es p x).length = es.length + 1 := by
  induction es with
  | nil => intro j; simp [putE, eList]
  | cons e es ih =>
    obtain ⟨k, y⟩ := e
    intro j
    unfold idxE at h
    by_cases hk : k = p
    · rw [if_pos hk] at h; cases h
    · rw [if_neg hk] at h
      have h1 := ih (by cases hi : idxE es p with | none => rfl | some t => rw [hi] at h; cases h) (j + 1)
      unfold putE
      rw [if_neg hk]
      refine ⟨?_, by simp [h1.2]⟩
      apply Array.toList_inj.1
      have h2 := congrArg Array.toList h1.1
      simp only [Array.toList_push] at h2 ⊢
      simp only [eList, List.cons_append, h2, List.length_cons]
      rw [show j + 1 + es.length = j + (es.length + 1) by omega]
theorem putE_some (enc : α → Value) {es : List (Nat × α)} {p : Nat} (x : α) {t : Nat × α} (h : idxE es p = some t) : ∀ j, (eList enc (putE es p x) j).toArray = (eList enc es j).toArray.modify t.1 (fun e => { e with key := .int .i64 p, val := enc x }) ∧ (putE es p x).length = es.length ∧ (((eList enc es j).toArray[t.1]?).map (·.key)).getD (.int .i64 p) = .int .i64 p := by
  induction es generalizing t with
  | nil => cases h
  | cons e es ih =>
    obtain ⟨k, y⟩ := e
    intro j
    unfold idxE at h
    by_cases hk : k = p
    · rw [if_pos hk] at h
      cases h
      unfold putE
      rw [if_pos hk]
      subst hk
      refine ⟨?_, by simp, by simp [eList, eEnt]⟩
      apply Array.toList_inj.1
      simp [eList, eEnt]
    · rw [if_neg hk] at h
      obtain ⟨u, hu, rfl⟩ := Option.map_eq_some_iff.1 h
      have h1 := ih hu (j + 1)
      unfold putE
      rw [if_neg hk]
      refine ⟨?_, by simp [h1.2.1], ?_⟩
      · apply Array.toList_inj.1
        have h2 := congrArg Array.toList h1.1
        simp at h2 ⊢
        simp [eList, h2]
      · have h3 := h1.2.2
        simpa [eList] using h3
/-- Block b is the map of these. -/
def EAt (w : World) (b : Nat) (enc : α → Value) (es : List (Nat × α)) : Prop := w.heap[b]? = some (.map (eList enc es 0).toArray es.length)
variable {enc : α → Value} {es : List (Nat × α)}
theorem EAt.lt {w : World} {b : Nat} (h : EAt w b enc es) : b < w.heap.size := (Array.getElem?_eq_some_iff.1 h).1
theorem EAt.only {p : Nat → Prop} {w w' : World} {b : Nat} (h : EAt w b enc es) (hp : ¬ p b) (ho : Only p w w') : EAt w' b enc es := (ho.block b h.lt hp).trans h
theorem EAt.on {w w' : World} {b : Nat} (h : EAt w b enc es) (hb : Below w.heap.size w w') : EAt w' b enc es := (hb.block b h.lt).trans h
theorem EAt.alloc {w : World} {b : Nat} (h : EAt w b enc es) (o : Obj) : EAt (w.alloc o) b enc es := h.on ((Below.refl _ _).alloc (Nat.le_refl _) o)
theorem eAt_new (enc : α → Value) (w : World) : EAt (w.alloc (.map #[] 0)) w.heap.size enc [] := heap_alloc_last w _
def setE (w : World) (b : Nat) (enc : α → Value) (es : List (Nat × α)) : World := { w with heap := w.heap.setIfInBounds b (.map (eList enc es 0).toArray es.length) }
theorem setE_at {w : World} {b : Nat} (hb : b < w.heap.size) (enc : α → Value) (es : List (Nat × α)) : EAt (setE w b enc es) b enc es := by
  unfold EAt setE
  simp [hb]
theorem setE_only (w : World) (b : Nat) (enc : α → Value) (es : List (Nat × α)) : Only (fun g => g = b) w (setE w b enc es) :=
  ⟨rfl, rfl, rfl, by simp [setE], fun k hk hne => by unfold setE; simp only; rw [Array.getElem?_setIfInBounds_ne (fun e => hne e.symm)]⟩
end
def encI : Int → Value := Value.int .i64
def encB : Bool → Value := Value.bool
theorem run_look_i {w : World} {b : Nat} {es : List (Nat × Int)} (h : EAt w b encI es) (p : Nat) :
    (Instr.lookup 130 (.map (some b)) (.int .i64 p) true).run Tryz.prog w = .ok (.tuple #[encI ((lookE es p).getD 0), .bool (lookE es p).isSome]) w := by
  have hj := findNow_e encI p es 0 0
  have hk := check_int p w
  have hz : (zeroValue 3).run Tryz.prog w = .ok (encI 0) w := by kernel_rfl
  rw [lookE_idx]
  cases hi : idxE es p with
  | none =>
    rw [hi] at hj
    simp at hj
    simp [Instr.lookup, run_underlying Tryz.underlying130, run_underlying Tryz.underlying3, Go.MapKept.run_getObj_map h, hk, Instr.findKey, Result.andThen, hj, hz]
  | some t =>
    rw [hi] at hj
    simp at hj
    simp [Instr.lookup, run_underlying Tryz.underlying130, run_underlying Tryz.underlying3, Go.MapKept.run_getObj_map h, hk, Instr.findKey, Result.andThen, hj]
theorem run_get_i {w : World} {b : Nat} {es : List (Nat × Int)} (h : EAt w b encI es) (p : Nat) :
    (Instr.lookup 130 (.map (some b)) (.int .i64 p) false).run Tryz.prog w = .ok (encI ((lookE es p).getD 0)) w := by
  have hj := findNow_e encI p es 0 0
  have hk := check_int p w
  have hz : (zeroValue 3).run Tryz.prog w = .ok (encI 0) w := by kernel_rfl
  rw [lookE_idx]
  cases hi : idxE es p with
  | none =>
    rw [hi] at hj
    simp at hj
    simp [Instr.lookup, run_underlying Tryz.underlying130, run_underlying Tryz.underlying3, Go.MapKept.run_getObj_map h, hk, Instr.findKey, Result.andThen, hj, hz]
  | some t =>
    rw [hi] at hj
    simp at hj
    simp [Instr.lookup, run_underlying Tryz.underlying130, run_underlying Tryz.underlying3, Go.MapKept.run_getObj_map h, hk, Instr.findKey, Result.andThen, hj]
theorem run_put_i {w : World} {b : Nat} {es : List (Nat × Int)} (h : EAt w b encI es) (p : Nat) (x : Int) :
    (Instr.mapUpdate 130 (.map (some b)) (.int .i64 p) (encI x)).run Tryz.prog w = .ok () (setE w b encI (putE es p x)) := by
  have hj := findNow_e encI p es 0 0
  have hk := check_int p w
  unfold setE
  cases hi : idxE es p with
  | none =>
    obtain ⟨h1, h2⟩ := putE_none encI x hi 0
    rw [h1, h2]
    rw [hi] at hj
    simp at hj
    simp [Instr.mapUpdate, run_underlying Tryz.underlying130, run_underlying Tryz.underlying3, Go.MapKept.run_getObj_map h, hk, Instr.findKey, Result.andThen, hj, Go.MapKept.run_setObj_map _ h, eEnt]
  | some t =>
    obtain ⟨h1, h2, h3⟩ := putE_some encI x hi 0
    rw [h1, h2]
    rw [hi] at hj
    simp at hj
    have hks : (Instr.keyThatStays (.int .i64 p) (.int .i64 p)).run Tryz.prog w = .ok (.int .i64 p) w := by
      unfold Instr.keyThatStays
      simp [Instr.sameBits]
    simp only [List.getElem?_toArray] at h3
    simp [Instr.mapUpdate, run_underlying Tryz.underlying130, run_underlying Tryz.underlying3, Go.MapKept.run_getObj_map h, hk, Instr.findKey, Result.andThen, hj]
    rw [h3, hks]
    simp [Go.MapKept.run_setObj_map _ h]
theorem run_look_b {w : World} {b : Nat} {es : List (Nat × Bool)} (h : EAt w b encB es) (p : Nat) :
    (Instr.lookup 121 (.map (some b)) (.int .i64 p) true).run Tryz.prog w = .ok (.tuple #[encB ((lookE es p).getD false), .bool (lookE es p).isSome]) w := by
  have hj := findNow_e encB p es 0 0
  have hk := check_int p w
  have hz : (zeroValue 4).run Tryz.prog w = .ok (encB false) w := by kernel_rfl
  rw [lookE_idx]
  cases hi : idxE es p with
  | none =>
    rw [hi] at hj
    simp at hj
    simp [Instr.lookup, run_underlying Tryz.underlying121, run_underlying Tryz.underlying3, Go.MapKept.run_getObj_map h, hk, Instr.findKey, Result.andThen, hj, hz]
  | some t =>
    rw [hi] at hj
    simp at hj
    simp [Instr.lookup, run_underlying Tryz.underlying121, run_underlying Tryz.underlying3, Go.MapKept.run_getObj_map h, hk, Instr.findKey, Result.andThen, hj]
theorem run_get_b {w : World} {b : Nat} {es : List (Nat × Bool)} (h : EAt w b encB es) (p : Nat) :
    (Instr.lookup 121 (.map (some b)) (.int .i64 p) false).run Tryz.prog w = .ok (encB ((lookE es p).getD false)) w := by
  have hj := findNow_e encB p es 0 0
  have hk := check_int p w
  have hz : (zeroValue 4).run Tryz.prog w = .ok (encB false) w := by kernel_rfl
  rw [lookE_idx]
  cases hi : idxE es p with
  | none =>
    rw [hi] at hj
    simp at hj
    simp [Instr.lookup, run_underlying Tryz.underlying121, run_underlying Tryz.underlying3, Go.MapKept.run_getObj_map h, hk, Instr.findKey, Result.andThen, hj, hz]
  | some t =>
    rw [hi] at hj
    simp at hj
    simp [Instr.lookup, run_underlying Tryz.underlying121, run_underlying Tryz.underlying3, Go.MapKept.run_getObj_map h, hk, Instr.findKey, Result.andThen, hj]
theorem run_put_b {w : World} {b : Nat} {es : List (Nat × Bool)} (h : EAt w b encB es) (p : Nat) (x : Bool) :
    (Instr.mapUpdate 121 (.map (some b)) (.int .i64 p) (encB x)).run Tryz.prog w = .ok () (setE w b encB (putE es p x)) := by
  have hj := findNow_e encB p es 0 0
  have hk := check_int p w
  unfold setE
  cases hi : idxE es p with
  | none =>
    obtain ⟨h1, h2⟩ := putE_none encB x hi 0
    rw [h1, h2]
    rw [hi] at hj
    simp at hj
    simp [Instr.mapUpdate, run_underlying Tryz.underlying121, run_underlying Tryz.underlying3, Go.MapKept.run_getObj_map h, hk, Instr.findKey, Result.andThen, hj, Go.MapKept.run_setObj_map _ h, eEnt]
  | some t =>
    obtain ⟨h1, h2, h3⟩ := putE_some encB x hi 0
    rw [h1, h2]
    rw [hi] at hj
    simp at hj
    have hks : (Instr.keyThatStays (.int .i64 p) (.int .i64 p)).run Tryz.prog w = .ok (.int .i64 p) w := by
      unfold Instr.keyThatStays
      simp [Instr.sameBits]
    simp only [List.getElem?_toArray] at h3
    simp [Instr.mapUpdate, run_underlying Tryz.underlying121, run_underlying Tryz.underlying3, Go.MapKept.run_getObj_map h, hk, Instr.findKey, Result.andThen, hj]
    rw [h3, hks]
    simp [Go.MapKept.run_setObj_map _ h]
end Go.Proofs.YtihhpgklpichgaaGreat.Wk
/- Heights of the stack plainly: what the search of the program makes of them, and what they are. No program is spoken of here. -/
namespace Go.Proofs.YtihhpgklpichgaaGreat.Wk
open Go.RowKit Pl Ft Mm In C2 Im Sw Gp

/-- By how much an instruction makes the stack higher, and how much must be there. -/
def riseP (i : IIns) : Int := if i.op = 3 then 1 else if i.op = 4 then -1 else if i.op = 25 then i.n else if i.op = 26 then -i.n else 0
def needsP (i : IIns) : Int := if i.op = 4 then 1 else if i.op = 23 ∨ i.op = 24 then i.n + 1 else if i.op = 26 then i.n else 0
def mayP (i : IIns) (h : Int) : Bool := decide (needsP i ≤ h) && (decide (h + riseP i ≤ 40) && (!decide (i.op = 1) || decide (h = 0)))
/-- The stack may be so high ahead of a place. -/
inductive Hr (code : List Int) (a : Nat) : Nat → Int → Prop
  | start : Hr code a a 0
  | step (p q : Nat) (i : IIns) (h : Int) (hp : Hr code a p h) (hi : readP code p = some i) (hq : (q : Int) ∈ Gm code false p) : Hr code a q (h + riseP i)
def okH (code : List Int) (a : Nat) : Prop := ∀ p h, Hr code a p h → (∀ i, readP code p = some i → mayP i h = true) ∧ ∀ h', Hr code a p h' → h' = h
noncomputable def hgt (code : List Int) (a p : Nat) : Int := @dite _ (∃ x, Hr code a p x) (Classical.propDecidable _) (fun h => Classical.choose h) (fun _ => 0)
section
variable {code : List Int} {a : Nat}
theorem Hr.rc {p : Nat} {h : Int} (hr : Hr code a p h) : Rc (Gm code false) [(a : Int)] p := by
  induction hr with
  | start => exact .start _ (by simp)
  | step p q i h _ _ hq ih => exact .step p q ih hq
theorem rc_hr (hs : ∀ p, Rc (Gm code false) [(a : Int)] p → (readP code p).isSome = true) {p : Nat} (hr : Rc (Gm code false) [(a : Int)] p) : ∃ h, Hr code a p h := by
  induction hr with
  | start p h =>
    have h2 : (p : Int) = a := by simpa using h
    obtain rfl : p = a := by omega
    exact ⟨0, .start⟩
  | step p q hp hq ih =>
    obtain ⟨h, hh⟩ := ih
    obtain ⟨i, hi⟩ := Option.isSome_iff_exists.1 (hs p hp)
    exact ⟨_, .step p q i h hh hi hq⟩
theorem hgt_eq (hok : okH code a) {p : Nat} {h : Int} (hr : Hr code a p h) : hgt code a p = h := by
  have he : ∃ x, Hr code a p x := ⟨h, hr⟩
  unfold hgt
  rw [dif_pos he]
  exact (hok p h hr).2 _ (Classical.choose_spec he)
end
/-- What a search holds of heights: whether all was well, and the heights by places. -/
def agreeE (o : Option Int) (b : Int) : Bool := match o with | none => true | some h => decide (h = b)
def stepE (b : Int) (s : Bool × List (Nat × Int)) (q : Nat) : Bool × List (Nat × Int) := (s.1 && agreeE (lookE s.2 q) b, putE s.2 q b)
def visitE (code : List Int) (s : Bool × List (Nat × Int)) (p : Nat) : Bool × List (Nat × Int) :=
  match readP code p with
  | none => s
  | some i => (toL (Gm code false) p).foldl (stepE ((lookE s.2 p).getD 0 + riseP i)) (s.1 && mayP i ((lookE s.2 p).getD 0), s.2)
def heldE (code : List Int) (a : Nat) (ms : List Nat) : Bool × List (Nat × Int) := ms.foldl (visitE code) (true, [(a, 0)])
theorem heldE_push (code : List Int) (a : Nat) (ms : List Nat) (p : Nat) : heldE code a (ms ++ [p]) = visitE code (heldE code a ms) p := by simp [heldE]
section
variable {code : List Int} {a : Nat}
structure HOn (code : List Int) (a : Nat) (ms : List Nat) (es : List (Nat × Int)) : Prop where
  hr : ∀ p h, lookE es p = some h → Hr code a p h
  st : lookE es a = some 0
  cl : ∀ p ∈ ms, ∀ i, readP code p = some i → ∃ h, lookE es p = some h ∧ mayP i h = true ∧ ∀ q : Nat, (q : Int) ∈ Gm code false p → lookE es q = some (h + riseP i)
structure HInv (code : List Int) (a : Nat) (ms : List Nat) (s : Bool × List (Nat × Int)) : Prop where
  on : s.1 = true → HOn code a ms s.2
  off : s.1 = false → ¬ okH code a
theorem fold_no (b : Int) : ∀ (qs : List Nat) (s : Bool × List (Nat × Int)), s.1 = false → (qs.foldl (stepE b) s).1 = false
  | [], s, h => h
  | q :: qs, s, h => fold_no b qs _ (by simp [stepE, h])
theorem fold_step {p : Nat} {i : IIns} {h : Int} (hp : Hr code a p h) (hi : readP code p = some i) : ∀ (qs : List Nat) (s : Bool × List (Nat × Int)), (∀ q ∈ qs, (q : Int) ∈ Gm code false p) → s.1 = true → (∀ r x, lookE s.2 r = some x → Hr code a r x) →
    ((qs.foldl (stepE (h + riseP i)) s).1 = true → (∀ r x, lookE (qs.foldl (stepE (h + riseP i)) s).2 r = some x → Hr code a r x) ∧ (∀ r x, lookE s.2 r = some x → lookE (qs.foldl (stepE (h + riseP i)) s).2 r = some x) ∧ ∀ q ∈ qs, lookE (qs.foldl (stepE (h + riseP i)) s).2 q = some (h + riseP i)) ∧
    ((qs.foldl (stepE (h + riseP i)) s).1 = false → ¬ okH code a)
  | [], s, _, hs, ha => ⟨fun _ => ⟨ha, fun _ _ h => h, fun _ h => by cases h⟩, fun h => by rw [List.foldl_nil, hs] at h; cases h⟩
  | q :: qs, s, hq, hs, ha => by
    have hHq : Hr code a q (h + riseP i) := .step p q i h hp hi (hq q (by simp))
    rw [List.foldl_cons]
    by_cases hg : agreeE (lookE s.2 q) (h + riseP i) = true
    · have h1 : (stepE (h + riseP i) s q).1 = true := by simp [stepE, hs, hg]
      have hmono : ∀ r x, lookE s.2 r = some x → lookE (stepE (h + riseP i) s q).2 r = some x := fun r x hx => by
        unfold stepE
        simp only
        rw [look_put]
        by_cases hr : r = q
        · subst hr
          rw [hx] at hg
          simp only [agreeE, decide_eq_true_eq] at hg
          rw [if_pos rfl, hg]
        · rw [if_neg hr, hx]
      have h2 := fold_step hp hi qs (stepE (h + riseP i) s q) (fun x hx => hq x (by simp [hx])) h1 (fun r x hx => by
        unfold stepE at hx
        simp only at hx
        rw [look_put] at hx
        by_cases hr : r = q
        · subst hr
          rw [if_pos rfl] at hx
          cases hx
          exact hHq
        · rw [if_neg hr] at hx
          exact ha r x hx)
      refine ⟨fun hb => ?_, h2.2⟩
      obtain ⟨g1, g2, g3⟩ := h2.1 hb
      refine ⟨g1, fun r x hx => g2 r x (hmono r x hx), fun x hx => ?_⟩
      rcases List.mem_cons.1 hx with rfl | hx
      · refine g2 x _ ?_
        unfold stepE
        simp only
        rw [look_put, if_pos rfl]
      · exact g3 x hx
    · have h1 : (stepE (h + riseP i) s q).1 = false := by simp [stepE, hg]
      have h2 := fold_no (h + riseP i) qs _ h1
      refine ⟨fun hb => (by rw [h2] at hb; cases hb), fun _ hok => hg ?_⟩
      cases hl : lookE s.2 q with
      | none => rfl
      | some x => simp only [agreeE, decide_eq_true_eq]; exact ((hok q x (ha q x hl)).2 _ hHq).symm
theorem HInv.visit {ms : List Nat} {s : Bool × List (Nat × Int)} {p : Nat} (h : HInv code a ms s) (hms : ∀ u ∈ ms, (readP code u).isSome = true) (hf : p = a ∨ ∃ u ∈ ms, (p : Int) ∈ Gm code false u) (hp : (readP code p).isSome = true)
    (hnn : ∀ q ∈ Gm code false p, 0 ≤ q) : HInv code a (ms ++ [p]) (visitE code s p) := by
  obtain ⟨i, hi⟩ := Option.isSome_iff_exists.1 hp
  unfold visitE
  rw [hi]
  simp only
  have hmem : ∀ q ∈ toL (Gm code false) p, (q : Int) ∈ Gm code false p := fun q hq => by
    obtain ⟨x, hx, rfl⟩ := List.mem_map.1 hq
    have := hnn x hx
    rwa [show ((x.toNat : Nat) : Int) = x by omega]
  cases hs : s.1 with
  | false =>
    rw [Bool.false_and]
    have := fold_no ((lookE s.2 p).getD 0 + riseP i) (toL (Gm code false) p) (false, s.2) rfl
    exact ⟨fun hb => (by rw [this] at hb; cases hb), fun _ => h.off hs⟩
  | true =>
    have ho := h.on hs
    obtain ⟨x, hx⟩ : ∃ x, lookE s.2 p = some x := by
      rcases hf with rfl | ⟨u, hu, hpu⟩
      · exact ⟨0, ho.st⟩
      · obtain ⟨j, hj⟩ := Option.isSome_iff_exists.1 (hms u hu)
        obtain ⟨y, _, _, hy⟩ := ho.cl u hu j hj
        exact ⟨_, hy p hpu⟩
    rw [hx, Option.getD_some, Bool.true_and]
    have hHp := ho.hr p x hx
    cases hm : mayP i x with
    | false =>
      have := fold_no (x + riseP i) (toL (Gm code false) p) (false, s.2) rfl
      exact ⟨fun hb => (by rw [this] at hb; cases hb), fun _ hok => by have := (hok p x hHp).1 i hi; rw [hm] at this; cases this⟩
    | true =>
      have hF := fold_step hHp hi (toL (Gm code false) p) (true, s.2) hmem rfl ho.hr
      refine ⟨fun hb => ?_, hF.2⟩
      obtain ⟨g1, g2, g3⟩ := hF.1 hb
      refine ⟨g1, g2 a 0 ho.st, fun u hu j hj => ?_⟩
      rcases List.mem_append.1 hu with hu | hu
      · obtain ⟨y, h1, h2, h3⟩ := ho.cl u hu j hj
        exact ⟨y, g2 u y h1, h2, fun q hq => g2 q _ (h3 q hq)⟩
      · obtain rfl : u = p := by simpa using hu
        rw [hi] at hj
        cases hj
        exact ⟨x, g2 u x hx, hm, fun q hq => g3 q (List.mem_map.2 ⟨_, hq, by simp⟩)⟩
theorem HOn.all {ms : List Nat} {es : List (Nat × Int)} (h : HOn code a ms es) (hm : ∀ p, p ∈ ms ↔ Rc (Gm code false) [(a : Int)] p) {p : Nat} {x : Int} (hr : Hr code a p x) : lookE es p = some x := by
  induction hr with
  | start => exact h.st
  | step p q i y hp hi hq ih =>
    obtain ⟨z, h1, _, h3⟩ := h.cl p ((hm p).2 hp.rc) i hi
    rw [ih] at h1
    cases h1
    exact h3 q hq
theorem HOn.ok {ms : List Nat} {es : List (Nat × Int)} (h : HOn code a ms es) (hm : ∀ p, p ∈ ms ↔ Rc (Gm code false) [(a : Int)] p) : okH code a := fun p x hr => by
  have hl := h.all hm hr
  refine ⟨fun i hi => ?_, fun y hy => ?_⟩
  · obtain ⟨z, h1, h2, _⟩ := h.cl p ((hm p).2 hr.rc) i hi
    rw [hl] at h1
    cases h1
    exact h2
  · have := h.all hm hy
    rw [hl] at this
    cases this
    rfl
/-- Places in the order in which they are met: each one is a beginning, or one ahead of it leads to it. -/
def Met (L : Nat → List Nat) (S : List Nat) (ms : List Nat) : Prop := ∀ k (h : k < ms.length), Fr L S (ms.take k) (ms[k])
theorem Met.snoc {L : Nat → List Nat} {S ms : List Nat} {q : Nat} (h : Met L S ms) (hq : Fr L S ms q) : Met L S (ms ++ [q]) := by
  intro k hk
  rw [List.length_append, List.length_singleton] at hk
  by_cases h1 : k < ms.length
  · rw [List.getElem_append_left h1, List.take_append_of_le_length (by omega)]
    exact h k h1
  · obtain rfl : k = ms.length := by omega
    rw [List.getElem_append_right (Nat.le_refl _)]
    simpa using hq
theorem dfs_met {L : Nat → List Nat} {S qs ms lf ms' lf' : List Nat} (h : Dfs L qs ms lf ms' lf') : Met L S ms → (∀ q ∈ qs, Fr L S ms q) → Met L S ms' := by
  induction h with
  | nil => exact fun h _ => h
  | skip q qs ms lf ms' lf' h r ih => exact fun hm hq => ih hm (fun x hx => hq x (by simp [hx]))
  | go q qs ms lf ms1 lf1 ms' lf' h i r ih1 ih2 =>
    exact fun hm hq => ih2 (ih1 (hm.snoc (hq q (by simp))) (fun x hx => .inr ⟨q, by simp, hx⟩)) (fun x hx => (hq x (by simp [hx])).mono (fun m hm => i.sub _ (by simp [hm])))
theorem held_inv (hs : ∀ p, Rc (Gm code false) [(a : Int)] p → (readP code p).isSome = true) (hnn : ∀ p, ∀ q ∈ Gm code false p, 0 ≤ q) : ∀ (ms : List Nat), Met (toL (Gm code false)) [a] ms → (∀ p ∈ ms, Rc (Gm code false) [(a : Int)] p) → HInv code a ms (heldE code a ms) := by
  suffices H : ∀ (n : Nat) (ms : List Nat), ms.length = n → Met (toL (Gm code false)) [a] ms → (∀ p ∈ ms, Rc (Gm code false) [(a : Int)] p) → HInv code a ms (heldE code a ms) from fun ms => H _ ms rfl
  intro n
  induction n with
  | zero =>
    intro ms hl _ _
    obtain rfl := List.eq_nil_of_length_eq_zero hl
    refine ⟨fun _ => ⟨fun p h hl => ?_, by simp [heldE, lookE], fun p hp => (by cases hp)⟩, fun h => (by cases h)⟩
    simp only [heldE, List.foldl_nil, lookE] at hl
    split at hl
    · rename_i he
      subst he
      cases hl
      exact .start
    · cases hl
  | succ n ih =>
    intro ms0 hl hm hrc
    obtain ⟨ms, p, rfl⟩ : ∃ ms p, ms0 = ms ++ [p] := by
      rcases List.eq_nil_or_concat ms0 with h | ⟨ms, p, h⟩
      · rw [h] at hl; cases hl
      · exact ⟨ms, p, by rw [h, List.concat_eq_append]⟩
    have hln : ms.length = n := by simpa using hl
    have hm1 : Met (toL (Gm code false)) [a] ms := fun k hk => by
      have := hm k (by simp; omega)
      rwa [List.getElem_append_left hk, List.take_append_of_le_length (by omega)] at this
    have hfr : Fr (toL (Gm code false)) [a] ms p := by
      have := hm ms.length (by simp)
      simpa using this
    rw [heldE_push]
    refine (ih ms hln hm1 (fun q hq => hrc q (by simp [hq]))).visit (fun u hu => hs u (hrc u (by simp [hu]))) ?_ (hs p (hrc p (by simp))) (hnn p)
    rcases hfr with h | ⟨u, hu, hpu⟩
    · exact .inl (by simpa using h)
    · obtain ⟨x, hx, rfl⟩ := List.mem_map.1 hpu
      have := hnn u x hx
      exact .inr ⟨u, hu, by rwa [show ((x.toNat : Nat) : Int) = x by omega]⟩
theorem held_ok (hs : ∀ p, Rc (Gm code false) [(a : Int)] p → (readP code p).isSome = true) (hnn : ∀ p, ∀ q ∈ Gm code false p, 0 ≤ q) {ms : List Nat} (hm : Met (toL (Gm code false)) [a] ms) (hr : ∀ p, p ∈ ms ↔ Rc (Gm code false) [(a : Int)] p) :
    (heldE code a ms).1 = pdec (okH code a) ∧ (okH code a → ∀ p ∈ ms, lookE (heldE code a ms).2 p = some (hgt code a p)) := by
  have hI := held_inv hs hnn ms hm (fun p hp => (hr p).1 hp)
  constructor
  · cases hb : (heldE code a ms).1 with
    | true => exact (pdec_yes ((hI.on hb).ok hr)).symm
    | false => exact (pdec_no (hI.off hb)).symm
  · intro hok p hp
    cases hb : (heldE code a ms).1 with
    | true =>
      obtain ⟨x, hx⟩ := rc_hr hs ((hr p).1 hp)
      rw [(hI.on hb).all hr hx, hgt_eq hok hx]
    | false => exact absurd hok (hI.off hb)
end
/-- Heights as the model finds them: places in a row, those ahead of the k-th one asked, and a height for each place, below 0 for none. -/
structure BHt (code : List Int) (a : Nat) (line : List Nat) (k : Nat) (f : Nat → Int) : Prop where
  hr : ∀ q, q < code.length → 0 ≤ f q → Hr code a q (f q)
  ln : ∀ q, q ∈ line ↔ (q < code.length ∧ 0 ≤ f q)
  st : a ∈ line ∧ f a = 0
  cl : ∀ j (hj : j < line.length), j < k → ∀ i, readP code line[j] = some i → mayP i (f line[j]) = true ∧ ∀ q : Nat, (q : Int) ∈ Gm code false line[j] → f q = f line[j] + riseP i ∧ q ∈ line
  nd : line.Nodup
/-- The same within the places to which the k-th one leads. -/
structure BHn (code : List Int) (a : Nat) (line0 : List Nat) (k : Nat) (p : Nat) (i : IIns) (f0 : Nat → Int) (t : Nat) (line : List Nat) (f : Nat → Int) : Prop where
  hr : ∀ q, q < code.length → 0 ≤ f q → Hr code a q (f q)
  ln : ∀ q, q ∈ line ↔ (q < code.length ∧ 0 ≤ f q)
  pre : ∃ ex, line = line0 ++ ex
  old : ∀ q ∈ line0, f q = f0 q
  nx : ∀ q : Nat, (q : Int) ∈ (Gm code false p).take t → f q = f0 p + riseP i ∧ q ∈ line
  nd : line.Nodup
section
variable {code : List Int} {a : Nat}
theorem BHt.begin (hal : a < code.length) : BHt code a [a] 0 (fun q => if q = a then 0 else -1) where
  hr q hq h := by
    by_cases e : q = a
    · subst e; simp only [if_true]; exact .start
    · rw [if_neg e] at h; omega
  ln q := by
    by_cases e : q = a
    · subst e; simp [hal]
    · simp [e]
  st := ⟨by simp, by simp⟩
  cl j hj hk := by omega
  nd := by simp
theorem BHt.end_ {line : List Nat} {k : Nat} {f : Nat → Int} (h : BHt code a line k f) (hk : line.length ≤ k) : okH code a ∧ ∀ p x, Hr code a p x → p ∈ line ∧ f p = x := by
  have hall : ∀ p x, Hr code a p x → p ∈ line ∧ f p = x := fun p x hx => by
    induction hx with
    | start => exact h.st
    | step p q i y hp hi hq ih =>
      obtain ⟨j, hj, e⟩ := List.mem_iff_getElem.1 ih.1
      have := (h.cl j hj (by omega) i (by rw [e]; exact hi)).2 q (by rw [e]; exact hq)
      rw [e, ih.2] at this
      exact ⟨this.2, this.1⟩
  refine ⟨fun p x hx => ⟨fun i hi => ?_, fun y hy => ?_⟩, hall⟩
  · obtain ⟨hm, hf⟩ := hall p x hx
    obtain ⟨j, hj, e⟩ := List.mem_iff_getElem.1 hm
    have := (h.cl j hj (by omega) i (by rw [e]; exact hi)).1
    rwa [e, hf] at this
  · rw [← (hall p x hx).2, ← (hall p y hy).2]
theorem BHt.hp {line : List Nat} {k : Nat} {f : Nat → Int} (h : BHt code a line k f) {p : Nat} (hp : p ∈ line) : Hr code a p (f p) := h.hr p ((h.ln p).1 hp).1 ((h.ln p).1 hp).2
theorem BHt.not {line : List Nat} {k p : Nat} {i : IIns} {f : Nat → Int} (h : BHt code a line k f) (hp : p ∈ line) (hi : readP code p = some i) (hm : mayP i (f p) = false) : ¬ okH code a := fun hok => by
  have := (hok p _ (h.hp hp)).1 i hi
  rw [hm] at this
  cases this
theorem BHt.next {line : List Nat} {k p : Nat} {i : IIns} {f : Nat → Int} (h : BHt code a line k f) : BHn code a line k p i f 0 line f where
  hr := h.hr
  ln := h.ln
  pre := ⟨[], by simp⟩
  old q _ := rfl
  nx q hq := by simp at hq
  nd := h.nd
theorem rise_nn {i : IIns} {h : Int} (hm : mayP i h = true) (hn : 0 ≤ h) (hv : i.op = 25 → 0 ≤ i.n) : 0 ≤ h + riseP i := by
  simp only [mayP, Bool.and_eq_true, decide_eq_true_eq] at hm
  have h1 := hm.1
  unfold needsP at h1
  unfold riseP
  split
  · omega
  · split
    · rename_i h4; rw [if_pos h4] at h1; omega
    · split
      · rename_i h25; have := hv h25; omega
      · split
        · rename_i h4 _ h26; rw [if_neg h4, if_neg (by omega), if_pos h26] at h1; omega
        · omega
theorem BHn.bad {line0 line : List Nat} {k p t q : Nat} {i : IIns} {f0 f : Nat → Int} (h : BHn code a line0 k p i f0 t line f) (hp : Hr code a p (f0 p)) (hi : readP code p = some i) (hq : (q : Int) ∈ Gm code false p) (hql : q < code.length) (h0 : 0 ≤ f q) (hne : f q ≠ f0 p + riseP i) : ¬ okH code a := fun hok =>
  hne ((hok q _ (Hr.step p q i _ hp hi hq)).2 _ (h.hr q hql h0))
theorem take_mem_succ {l : List Int} {t : Nat} (ht : t < l.length) {x : Int} : x ∈ l.take (t + 1) ↔ x ∈ l.take t ∨ x = l[t] := by
  rw [List.take_succ_eq_append_getElem ht, List.mem_append, List.mem_singleton]
theorem BHn.same {line0 line : List Nat} {k p t q : Nat} {i : IIns} {f0 f : Nat → Int} (h : BHn code a line0 k p i f0 t line f) (ht : t < (Gm code false p).length) (hq : (Gm code false p)[t] = (q : Int)) (hql : q < code.length) (h0 : 0 ≤ f q) (he : f q = f0 p + riseP i) : BHn code a line0 k p i f0 (t + 1) line f :=
  ⟨h.hr, h.ln, h.pre, h.old, fun r hr => by
    rcases (take_mem_succ ht).1 hr with h1 | h1
    · exact h.nx r h1
    · obtain rfl : r = q := by rw [hq] at h1; omega
      exact ⟨he, (h.ln r).2 ⟨hql, h0⟩⟩, h.nd⟩
theorem BHn.new {line0 line : List Nat} {k p t q : Nat} {i : IIns} {f0 f : Nat → Int} (h : BHn code a line0 k p i f0 t line f) (hp : Hr code a p (f0 p)) (hi : readP code p = some i) (ht : t < (Gm code false p).length) (hq : (Gm code false p)[t] = (q : Int)) (hql : q < code.length) (h0 : f q < 0) (hn : 0 ≤ f0 p + riseP i) :
    BHn code a line0 k p i f0 (t + 1) (line ++ [q]) (fun r => if r = q then f0 p + riseP i else f r) := by
  have hql2 : q ∉ line := fun hm => by have := ((h.ln q).1 hm).2; omega
  refine ⟨fun r hr h1 => ?_, fun r => ?_, ?_, fun r hr => ?_, fun r hr => ?_, snoc_nodup h.nd hql2⟩
  · by_cases e : r = q
    · subst e
      simp only [if_true]
      exact .step p r i _ hp hi (hq ▸ List.getElem_mem ht)
    · simp only [if_neg e] at h1 ⊢
      exact h.hr r hr h1
  · rw [List.mem_append, List.mem_singleton, h.ln r]
    by_cases e : r = q
    · subst e; simp [hql, hn]
    · simp only [if_neg e]; exact ⟨fun h1 => h1.elim id (fun h2 => absurd h2 e), .inl⟩
  · obtain ⟨ex, rfl⟩ := h.pre
    exact ⟨ex ++ [q], by simp⟩
  · have e : r ≠ q := fun e => hql2 (by obtain ⟨ex, rfl⟩ := h.pre; rw [← e]; simp [hr])
    simp only [if_neg e]
    exact h.old r hr
  · by_cases e : r = q
    · subst e; simp
    · simp only [if_neg e]
      rcases (take_mem_succ ht).1 hr with h1 | h1
      · exact ⟨(h.nx r h1).1, by simp [(h.nx r h1).2]⟩
      · rw [hq] at h1
        omega
theorem BHn.done {line0 line : List Nat} {k p t : Nat} {i : IIns} {f0 f : Nat → Int} (h : BHn code a line0 k p i f0 t line f) (h0 : BHt code a line0 k f0) (hk : k < line0.length) (hp : line0[k] = p) (hi : readP code p = some i) (hm : mayP i (f0 p) = true) (ht : (Gm code false p).length ≤ t) : BHt code a line (k + 1) f := by
  obtain ⟨ex, rfl⟩ := h.pre
  refine ⟨h.hr, h.ln, ⟨by simp [h0.st.1], by rw [h.old a h0.st.1]; exact h0.st.2⟩, fun j hj hjk j' hj' => ?_, h.nd⟩
  have hjl : j < line0.length := by omega
  rw [List.getElem_append_left hjl] at hj' ⊢
  rw [h.old _ (List.getElem_mem hjl)]
  by_cases e : j = k
  · subst e
    rw [hp] at hj' ⊢
    rw [hi] at hj'
    cases hj'
    refine ⟨hm, fun q hq => h.nx q ?_⟩
    rw [List.take_of_length_le ht]
    exact hq
  · obtain ⟨g1, g2⟩ := h0.cl j hjl (by omega) j' hj'
    refine ⟨g1, fun q hq => ?_⟩
    obtain ⟨g3, g4⟩ := g2 q hq
    exact ⟨by rw [h.old q g4]; exact g3, by simp [g4]⟩
end
/-- What HeightsOf tells of a function of a sound image. -/
noncomputable def heightsL (code : List Int) (a : Nat) : List Int := if pdec (okH code a) = true then (reachL code [(a : Int)] false).map (fun x => hgt code a x.toNat) else []
end Go.Proofs.YtihhpgklpichgaaGreat.Wk
/- Blocks plainly: where they begin. No program is spoken of here. -/
namespace Go.Proofs.YtihhpgklpichgaaGreat.Wk
open Go.RowKit Pl Ft Mm In C2 Im Sw Gp

/-- An instruction behind which one goes on, and nowhere else; a jump or a table. -/
def aloneI (i : IIns) : Bool := !(decide (i.op = 0 ∨ i.op = 1 ∨ i.op = 27 ∨ i.op = 28 ∨ i.op = 30))
def turnI (i : IIns) : Bool := decide (i.op = 27 ∨ i.op = 28 ∨ i.op = 30)
def BegP (code : List Int) (P : List Nat) (q : Nat) : Prop :=
  (∃ p ∈ P, ∃ i, readP code p = some i ∧ turnI i = true ∧ (q : Int) ∈ Gm code false p) ∨ ∃ p ∈ P, ∃ p' ∈ P, p ≠ p' ∧ (q : Int) ∈ Gm code false p ∧ (q : Int) ∈ Gm code false p'
theorem gm_alone {code : List Int} {p : Nat} {i : IIns} (h : readP code p = some i) (ha : aloneI i = true) : Gm code false p = [(p : Int) + slong i] := by
  unfold Gm
  rw [h]
  simp only [aloneI, Bool.not_eq_true', decide_eq_false_iff_not, not_or] at ha
  unfold nextsP
  simp only
  rw [if_neg (by omega), if_neg (by omega), if_neg (by omega), if_neg (by omega)]
  simp
theorem gm_stop {code : List Int} {p : Nat} {i : IIns} (h : readP code p = some i) (ha : aloneI i = false) (ht : turnI i = false) : Gm code false p = [] := by
  unfold Gm
  rw [h]
  simp only [aloneI, Bool.not_eq_false', decide_eq_true_eq] at ha
  simp only [turnI, decide_eq_false_iff_not, not_or] at ht
  unfold nextsP
  simp only
  rw [if_pos (by omega)]
  simp
theorem turn_alone {i : IIns} (h : aloneI i = true) : turnI i = false := by
  simp only [aloneI, Bool.not_eq_true', decide_eq_false_iff_not, not_or] at h
  simp only [turnI, decide_eq_false_iff_not]
  omega
theorem begP_snoc {code : List Int} {P : List Nat} {p q : Nat} {i : IIns} (hn : p ∉ P) (hi : readP code p = some i) : BegP code (P ++ [p]) q ↔ BegP code P q ∨ ((q : Int) ∈ Gm code false p ∧ (turnI i = true ∨ ∃ p' ∈ P, (q : Int) ∈ Gm code false p')) := by
  constructor
  · rintro (⟨x, hx, j, hj, ht, hq⟩ | ⟨x, hx, y, hy, hne, hqx, hqy⟩)
    · rcases List.mem_append.1 hx with h | h
      · exact .inl (.inl ⟨x, h, j, hj, ht, hq⟩)
      · obtain rfl : x = p := by simpa using h
        rw [hi] at hj
        cases hj
        exact .inr ⟨hq, .inl ht⟩
    · rcases List.mem_append.1 hx with h | h
      · rcases List.mem_append.1 hy with h' | h'
        · exact .inl (.inr ⟨x, h, y, h', hne, hqx, hqy⟩)
        · obtain rfl : y = p := by simpa using h'
          exact .inr ⟨hqy, .inr ⟨x, h, hqx⟩⟩
      · obtain rfl : x = p := by simpa using h
        rcases List.mem_append.1 hy with h' | h'
        · exact .inr ⟨hqx, .inr ⟨y, h', hqy⟩⟩
        · obtain rfl : y = x := by simpa using h'
          exact absurd rfl hne
  · rintro (h | ⟨hq, ht | ⟨x, hx, hqx⟩⟩)
    · rcases h with ⟨x, hx, j, hj, ht, hq⟩ | ⟨x, hx, y, hy, hne, hqx, hqy⟩
      · exact .inl ⟨x, by simp [hx], j, hj, ht, hq⟩
      · exact .inr ⟨x, by simp [hx], y, by simp [hy], hne, hqx, hqy⟩
    · exact .inl ⟨p, by simp, i, hi, ht, hq⟩
    · exact .inr ⟨x, by simp [hx], p, by simp, fun e => hn (e ▸ hx), hqx, hq⟩
/-- What is held of where blocks begin: places to which one came, and places at which one begins. -/
def gb (es : List (Nat × Bool)) (q : Nat) : Bool := (lookE es q).getD false
theorem gb_put (es : List (Nat × Bool)) (q r : Nat) (b : Bool) : gb (putE es q b) r = if r = q then b else gb es r := by
  unfold gb
  rw [look_put]
  by_cases h : r = q
  · rw [if_pos h, if_pos h]; rfl
  · rw [if_neg h, if_neg h]
def stepB (al : Bool) (s : List (Nat × Bool) × List (Nat × Bool)) (q : Nat) : List (Nat × Bool) × List (Nat × Bool) := (putE s.1 q true, putE s.2 q (gb s.2 q || (gb s.1 q || !al)))
def visitB (code : List Int) (s : List (Nat × Bool) × List (Nat × Bool)) (p : Nat) : List (Nat × Bool) × List (Nat × Bool) :=
  match readP code p with
  | none => s
  | some i => (toL (Gm code false) p).foldl (stepB (aloneI i)) s
theorem foldB_met (al : Bool) (q : Nat) : ∀ (qs : List Nat) (s : List (Nat × Bool) × List (Nat × Bool)), gb (qs.foldl (stepB al) s).1 q = true ↔ gb s.1 q = true ∨ q ∈ qs
  | [], s => by simp
  | x :: qs, s => by
    rw [List.foldl_cons, foldB_met al q qs]
    unfold stepB
    simp only
    rw [gb_put]
    by_cases h : q = x
    · subst h; simp
    · rw [if_neg h]; simp [h]
theorem foldB_turn (q : Nat) : ∀ (qs : List Nat) (s : List (Nat × Bool) × List (Nat × Bool)), gb (qs.foldl (stepB false) s).2 q = true ↔ gb s.2 q = true ∨ q ∈ qs
  | [], s => by simp
  | x :: qs, s => by
    rw [List.foldl_cons, foldB_turn q qs]
    unfold stepB
    simp only
    rw [gb_put]
    by_cases h : q = x
    · subst h; simp
    · rw [if_neg h]; simp [h]
structure BInv (code : List Int) (P : List Nat) (s : List (Nat × Bool) × List (Nat × Bool)) : Prop where
  met : ∀ q, gb s.1 q = true ↔ ∃ p ∈ P, (q : Int) ∈ Gm code false p
  beg : ∀ q, gb s.2 q = true ↔ BegP code P q
theorem BInv.nil (code : List Int) : BInv code [] ([], []) where
  met q := by simp [gb, lookE]
  beg q := by simp [gb, lookE, BegP]
theorem BInv.visit {code : List Int} {P : List Nat} {s : List (Nat × Bool) × List (Nat × Bool)} (h : BInv code P s) {p : Nat} (hn : p ∉ P) (hp : (readP code p).isSome = true) (hnn : ∀ q ∈ Gm code false p, 0 ≤ q) : BInv code (P ++ [p]) (visitB code s p) := by
  obtain ⟨i, hi⟩ := Option.isSome_iff_exists.1 hp
  have hmem : ∀ q : Nat, q ∈ toL (Gm code false) p ↔ (q : Int) ∈ Gm code false p := fun q => by
    constructor
    · intro hq
      obtain ⟨x, hx, rfl⟩ := List.mem_map.1 hq
      have := hnn x hx
      rwa [show ((x.toNat : Nat) : Int) = x by omega]
    · exact fun hq => List.mem_map.2 ⟨_, hq, by simp⟩
  unfold visitB
  rw [hi]
  simp only
  refine ⟨fun q => ?_, fun q => ?_⟩
  · rw [foldB_met, h.met, hmem]
    constructor
    · rintro (⟨x, hx, hq⟩ | hq)
      · exact ⟨x, by simp [hx], hq⟩
      · exact ⟨p, by simp, hq⟩
    · rintro ⟨x, hx, hq⟩
      rcases List.mem_append.1 hx with h1 | h1
      · exact .inl ⟨x, h1, hq⟩
      · obtain rfl : x = p := by simpa using h1
        exact .inr hq
  · rw [begP_snoc hn hi, ← h.beg q]
    cases ha : aloneI i with
    | false =>
      rw [foldB_turn, hmem]
      cases ht : turnI i with
      | false => rw [gm_stop hi ha ht]; simp
      | true => simp
    | true =>
      have hg := gm_alone hi ha
      have hl : toL (Gm code false) p = [((p : Int) + slong i).toNat] := by unfold toL; rw [hg]; rfl
      have hx : 0 ≤ (p : Int) + slong i := hnn _ (by rw [hg]; simp)
      rw [hl, hg]
      simp only [List.foldl_cons, List.foldl_nil, stepB]
      rw [gb_put]
      by_cases e : q = ((p : Int) + slong i).toNat
      · rw [if_pos e]
        have e2 : (q : Int) = (p : Int) + slong i := by omega
        have h3 : (∃ p' ∈ P, (q : Int) ∈ Gm code false p') ↔ gb s.1 q = true := (h.met q).symm
        rw [h3, turn_alone ha, ← e]
        simp [e2]
      · rw [if_neg e]
        have e2 : ¬ (q : Int) = (p : Int) + slong i := by omega
        simp [e2]
theorem foldB_inv {code : List Int} : ∀ (R P : List Nat) (s : List (Nat × Bool) × List (Nat × Bool)), BInv code P s → (P ++ R).Nodup → (∀ p ∈ R, (readP code p).isSome = true ∧ ∀ q ∈ Gm code false p, 0 ≤ q) → BInv code (P ++ R) (R.foldl (visitB code) s)
  | [], P, s, h, _, _ => by simpa using h
  | p :: R, P, s, h, hn, hr => by
    rw [show P ++ p :: R = (P ++ [p]) ++ R by simp] at hn ⊢
    rw [List.foldl_cons]
    refine foldB_inv R (P ++ [p]) _ (h.visit ?_ (hr p (by simp)).1 (hr p (by simp)).2) hn (fun x hx => hr x (by simp [hx]))
    have := (List.nodup_append.1 hn).1
    rw [List.nodup_append] at this
    exact fun hp => this.2.2 p hp p (by simp) rfl
/-- The places of a function, and where its blocks begin, its own place first. -/
noncomputable def placesN (code : List Int) (a : Nat) : List Nat := (reachL code [(a : Int)] false).map Int.toNat
noncomputable def begB (code : List Int) (a : Nat) (x : Int) : Bool := pdec (BegP code (placesN code a) x.toNat) && !decide (x = (a : Int))
noncomputable def leadL (code : List Int) (a : Nat) : List Int := (a : Int) :: (reachL code [(a : Int)] false).filter (begB code a)
section
variable {code : List Int} {a : Nat}
/-- Where one goes on alone behind an instruction. -/
def nextN (code : List Int) (p : Nat) : Option Nat := match readP code p with | none => none | some i => if aloneI i = true then some ((p : Int) + slong i).toNat else none
def chainAt (code : List Int) (isB : Nat → Bool) (f : Nat) : Nat → Option Nat
  | 0 => some f
  | k + 1 => match chainAt code isB f k with
    | none => none
    | some p => match nextN code p with
      | none => none
      | some q => if isB q = true then none else some q
def lastF (code : List Int) (isB : Nat → Bool) : Nat → Nat → Nat
  | 0, p => p
  | n + 1, p => match nextN code p with
    | none => p
    | some q => if isB q = true then p else lastF code isB n q
theorem chain_succ {isB : Nat → Bool} {f k q : Nat} (h : chainAt code isB f (k + 1) = some q) : ∃ p, chainAt code isB f k = some p ∧ nextN code p = some q ∧ isB q = false := by
  unfold chainAt at h
  cases hp : chainAt code isB f k with
  | none => rw [hp] at h; cases h
  | some p =>
    rw [hp] at h
    simp only at h
    cases hq : nextN code p with
    | none => rw [hq] at h; cases h
    | some r =>
      rw [hq] at h
      simp only at h
      cases hb : isB r with
      | true => rw [hb, if_pos rfl] at h; cases h
      | false =>
        rw [hb, if_neg (by decide)] at h
        cases h
        exact ⟨p, rfl, hq, hb⟩
theorem chain_last {isB : Nat → Bool} {f : Nat} : ∀ (k n p : Nat), chainAt code isB f k = some p → lastF code isB (k + n) f = lastF code isB n p
  | 0, n, p, h => by cases h; rw [Nat.zero_add]
  | k + 1, n, q, h => by
    obtain ⟨p, hp, hq, hb⟩ := chain_succ h
    rw [show k + 1 + n = k + (n + 1) by omega, chain_last k (n + 1) p hp, lastF, hq]
    simp only
    rw [hb, if_neg (by decide)]
theorem chain_end {isB : Nat → Bool} {f k p : Nat} (h : chainAt code isB f k = some p) (he : chainAt code isB f (k + 1) = none) : ∀ n, lastF code isB n p = p
  | 0 => rfl
  | n + 1 => by
    unfold chainAt at he
    rw [h] at he
    simp only at he
    rw [lastF]
    cases hq : nextN code p with
    | none => rfl
    | some q =>
      rw [hq] at he
      simp only at he ⊢
      cases hb : isB q with
      | true => rw [if_pos rfl]
      | false => rw [hb, if_neg (by decide)] at he; cases he
noncomputable def isLead (code : List Int) (a q : Nat) : Bool := @decide ((q : Int) ∈ leadL code a) (Classical.propDecidable _)
theorem isLead_iff {q : Nat} : isLead code a q = true ↔ (q : Int) ∈ leadL code a := by
  unfold isLead
  exact @decide_eq_true_iff _ (Classical.propDecidable _)
/-- What is asked of a function: that the image is sound where it leads. -/
structure Snd (code : List Int) (a : Nat) : Prop where
  rd : ∀ p, Rc (Gm code false) [(a : Int)] p → (readP code p).isSome = true
  nn : ∀ p, ∀ q ∈ Gm code false p, 0 ≤ q
theorem mem_rl {x : Int} : x ∈ reachL code [(a : Int)] false ↔ ∃ p : Nat, x = (p : Int) ∧ Rc (Gm code false) [(a : Int)] p ∧ (readP code p).isSome = true := by
  unfold reachL truesL
  rw [List.mem_map]
  constructor
  · rintro ⟨p, hp, rfl⟩
    have := (List.mem_filter.1 hp).2
    unfold pdec at this
    exact ⟨p, rfl, @of_decide_eq_true _ (Classical.propDecidable _) this⟩
  · rintro ⟨p, rfl, h⟩
    refine ⟨p, List.mem_filter.2 ⟨?_, pdec_yes h⟩, rfl⟩
    obtain ⟨i, hi⟩ := Option.isSome_iff_exists.1 h.2
    exact List.mem_range.2 (readP_facts hi).1
theorem mem_places (hS : Snd code a) {p : Nat} : p ∈ placesN code a ↔ Rc (Gm code false) [(a : Int)] p := by
  unfold placesN
  rw [List.mem_map]
  constructor
  · rintro ⟨x, hx, rfl⟩
    obtain ⟨q, rfl, h, _⟩ := mem_rl.1 hx
    simpa using h
  · exact fun h => ⟨(p : Int), mem_rl.2 ⟨p, rfl, h, hS.rd p h⟩, by simp⟩
theorem lead_of (hS : Snd code a) {q : Nat} (hq : Rc (Gm code false) [(a : Int)] q) (hb : BegP code (placesN code a) q) : (q : Int) ∈ leadL code a := by
  unfold leadL
  by_cases e : q = a
  · subst e; simp
  · refine List.mem_cons_of_mem _ (List.mem_filter.2 ⟨mem_rl.2 ⟨q, rfl, hq, hS.rd q hq⟩, ?_⟩)
    unfold begB
    rw [Int.toNat_natCast, pdec_yes hb]
    simp
    omega
theorem lead_mem {x : Int} (hx : x ∈ leadL code a) : x = (a : Int) ∨ (x ∈ reachL code [(a : Int)] false ∧ BegP code (placesN code a) x.toNat) := by
  unfold leadL at hx
  rcases List.mem_cons.1 hx with h | h
  · exact .inl h
  · obtain ⟨h1, h2⟩ := List.mem_filter.1 h
    unfold begB at h2
    refine .inr ⟨h1, ?_⟩
    have := (Bool.and_eq_true_iff.1 h2).1
    unfold pdec at this
    exact @of_decide_eq_true _ (Classical.propDecidable _) this
theorem lead_rc (hS : Snd code a) {x : Int} (hx : x ∈ leadL code a) : ∃ p : Nat, x = (p : Int) ∧ Rc (Gm code false) [(a : Int)] p := by
  rcases lead_mem hx with rfl | ⟨h, _⟩
  · exact ⟨a, rfl, .start _ (by simp)⟩
  · obtain ⟨p, rfl, h, _⟩ := mem_rl.1 h
    exact ⟨p, rfl, h⟩
theorem next_gm (hS : Snd code a) {p q : Nat} (h : nextN code p = some q) : (q : Int) ∈ Gm code false p ∧ ∃ i, readP code p = some i ∧ aloneI i = true := by
  unfold nextN at h
  cases hi : readP code p with
  | none => rw [hi] at h; cases h
  | some i =>
    rw [hi] at h
    simp only at h
    cases ha : aloneI i with
    | false => rw [ha, if_neg (by decide)] at h; cases h
    | true =>
      rw [ha, if_pos rfl] at h
      cases h
      have hg := gm_alone hi ha
      have := hS.nn p ((p : Int) + slong i) (by rw [hg]; simp)
      refine ⟨?_, i, rfl, ha⟩
      rw [hg]
      simp
      omega
theorem chain_rc (hS : Snd code a) {f : Nat} (hf : Rc (Gm code false) [(a : Int)] f) : ∀ (k p : Nat), chainAt code (isLead code a) f k = some p → Rc (Gm code false) [(a : Int)] p
  | 0, p, h => by cases h; exact hf
  | k + 1, q, h => by
    obtain ⟨p, hp, hq, _⟩ := chain_succ h
    exact .step p q (chain_rc hS hf k p hp) (next_gm hS hq).1
theorem chain_inj (hS : Snd code a) {f : Nat} (hf : (f : Int) ∈ leadL code a) : ∀ (i j q : Nat), i < j → chainAt code (isLead code a) f i = some q → chainAt code (isLead code a) f j = some q → False
  | 0, j + 1, q, _, hi, hj => by
    cases hi
    obtain ⟨p, _, _, hb⟩ := chain_succ hj
    rw [isLead_iff.2 hf] at hb
    cases hb
  | i + 1, j + 1, q, hij, hi, hj => by
    have hfr : Rc (Gm code false) [(a : Int)] f := by
      obtain ⟨p, e, h⟩ := lead_rc hS hf
      obtain rfl : f = p := by omega
      exact h
    obtain ⟨p, hp, hpq, hb⟩ := chain_succ hi
    obtain ⟨r, hr, hrq, _⟩ := chain_succ hj
    by_cases e : p = r
    · subst e
      exact chain_inj hS hf i j p (by omega) hp hr
    · have hpr := chain_rc hS hfr i p hp
      have hrr := chain_rc hS hfr j r hr
      have h1 : BegP code (placesN code a) q := .inr ⟨p, (mem_places hS).2 hpr, r, (mem_places hS).2 hrr, e, (next_gm hS hpq).1, (next_gm hS hrq).1⟩
      have h2 := lead_of hS (.step p q hpr (next_gm hS hpq).1) h1
      rw [isLead_iff.2 h2] at hb
      cases hb
theorem chain_bd (hS : Snd code a) {f k p : Nat} (hf : (f : Int) ∈ leadL code a) (h : chainAt code (isLead code a) f k = some p) : k < code.length := by
  have hfr : Rc (Gm code false) [(a : Int)] f := by
    obtain ⟨p, e, h⟩ := lead_rc hS hf
    obtain rfl : f = p := by omega
    exact h
  have hall : ∀ j, j ≤ k → ∃ q, chainAt code (isLead code a) f j = some q := by
    intro j
    induction k generalizing p with
    | zero =>
      intro hj
      obtain rfl : j = 0 := by omega
      exact ⟨p, h⟩
    | succ k ih =>
      intro hj
      by_cases e : j = k + 1
      · subst e; exact ⟨p, h⟩
      · obtain ⟨r, hr, _⟩ := chain_succ h
        exact ih hr (by omega)
  let l := (List.range (k + 1)).map fun j => (chainAt code (isLead code a) f j).getD 0
  have hl : l.length = k + 1 := by simp [l]
  have hnd : l.Nodup := by
    rw [List.nodup_iff_pairwise_ne]
    refine List.pairwise_map.2 ?_
    refine List.Pairwise.imp_of_mem ?_ (List.pairwise_lt_range (n := k + 1))
    intro i j hi hj hij e
    obtain ⟨q, hq⟩ := hall i (by have := List.mem_range.1 hi; omega)
    obtain ⟨r, hr⟩ := hall j (by have := List.mem_range.1 hj; omega)
    rw [hq, hr] at e
    simp only [Option.getD_some] at e
    subst e
    exact chain_inj hS hf i j q hij hq hr
  have hlt : ∀ x ∈ l, x < code.length := fun x hx => by
    obtain ⟨j, hj, rfl⟩ := List.mem_map.1 hx
    obtain ⟨q, hq⟩ := hall j (by have := List.mem_range.1 hj; omega)
    rw [hq]
    have := chain_rc hS hfr j q hq
    obtain ⟨i, hi⟩ := Option.isSome_iff_exists.1 (hS.rd q this)
    exact (readP_facts hi).1
  have := nodup_le code.length l hnd hlt
  omega
noncomputable def posC (code : List Int) (a f p : Nat) : Nat := @dite _ (∃ k, chainAt code (isLead code a) f k = some p) (Classical.propDecidable _) (fun h => Classical.choose h) (fun _ => 0)
theorem posC_eq (hS : Snd code a) {f k p : Nat} (hf : (f : Int) ∈ leadL code a) (h : chainAt code (isLead code a) f k = some p) : posC code a f p = k := by
  have he : ∃ k, chainAt code (isLead code a) f k = some p := ⟨k, h⟩
  unfold posC
  rw [dif_pos he]
  have h2 := Classical.choose_spec he
  rcases Nat.lt_trichotomy (Classical.choose he) k with h3 | h3 | h3
  · exact (chain_inj hS hf _ _ p h3 h2 h).elim
  · exact h3
  · exact (chain_inj hS hf _ _ p h3 h h2).elim
/-- The place of the last instruction of a block. -/
noncomputable def lastP (code : List Int) (a f : Nat) : Nat := lastF code (isLead code a) code.length f
theorem last_eq (hS : Snd code a) {f k p : Nat} (hf : (f : Int) ∈ leadL code a) (h : chainAt code (isLead code a) f k = some p) (he : chainAt code (isLead code a) f (k + 1) = none) : lastP code a f = p := by
  have hk := chain_bd hS hf h
  unfold lastP
  rw [show code.length = k + (code.length - k) by omega, chain_last k _ p h]
  exact chain_end h he _
end
end Go.Proofs.YtihhpgklpichgaaGreat.Wk
/- body, funsWith of the program, isFun of the model; BodyOf and CalledIn of both. -/
namespace Go.Proofs.YtihhpgklpichgaaGreat.Wk
open Go.RowKit Pl Ft Mm In C2 Im Sw

theorem bodyL_len {code : List Int} {ms : List Nat} (hnd : ms.Nodup) (hb : ∀ q ∈ ms, q ≤ 100000) : (bodyL code ms).length ≤ 100001 := by
  unfold bodyL
  rw [List.length_map]
  exact rc_nodup_le 100001 _ (hnd.filter _) (fun q hq => by have := hb q (mem_insOf.1 hq).1; omega)
theorem body_leads (code : List Int) (ac : Option Addr) (cc : Nat) (lb : Value) (gw gm gp gl : Nat) (ms0 : List Nat) (S : List Int) (w00 wS : World)
    (hr : Rd w00 (.slice ac code.length cc) code) (hcap : code.length ≤ cc) (hb00 : Below w00.heap.size w00 wS) (hgl0 : w00.heap.size ≤ gl) (hgl : gl < wS.heap.size) (hby : code.all isByte = true) (hlen : code.length ≤ 2000)
    (hw : Row wS gw 88 #[.slice ac code.length cc, .map (some gm), lb]) (hm : MapAt wS gm code ms0) (hp : Row wS gp 52 #[.pointer (some ⟨gw, 0, none⟩)]) (h1 : gw ≠ gl) (h2 : gm ≠ gl) (h3 : gp ≠ gl)
    (hms0 : ∀ p, Rc (Gm code false) S p → (p ∈ ms0 ↔ (readP code p).isSome = true)) (hGB : GBd (Gm code false) S 100000 10) :
    LeadsF (toL (Gm code false)) (S.map Int.toNat) 100001 99 #[] #[.pointer (some ⟨gp, 0, none⟩), .pointer (some ⟨gl, 0, none⟩)] (fun ms T w => BdSt code gl wS ms T w ∧ ms.Nodup ∧ ∀ q ∈ ms, q ≤ 100000) where
  call ms T p w hI hpN1 hn hrc1 _ := by
    have hpN : p ≤ 100000 := by omega
    have hrc := (rc_av hGB p).2 hrc1
    have hnd : (ms ++ [p]).Nodup := by
      rw [List.nodup_append]
      exact ⟨hI.2.1, by simp, fun a ha b hb => by
        obtain rfl : b = p := by simpa using hb
        exact fun e => hn (e ▸ ha)⟩
    have hbd : ∀ q ∈ ms ++ [p], q ≤ 100000 := fun q hq => by
      rcases List.mem_append.1 hq with h | h
      · exact hI.2.2 q h
      · obtain rfl : q = p := by simpa using h
        exact hpN
    refine (bodyFn_c code ac cc lb gw gm gp gl ms0 w00 wS ms T p w hr hcap hb00 hgl0 hgl hby hlen hw hm hp h1 h2 h3 (hms0 p hrc) hpN hI.1 (bodyL_len hnd hbd)).mono ?_
    rintro e w' ⟨v, T', B', rfl, hB, hTB, ho, hs, hT, hon⟩
    exact ⟨v, T', rfl, by rw [show natI (toL (Gm code false) p) = Gm code false p from natI_toN (fun q hq => (hGB.bd p hpN q hq).1)]; exact Rd.of_own ho, fun k hk => ⟨by have := (ho.lt k hk).1; omega, fun h => by have := (ho.lt k hk).1; have := hTB k h; omega⟩, ⟨hs, hnd, hbd⟩, hT, hon⟩
  enter xs w := by kernel_rfl
  on ms T w w' z hI hz ho := ⟨hI.1.on hgl hz ho, hI.2⟩
  lt ms T w hI k hk := hI.1.lt k hk
  len p hp := by
    unfold toL
    rw [List.length_map]
    have := hGB.len p (by omega)
    omega
set_option maxRecDepth 100000 in
set_option maxHeartbeats 4000000 in
theorem body_c (code : List Int) (ac : Option Addr) (cc : Nat) (lb : Value) (gw gm at_ : Nat) (ms0 : List Nat) (w : World) (hr : Rd w (.slice ac code.length cc) code) (hcap : code.length ≤ cc) (hby : code.all isByte = true) (hlen : code.length ≤ 2000) (hat : at_ ≤ 2000)
    (hw : Row w gw 88 #[.slice ac code.length cc, .map (some gm), lb]) (hm : MapAt w gm code ms0) (hms0 : ∀ p, Rc (Gm code false) [(at_ : Int)] p → (p ∈ ms0 ↔ (readP code p).isSome = true)) :
    Calls Tryz.prog 57 #[.pointer (some ⟨gw, 0, none⟩), .int .i64 at_] w (WaysPost2 (reachL code [(at_ : Int)] false) w) := by
  have HRd := hid hr
  have HBy := hid hby
  have HW := hid hw
  have HM := hid hm
  have HMs := hid hms0
  have hgw := hw.lt
  have hgm := hm.lt
  obtain ⟨w1, hw1, hr1, hb1, hz1⟩ := new_ex w 52 #[.pointer (some ⟨gw, 0, none⟩)]
  obtain ⟨w2, hw2, hr2, hb2, hz2⟩ := new_ex w1 22 #[.slice none 0 0]
  obtain ⟨w3, hw3, _, hb3, hz3⟩ := new_ex w2 3 #[.int .i64 at_]
  have HL3 := hid (show w3.ownsRow w2.heap.size 3 1 (.slice (some ⟨w2.heap.size, 0, none⟩) 1 1) 1 (ints [(at_ : Int)]) by rw [← hw3]; exact own_lit w2 [(at_ : Int)] #[.int .i64 at_] rfl (by simp) 1 rfl)
  have hb02 := hb1.trans (hb2.mono (Nat.le_of_lt hz1))
  have HB2 := hid hb02
  have HB23 := hid hb3
  have HP2 := hid (hr1.on hb2)
  have HR2 := hid hr2
  have HR3 := hid (hr2.on hb3)
  have HW2 := hid (hw.on hb02)
  have HM2 := hid (hm.on hb02)
  clear hr hby hw hm hms0 hr1 hr2 hb1 hb2 hb3 hb02
  go_enter Tryz.func57, Tryz.ntmps57
  go_wp2_with fail
  clear hw1 hw2 hw3
  have HG := hid (show w.heap.size < w2.heap.size ∧ w1.heap.size < w2.heap.size ∧ w.heap.size < w1.heap.size by omega)
  have hGB := gm_bd HBy.out hlen false (S := [(at_ : Int)]) (fun q hq => by obtain rfl : q = (at_ : Int) := (by simpa using hq); omega)
  have HGB := hid hGB
  have hgb := gbd_lt hGB
  refine (reached_f [at_] _ _ (body_leads code ac cc lb gw gm w.heap.size w1.heap.size ms0 [(at_ : Int)] w w2 HRd.out hcap HB2.out (by omega) (by omega) HBy.out hlen HW2.out HM2.out HP2.out (by omega) (by omega) (by omega) HMs.out hGB) hgb.1 (by omega) (by simp; omega) (by simp) (Rd.of_own HL3.out) (fun k hk => ?_) ⟨⟨⟨_, rfl, HR3.out, World.ownsRow_nil _ _ _ _⟩, .of_below HB23.out, by simp [bodyL, insOf]⟩, List.nodup_nil, fun q hq => by cases hq⟩).mono ?_
  · have h1 := HL3.out.lt k hk
    exact ⟨h1.2, fun h => by
      rcases h with h | h
      · have := h1.1; omega
      · cases h⟩
  rintro e w4 ⟨ms, lf, v4, T, rfl, hd, hown4, ⟨hst, _, _⟩, _⟩
  have hmem := dfs_rc HGB.out hd
  have hnd := hd.nodup List.nodup_nil
  obtain ⟨s4, c4, rfl⟩ := own_slice hown4
  clear hd hown4 hGB hgb
  obtain ⟨lv, rfl, hrow, hown⟩ := hst.ex
  have HOn := hid hst.only
  have hsl := hst.len
  have hso : sortI (bodyL code ms) = reachL code [(at_ : Int)] false := by
    rw [← trues_reach hmem]
    exact sorted_trues (.refl _) (hnd.filter _) insOf_lt
  obtain ⟨bl, hbl⟩ : ∃ l, bodyL code ms = l := ⟨_, rfl⟩
  rw [hbl] at hown hsl hso
  have HSo := hid hso
  have HO4 := hid hown
  have HR4 := hid hrow
  have l0 := hrow.cell 0
  obtain ⟨ls, lc, rfl⟩ := own_slice hown
  simp at l0
  clear hst hmem hnd hrow hown hso hbl
  go_wp2_with fail
  refine (sort_c w2.heap.size bl _ w4 HO4.out (by omega)).mono ?_
  rintro e w5 ⟨rfl, hown5, ho5⟩
  have hfar := fun k (hk : (Value.slice ls bl.length lc).ownBlock = some k) => (HO4.out.lt k hk).1
  have HR5 := hid (row_only HR4.out (fun h => by have := hfar _ h; omega) ho5)
  have HOn5 := hid (only_mix HOn.out ho5 (fun k hk => .inr (hfar k hk)))
  have l1 := HR5.out.cell 0
  simp at l1
  rw [HSo.out] at hown5
  obtain ⟨rl, hrl⟩ : ∃ l, reachL code [(at_ : Int)] false = l := ⟨_, rfl⟩
  rw [hrl] at hown5
  have hll : rl.length = bl.length := by rw [← hrl, ← HSo.out]; exact sortI_len bl
  have HRl := hid hrl
  have HLl := hid hll
  have HO5 := hid hown5
  clear l0 ho5 hown5 hrl hll hfar
  go_wp2_with fail
  go_ret
  rw [HRl.out]
  exact ⟨_, rfl, own_mono HO5.out (by omega), HB2.out.trans (HOn5.out.below HB2.out.size (fun k hk => by rw [hk]; omega))⟩
end Go.Proofs.YtihhpgklpichgaaGreat.Wk
namespace Go.Proofs.YtihhpgklpichgaaGreat.Wk
open Go.RowKit Pl Ft Mm In C2 Im Sw

def IdxPost2 (l : List Int) (x : Int) (w : World) (e : Ending) (w' : World) : Prop := ∃ r : Int, e = .returned (.int .i64 r) ∧ ((x ∈ l ∧ 0 ≤ r ∧ r ≤ 1000000) ∨ (x ∉ l ∧ r = -1)) ∧ w' = w
set_option maxHeartbeats 1000000 in
theorem idx_c (l : List Int) (v : Value) (x : Int) (w : World) (hr : Rd w v l) (hl : l.length ≤ 1000000) : Calls Tryz.prog 103 #[v, .int .i64 x] w (IdxPost2 l x w) := by
  obtain ⟨a, cap, rfl, ha⟩ := hr
  have HA := hid ha
  clear ha
  go_enter Tryz.func103, Tryz.ntmps103
  go_wp2_with fail
  go_loopw [8] (fun c wr => ∃ k : Nat, c = .int .i64 k ∧ k ≤ l.length ∧ (∀ y ∈ l.take k, y ≠ x) ∧ wr = w) (fun c _ => l.length - (intOf c).toNat)
  case atStart => exact ⟨0, rfl, by omega, by simp, rfl⟩
  case round =>
    obtain ⟨k, rfl, hk, hno, rfl⟩ := hrel
    have HNo := hid hno
    clear hno
    by_cases hlt : k < l.length
    · rcases HA.out with h | ⟨g, o, rfl, hg, hcs⟩
      · subst h; simp at hlt
      have q0 := hcs k hlt
      have hgd : l.getD k 0 = l[k] := by simp [hlt]
      rw [hgd] at q0
      have HMem := hid (List.getElem_mem hlt)
      have HTk := hid (List.take_succ_eq_append_getElem hlt)
      obtain ⟨y, hy⟩ : ∃ y, l[k] = y := ⟨_, rfl⟩
      rw [hy] at q0 HMem HTk
      clear hcs hgd hy
      by_cases he : x = y
      · subst he
        go_wp2_with fail
        go_ret
        exact ⟨_, rfl, .inl ⟨HMem.out, by omega, by omega⟩, rfl⟩
      · have hne : (x == y) = false := by rw [beq_eq_false_iff_ne]; exact he
        have HE := hid he
        clear he
        go_wp2_with fail
        go_roundw
        case rel => exact ⟨k + 1, by go_num, by omega, fun z hz => by
          rw [HTk.out] at hz
          rcases List.mem_append.1 hz with h | h
          · exact HNo.out z h
          · obtain rfl : z = y := by simpa using h
            exact fun h => HE.out h.symm, by first | rfl | trivial⟩
        case measure => simp [intOf]; omega
    · obtain rfl : k = l.length := by omega
      go_wp2_with fail
      go_ret
      refine ⟨_, rfl, .inr ⟨fun h => ?_, rfl⟩, rfl⟩
      have h2 := HNo.out
      rw [List.take_length] at h2
      exact h2 x h rfl
theorem contains_c (l : List Int) (v : Value) (x : Int) (w : World) (hr : Rd w v l) (hl : l.length ≤ 1000000) : Calls Tryz.prog 62 #[v, .int .i64 x] w fun e w' => e = .returned (.bool (decide (x ∈ l))) ∧ w' = w := by
  have HR := hid hr
  obtain ⟨a, cap, rfl, _⟩ := hr
  go_enter Tryz.func62, Tryz.ntmps62
  go_wp2_with fail
  refine (idx_c l _ x w HR.out hl).mono ?_
  rintro e w1 ⟨r, rfl, h, rfl⟩
  rcases h with ⟨h1, h2, h3⟩ | ⟨h1, rfl⟩
  · have HD := hid (decide_eq_true h1)
    clear h1
    go_wp2_with fail
    go_ret
    rw [HD.out]
    exact ⟨rfl, rfl⟩
  · have HD := hid (decide_eq_false h1)
    clear h1
    go_wp2_with fail
    go_ret
    rw [HD.out]
    exact ⟨rfl, rfl⟩
set_option maxHeartbeats 1000000 in
theorem placeOf_c (l : List Int) (v : Value) (x : Int) (w : World) (hr : Rd w v l) (hl : l.length ≤ 1000000) : Calls Tryz.prog 102 #[v, .int .i64 x] w (IdxPost2 l x w) := by
  obtain ⟨a, cap, rfl, ha⟩ := hr
  have HA := hid ha
  clear ha
  go_enter Tryz.func102, Tryz.ntmps102
  go_wp2_with fail
  go_loopw [5] (fun c wr => ∃ k : Nat, c = .int .i64 k ∧ k ≤ l.length ∧ (∀ y ∈ l.take k, y ≠ x) ∧ wr = w) (fun c _ => l.length - (intOf c).toNat)
  case atStart => exact ⟨0, rfl, by omega, by simp, rfl⟩
  case round =>
    obtain ⟨k, rfl, hk, hno, rfl⟩ := hrel
    have HNo := hid hno
    clear hno
    by_cases hlt : k < l.length
    · rcases HA.out with h | ⟨g, o, rfl, hg, hcs⟩
      · subst h; simp at hlt
      have q0 := hcs k hlt
      have hgd : l.getD k 0 = l[k] := by simp [hlt]
      rw [hgd] at q0
      have HMem := hid (List.getElem_mem hlt)
      have HTk := hid (List.take_succ_eq_append_getElem hlt)
      obtain ⟨y, hy⟩ : ∃ y, l[k] = y := ⟨_, rfl⟩
      rw [hy] at q0 HMem HTk
      clear hcs hgd hy
      by_cases he : y = x
      · subst he
        go_wp2_with fail
        go_ret
        exact ⟨_, rfl, .inl ⟨HMem.out, by omega, by omega⟩, rfl⟩
      · have hne : (y == x) = false := by rw [beq_eq_false_iff_ne]; exact he
        have HE := hid he
        clear he
        go_wp2_with fail
        go_roundw
        case rel => exact ⟨k + 1, by go_num, by omega, fun z hz => by
          rw [HTk.out] at hz
          rcases List.mem_append.1 hz with h | h
          · exact HNo.out z h
          · obtain rfl : z = y := by simpa using h
            exact HE.out, by first | rfl | trivial⟩
        case measure => simp [intOf]; omega
    · obtain rfl : k = l.length := by omega
      go_wp2_with fail
      go_ret
      refine ⟨_, rfl, .inr ⟨fun h => ?_, rfl⟩, rfl⟩
      have h2 := HNo.out
      rw [List.take_length] at h2
      exact h2 x h rfl
theorem inList_c (l : List Int) (v : Value) (x : Int) (w : World) (hr : Rd w v l) (hl : l.length ≤ 1000000) : Calls Tryz.prog 60 #[v, .int .i64 x] w fun e w' => e = .returned (.bool (decide (x ∈ l))) ∧ w' = w := by
  have HR := hid hr
  obtain ⟨a, cap, rfl, _⟩ := hr
  go_enter Tryz.func60, Tryz.ntmps60
  go_wp2_with fail
  refine (placeOf_c l _ x w HR.out hl).mono ?_
  rintro e w1 ⟨r, rfl, h, rfl⟩
  rcases h with ⟨h1, h2, h3⟩ | ⟨h1, rfl⟩
  · have HD := hid (decide_eq_true h1)
    clear h1
    go_wp2_with fail
    go_ret
    rw [HD.out]
    exact ⟨rfl, rfl⟩
  · have HD := hid (decide_eq_false h1)
    clear h1
    go_wp2_with fail
    go_ret
    rw [HD.out]
    exact ⟨rfl, rfl⟩
/-- A function is reached. -/
theorem funs_rc {m : Img} {x : Int} (hok : imageOk m = true) (h : x ∈ funsL m) : ∃ p : Nat, x = p ∧ p < m.code.length ∧ Rc (Gm m.code true) [m.entry] p := by
  have hb := imageOk_bd hok
  have he0 := hb.e0
  have he1 := hb.e1
  unfold funsL at h
  rcases List.mem_cons.1 h with rfl | h
  · exact ⟨m.entry.toNat, by omega, by omega, .start _ (by rw [show ((m.entry.toNat : Nat) : Int) = m.entry by omega]; simp)⟩
  · unfold othersL at h
    have h1 := (List.mem_filter.1 h).1
    unfold calledL at h1
    obtain ⟨q, hq, rfl⟩ := List.mem_map.1 h1
    have h2 := of_decide_eq_true (List.mem_filter.1 hq).2
    obtain ⟨y, hy, hc⟩ := List.mem_filterMap.1 h2
    obtain ⟨p, rfl, _, hrc, _⟩ := reachL_mem hy
    unfold callAt at hc
    rw [Int.toNat_natCast] at hc
    refine ⟨q, rfl, List.mem_range.1 (List.mem_filter.1 hq).1, .step p q hrc ?_⟩
    unfold Gm
    cases hr : readP m.code p with
    | none => rw [hr] at hc; cases hc
    | some i =>
      rw [hr] at hc
      simp only at hc ⊢
      split at hc
      · rename_i hcc
        have := Option.some.inj hc
        rw [if_pos (by first | exact ⟨rfl, hcc.1⟩ | exact ⟨trivial, hcc.1⟩ | exact hcc.1), List.mem_append]
        exact .inr (by simp [this])
      · cases hc
theorem rc_sub {code : List Int} {S : List Int} {p q : Nat} (hp : Rc (Gm code true) S p) (h : Rc (Gm code false) [(p : Int)] q) : Rc (Gm code true) S q := by
  induction h with
  | start r hr =>
    obtain rfl : r = p := by have := List.mem_singleton.1 hr; omega
    exact hp
  | step a b _ hb ih =>
    refine .step a b ih ?_
    unfold Gm at hb ⊢
    cases hr : readP code a with
    | none => rw [hr] at hb; cases hb
    | some i =>
      rw [hr] at hb
      simp only at hb ⊢
      rw [List.mem_append] at hb ⊢
      rcases hb with h | h
      · exact .inl h
      · simp at h
end Go.Proofs.YtihhpgklpichgaaGreat.Wk
namespace Go.Proofs.YtihhpgklpichgaaGreat.Wk
open Go.RowKit Pl Ft Mm In C2 Im Sw

noncomputable def isFunP (m : Img) (x : Int) : Bool := imageOk m && decide (x ∈ funsL m)
def FwNo (w : World) (e : Ending) (w' : World) : Prop := e = .returned (.tuple #[.agg #[.pointer none, .slice none 0 0], .bool false]) ∧ Below w.heap.size w w'
set_option maxRecDepth 100000 in
set_option maxHeartbeats 4000000 in
theorem funsWith_no (m : Img) (vc vd vn : Value) (x : Int) (w : World) (h : ICells w vc vd vn m) (hs : Sm m) (hcc : ∀ a n c, vc = .slice a n c → n ≤ c) (hf : isFunP m x = false) :
    Calls Tryz.prog 56 #[imgVal vc vd vn m, .int .i64 x] w (FwNo w) := by
  obtain ⟨ac, cc, rfl⟩ := rd_slice h.c
  obtain ⟨ad, cd, rfl⟩ := rd_slice h.d
  obtain ⟨an, cn, rfl⟩ := nrd_slice h.n
  have HI := hid h
  have HS := hid hs
  have HCap := hid hcc
  have HF := hid hf
  clear h hs hcc hf
  have hV : imgVal (.slice ac m.code.length cc) (.slice ad m.data.length cd) (.slice an m.names.length cn) m = .agg #[.slice ac m.code.length cc, .int .i64 m.entry, .int .i64 m.room, .slice ad m.data.length cd, .slice an m.names.length cn] := rfl
  have HV := hid hV
  rw [hV]
  clear hV
  obtain ⟨w0, hw0, hr0, hb0, hz0⟩ := new_ex w 30 #[.slice ac m.code.length cc, .int .i64 m.entry, .int .i64 m.room, .slice ad m.data.length cd, .slice an m.names.length cn]
  obtain ⟨w1, hw1, hr1, hb1, hz1⟩ := new_ex w0 59 #[.pointer none, .slice none 0 0]
  have HB1 := hid (hb0.trans (hb1.mono (Nat.le_of_lt hz0)))
  have HX1 := hid (hr0.on hb1)
  have HR1 := hid hr1
  have x0 := HX1.out.cell 0
  have x1 := HX1.out.cell 1
  have x2 := HX1.out.cell 2
  have x3 := HX1.out.cell 3
  have x4 := HX1.out.cell 4
  simp at x0 x1 x2 x3 x4
  clear hr0 hb0 hr1 hb1
  go_enter Tryz.func56, Tryz.ntmps56
  go_wp2_with fail
  clear hw0 hw1 x0 x1 x2 x3 x4
  obtain ⟨g1, hg1⟩ : ∃ g, w0.heap.size = g := ⟨_, rfl⟩
  have HG := hid (show w.heap.size < g1 ∧ g1 < w1.heap.size by omega)
  rw [hg1] at HR1
  try rw [hg1]
  clear hg1 hz0 hz1
  rw [← HV.out]
  cases h1 : imageOk m
  · refine (funsIn_no m _ _ _ w1 (HI.out.on HB1.out) HS.out h1).mono ?_
    rintro e w2 ⟨rfl, hb2⟩
    clear h1
    have HB3 := hid (HB1.out.trans (hb2.mono HB1.out.size))
    have HR3 := hid (HR1.out.on hb2)
    have hlt2 := HR3.out.lt
    have z0 := HR3.out.cell 0
    have z1 := HR3.out.cell 1
    have hf := HR3.out.free
    simp at z0 z1
    clear hb2
    go_wp2_with fail
    clear z0 z1 hf
    refine bodyPost_ret (v := .tuple #[.agg #[.pointer none, .slice none 0 0], .bool false]) ?_ rfl ?_
    · first
        | exact res_cell_tmp Tryz.results56 _ _ g1 #[.pointer none, .slice none 0 0] _ rfl (((HR3.out.set 0 (.pointer none)).set 1 (.slice none 0 0)).alloc (.cells #[.pointer none, .slice none 0 0] 59)) Tryz.underlying59 size_funs
        | exact res_cell_tmp Tryz.results56 _ _ g1 #[.pointer none, .slice none 0 0] _ rfl (((HR3.out.alloc (.cells #[.pointer none, .slice none 0 0] 59)).set 0 (.pointer none)).set 1 (.slice none 0 0)) Tryz.underlying59 size_funs
    have hg := HG.out
    first
      | exact ⟨rfl, ((HB3.out.setCell (p := ⟨g1, 0, none⟩) (by simp only; omega) _).setCell (p := ⟨g1, 1, none⟩) (by simp only; omega) _).alloc (by simp [World.setCell]; exact HB3.out.size) _⟩
      | exact ⟨rfl, ((HB3.out.alloc HB3.out.size _).setCell (p := ⟨g1, 0, none⟩) (by simp only; omega) _).setCell (p := ⟨g1, 1, none⟩) (by simp only; omega) _⟩
  · have hx : x ∉ funsL m := fun hm => by have h := HF.out; unfold isFunP at h; rw [h1, decide_eq_true hm] at h; cases h
    have HX := hid hx
    have hfl := funsL_len m
    have hl2 := (imageOk_bd h1).c1
    refine (funsIn_yes m _ _ _ w1 (HI.out.on HB1.out) HS.out HCap.out h1).mono ?_
    rintro e w2 ⟨gw, gm, ms, vl, rfl, _, _, _, _, hown, hb2, _, _⟩
    obtain ⟨fl, hfs⟩ : ∃ l, funsL m = l := ⟨_, rfl⟩
    rw [hfs] at hown hfl
    have HFl := hid hfs
    obtain ⟨sl, cl, rfl⟩ := own_slice hown
    clear h1 hx hfs
    obtain ⟨w3, hw3, hr3, hb3, _⟩ := new_ex w2 59 #[.pointer (some ⟨gw, 0, none⟩), .slice sl fl.length cl]
    have HO3 := hid (own_on hown hb3)
    have HB3 := hid (HB1.out.trans ((hb2.trans (hb3.mono hb2.size)).mono HB1.out.size))
    have HR3 := hid (HR1.out.on (hb2.trans (hb3.mono hb2.size)))
    have y0 := hr3.cell 0
    have y1 := hr3.cell 1
    simp at y0 y1
    clear hb2 hb3 hown hr3
    go_wp2_with fail
    refine (contains_c fl _ x w3 (.of_own HO3.out) (by omega)).mono ?_
    rintro e w4 ⟨rfl, rfl⟩
    rw [decide_eq_false (by rw [← HFl.out]; exact HX.out)]
    have z0 := HR3.out.cell 0
    have z1 := HR3.out.cell 1
    have hf := HR3.out.free
    simp at z0 z1
    clear hw3
    go_wp2_with fail
    clear z0 z1 hf
    refine bodyPost_ret (v := .tuple #[.agg #[.pointer none, .slice none 0 0], .bool false]) ?_ rfl ?_
    · exact res_cell_tmp Tryz.results56 _ _ g1 #[.pointer none, .slice none 0 0] _ rfl ((HR3.out.set 0 (.pointer none)).set 1 (.slice none 0 0)) Tryz.underlying59 size_funs
    exact ⟨rfl, (HB3.out.setCell (p := ⟨g1, 0, none⟩) (by have := HG.out; simp only; omega) _).setCell (p := ⟨g1, 1, none⟩) (by have := HG.out; simp only; omega) _⟩
def FwYes (m : Img) (vc : Value) (w : World) (e : Ending) (w' : World) : Prop :=
  ∃ (gw gm : Nat) (ms : List Nat) (vl : Value), e = .returned (.tuple #[.agg #[.pointer (some ⟨gw, 0, none⟩), vl], .bool true]) ∧ Row w' gw 88 #[vc, .map (some gm), .bool (lostIn m.code ms)] ∧ MapAt w' gm m.code (insOf m.code ms) ∧ (∀ p, p ∈ ms ↔ Rc (Gw m.code) [m.entry] p) ∧ (∃ s c, vl = .slice s (funsL m).length c) ∧ Below w.heap.size w w'
set_option maxRecDepth 100000 in
set_option maxHeartbeats 4000000 in
theorem funsWith_yes (m : Img) (vc vd vn : Value) (x : Int) (w : World) (h : ICells w vc vd vn m) (hs : Sm m) (hcc : ∀ a n c, vc = .slice a n c → n ≤ c) (h1 : imageOk m = true) (hx : x ∈ funsL m) :
    Calls Tryz.prog 56 #[imgVal vc vd vn m, .int .i64 x] w (FwYes m vc w) := by
  obtain ⟨ac, cc, rfl⟩ := rd_slice h.c
  obtain ⟨ad, cd, rfl⟩ := rd_slice h.d
  obtain ⟨an, cn, rfl⟩ := nrd_slice h.n
  have HI := hid h
  have HS := hid hs
  have HCap := hid hcc
  have H1 := hid h1
  have HX := hid hx
  have hfl := funsL_len m
  have hl2 := (imageOk_bd h1).c1
  clear h hs hcc h1 hx
  have hV : imgVal (.slice ac m.code.length cc) (.slice ad m.data.length cd) (.slice an m.names.length cn) m = .agg #[.slice ac m.code.length cc, .int .i64 m.entry, .int .i64 m.room, .slice ad m.data.length cd, .slice an m.names.length cn] := rfl
  have HV := hid hV
  rw [hV]
  clear hV
  obtain ⟨w0, hw0, hr0, hb0, hz0⟩ := new_ex w 30 #[.slice ac m.code.length cc, .int .i64 m.entry, .int .i64 m.room, .slice ad m.data.length cd, .slice an m.names.length cn]
  obtain ⟨w1, hw1, hr1, hb1, hz1⟩ := new_ex w0 59 #[.pointer none, .slice none 0 0]
  have HB1 := hid (hb0.trans (hb1.mono (Nat.le_of_lt hz0)))
  have HX1 := hid (hr0.on hb1)
  have HR1 := hid hr1
  have x0 := HX1.out.cell 0
  have x1 := HX1.out.cell 1
  have x2 := HX1.out.cell 2
  have x3 := HX1.out.cell 3
  have x4 := HX1.out.cell 4
  simp at x0 x1 x2 x3 x4
  clear hr0 hb0 hr1 hb1
  go_enter Tryz.func56, Tryz.ntmps56
  go_wp2_with fail
  clear hw0 hw1 x0 x1 x2 x3 x4
  obtain ⟨g1, hg1⟩ : ∃ g, w0.heap.size = g := ⟨_, rfl⟩
  have HG := hid (show w.heap.size < g1 ∧ g1 < w1.heap.size by omega)
  rw [hg1] at HR1
  try rw [hg1]
  clear hg1 hz0 hz1
  rw [← HV.out]
  refine (funsIn_yes m _ _ _ w1 (HI.out.on HB1.out) HS.out HCap.out H1.out).mono ?_
  rintro e w2 ⟨gw, gm, ms, vl, rfl, hrow, hmap, hmem, hnd, hown, hb2, _, _⟩
  obtain ⟨fl, hfs⟩ : ∃ l, funsL m = l := ⟨_, rfl⟩
  rw [hfs] at hown hfl
  have HFl := hid hfs
  obtain ⟨sl, cl, rfl⟩ := own_slice hown
  obtain ⟨w3, hw3, hr3, hb3, _⟩ := new_ex w2 59 #[.pointer (some ⟨gw, 0, none⟩), .slice sl fl.length cl]
  have HO3 := hid (own_on hown hb3)
  have HB3 := hid (HB1.out.trans ((hb2.trans (hb3.mono hb2.size)).mono HB1.out.size))
  have HR3 := hid (HR1.out.on (hb2.trans (hb3.mono hb2.size)))
  have HRow := hid (hrow.on hb3)
  have HMap := hid (hmap.on hb3)
  have HMem := hid hmem
  have y0 := hr3.cell 0
  have y1 := hr3.cell 1
  simp at y0 y1
  clear hb2 hb3 hown hr3 hrow hmap hmem hnd hfs
  go_wp2_with fail
  refine (contains_c fl _ x w3 (.of_own HO3.out) (by omega)).mono ?_
  rintro e w4 ⟨rfl, rfl⟩
  rw [decide_eq_true (by rw [← HFl.out]; exact HX.out)]
  have z0 := HR3.out.cell 0
  have z1 := HR3.out.cell 1
  have hf := HR3.out.free
  simp at z0 z1
  clear hw3
  go_wp2_with fail
  clear z0 z1 hf y0 y1
  refine bodyPost_ret (v := .tuple #[.agg #[.pointer (some ⟨gw, 0, none⟩), .slice sl fl.length cl], .bool true]) ?_ rfl ?_
  · exact res_cell_tmp Tryz.results56 _ _ g1 #[.pointer (some ⟨gw, 0, none⟩), .slice sl fl.length cl] _ rfl ((HR3.out.set 0 (.pointer (some ⟨gw, 0, none⟩))).set 1 (.slice sl fl.length cl)) Tryz.underlying59 size_funs
  have hne : gw ≠ g1 := fun h => by
    have h1 := HRow.out
    rw [h] at h1
    have := h1.symm.trans HR3.out
    simp at this
  have hnm : gm ≠ g1 := fun h => by
    have h1 := HMap.out
    unfold MapAt at h1
    rw [h] at h1
    have := h1.symm.trans HR3.out
    simp at this
  exact ⟨gw, gm, ms, _, rfl, (HRow.out.far hne _).far hne _, (HMap.out.set (by simpa using hnm) _).set (by simpa using hnm) _, HMem.out, ⟨sl, cl, by rw [HFl.out]⟩, (HB3.out.setCell (p := ⟨g1, 0, none⟩) (by have := HG.out; simp only; omega) _).setCell (p := ⟨g1, 1, none⟩) (by have := HG.out; simp only; omega) _⟩
set_option maxRecDepth 100000 in
set_option maxHeartbeats 2000000 in
theorem isFun_c (m : Img) (vc vd vn : Value) (x : Int) (w : World) (h : ICells w vc vd vn m) (hs : Sm m) :
    Calls Tryz.prog 55 #[imgVal vc vd vn m, .int .i64 x] w fun e w' => e = .returned (.bool (isFunP m x)) ∧ Below w.heap.size w w' := by
  obtain ⟨ac, cc, rfl⟩ := rd_slice h.c
  obtain ⟨ad, cd, rfl⟩ := rd_slice h.d
  obtain ⟨an, cn, rfl⟩ := nrd_slice h.n
  have HI := hid h
  have HS := hid hs
  clear h hs
  obtain ⟨o, ho⟩ : ∃ o, isFunP m x = o := ⟨_, rfl⟩
  have HQ := hid ho
  rw [ho]
  clear ho
  have hV : imgVal (.slice ac m.code.length cc) (.slice ad m.data.length cd) (.slice an m.names.length cn) m = .agg #[.slice ac m.code.length cc, .int .i64 m.entry, .int .i64 m.room, .slice ad m.data.length cd, .slice an m.names.length cn] := rfl
  have HV := hid hV
  rw [hV]
  clear hV
  have HB1 := hid ((Below.refl w.heap.size w).alloc (Nat.le_refl _) (.cells #[.slice ac m.code.length cc, .int .i64 m.entry, .int .i64 m.room, .slice ad m.data.length cd, .slice an m.names.length cn] 30))
  have HX1 := hid (Row.new w 30 #[.slice ac m.code.length cc, .int .i64 m.entry, .int .i64 m.room, .slice ad m.data.length cd, .slice an m.names.length cn])
  have hw01 : w.heap.size < (w.alloc (.cells #[.slice ac m.code.length cc, .int .i64 m.entry, .int .i64 m.room, .slice ad m.data.length cd, .slice an m.names.length cn] 30)).heap.size := by simp
  go_enter Tryz.func55, Tryz.ntmps55
  go_wp2_with fail
  generalize w.alloc (.cells #[.slice ac m.code.length cc, .int .i64 m.entry, .int .i64 m.room, .slice ad m.data.length cd, .slice an m.names.length cn] 30) = w1 at HB1 HX1 hw01 ⊢
  rw [← HV.out]
  refine (validImage_c m _ _ _ w1 (HI.out.on HB1.out) HS.out).mono ?_
  rintro e w2 ⟨rfl, hb2⟩
  have HB2 := hid (HB1.out.trans (hb2.mono HB1.out.size))
  have HX2 := hid (HX1.out.on hb2)
  have hz2 := hb2.size
  clear hb2
  cases h1 : imageOk m
  · obtain rfl : o = false := by rw [← HQ.out, isFunP, h1]; rfl
    clear h1
    go_wp2_with fail
    go_ret
    exact ⟨rfl, HB2.out⟩
  · have HO := hid (show o = decide (x ∈ funsL m) by rw [← HQ.out, isFunP, h1]; rfl)
    have H1 := hid h1
    have hfl := funsL_len m
    have hl2 := (imageOk_bd h1).c1
    have x0 := HX2.out.cell 0
    have x1 := HX2.out.cell 1
    have x2 := HX2.out.cell 2
    have x3 := HX2.out.cell 3
    have x4 := HX2.out.cell 4
    simp at x0 x1 x2 x3 x4
    have hw02 : w.heap.size < w2.heap.size := by omega
    clear h1
    go_wp2_with fail
    rw [← HV.out]
    refine (sFuns_c m _ _ _ w2 (HI.out.on HB2.out) H1.out).mono ?_
    rintro e w3 ⟨v3, rfl, hown, hb3⟩
    have HB3 := hid (HB2.out.trans (hb3.mono HB2.out.size))
    obtain ⟨fl, hfs⟩ : ∃ l, funsL m = l := ⟨_, rfl⟩
    rw [hfs] at hown hfl HO
    have HOw := hid hown
    obtain ⟨s3, c3, rfl⟩ := own_slice hown
    clear hb3 hown hfs
    go_wp2_with fail
    refine (inList_c fl _ x w3 (.of_own HOw.out) (by omega)).mono ?_
    rintro e w4 ⟨rfl, rfl⟩
    rw [← HO.out]
    go_wp2_with fail
    go_ret
    exact ⟨rfl, HB3.out⟩
noncomputable def bodyP (m : Img) (x : Int) : List Int := if isFunP m x = true then reachL m.code [x] false else []
theorem bodyP_len (m : Img) (x : Int) : (bodyP m x).length ≤ 1000000 := by
  unfold bodyP
  split
  · rename_i h
    have h1 : imageOk m = true := by unfold isFunP at h; exact (Bool.and_eq_true_iff.1 h).1
    have := (imageOk_bd h1).c1
    have := reachL_len m.code [x] false
    omega
  · simp
set_option maxRecDepth 100000 in
set_option maxHeartbeats 4000000 in
theorem bodyOf_c (m : Img) (vc vd vn : Value) (x : Int) (w : World) (h : ICells w vc vd vn m) (hs : Sm m) (hcc : ∀ a n c, vc = .slice a n c → n ≤ c) :
    Calls Tryz.prog 25 #[imgVal vc vd vn m, .int .i64 x] w (WaysPost2 (bodyP m x) w) := by
  obtain ⟨ac, cc, rfl⟩ := rd_slice h.c
  obtain ⟨ad, cd, rfl⟩ := rd_slice h.d
  obtain ⟨an, cn, rfl⟩ := nrd_slice h.n
  have HI := hid h
  have HS := hid hs
  have HCap := hid hcc
  clear h hs hcc
  obtain ⟨o, ho⟩ : ∃ o, bodyP m x = o := ⟨_, rfl⟩
  have HQ := hid ho
  rw [ho]
  clear ho
  have hV : imgVal (.slice ac m.code.length cc) (.slice ad m.data.length cd) (.slice an m.names.length cn) m = .agg #[.slice ac m.code.length cc, .int .i64 m.entry, .int .i64 m.room, .slice ad m.data.length cd, .slice an m.names.length cn] := rfl
  have HV := hid hV
  rw [hV]
  clear hV
  have HB1 := hid ((Below.refl w.heap.size w).alloc (Nat.le_refl _) (.cells #[.slice ac m.code.length cc, .int .i64 m.entry, .int .i64 m.room, .slice ad m.data.length cd, .slice an m.names.length cn] 30))
  have HX1 := hid (Row.new w 30 #[.slice ac m.code.length cc, .int .i64 m.entry, .int .i64 m.room, .slice ad m.data.length cd, .slice an m.names.length cn])
  have hw01 : w.heap.size < (w.alloc (.cells #[.slice ac m.code.length cc, .int .i64 m.entry, .int .i64 m.room, .slice ad m.data.length cd, .slice an m.names.length cn] 30)).heap.size := by simp
  go_enter Tryz.func25, Tryz.ntmps25
  go_wp2_with fail
  generalize w.alloc (.cells #[.slice ac m.code.length cc, .int .i64 m.entry, .int .i64 m.room, .slice ad m.data.length cd, .slice an m.names.length cn] 30) = w1 at HB1 HX1 hw01 ⊢
  rw [← HV.out]
  cases hf : isFunP m x
  · obtain rfl : o = [] := by rw [← HQ.out, bodyP, hf]; rfl
    refine (funsWith_no m _ _ _ x w1 (HI.out.on HB1.out) HS.out HCap.out hf).mono ?_
    rintro e w2 ⟨rfl, hb2⟩
    have HB2 := hid (HB1.out.trans (hb2.mono HB1.out.size))
    clear hb2 hf
    go_wp2_with fail
    go_ret
    exact ⟨_, rfl, World.ownsRow_nil _ _ _ _, HB2.out.alloc HB2.out.size _⟩
  · have HO := hid (show o = reachL m.code [x] false by rw [← HQ.out, bodyP, hf]; rfl)
    have h1 : imageOk m = true := by unfold isFunP at hf; exact (Bool.and_eq_true_iff.1 hf).1
    have hx : x ∈ funsL m := by unfold isFunP at hf; exact of_decide_eq_true (Bool.and_eq_true_iff.1 hf).2
    have HBd := hid (imageOk_bd h1)
    have hl2 := HBd.out.c1
    obtain ⟨p, rfl, hpl, hrc⟩ := funs_rc h1 hx
    have HRc := hid hrc
    refine (funsWith_yes m _ _ _ p w1 (HI.out.on HB1.out) HS.out HCap.out h1 hx).mono ?_
    rintro e w2 ⟨gw, gm, ms, vl, rfl, hrow, hmap, hmem, ⟨sl, cl, rfl⟩, hb2⟩
    obtain ⟨fn, hfn⟩ : ∃ k, (funsL m).length = k := ⟨_, rfl⟩
    rw [hfn]
    obtain ⟨w3, hw3, hr3, hb3, hz3⟩ := new_ex w2 59 #[.pointer (some ⟨gw, 0, none⟩), .slice sl fn cl]
    have HB3 := hid (HB1.out.trans ((hb2.trans (hb3.mono hb2.size)).mono HB1.out.size))
    have HRow := hid (hrow.on hb3)
    have HMap := hid (hmap.on hb3)
    have HMem := hid hmem
    have HR3 := hid hr3
    have hcl : m.code.length ≤ cc := HCap.out _ _ _ rfl
    have HIn := hid (show ∀ q, Rc (Gm m.code false) [(p : Int)] q → (q ∈ insOf m.code ms ↔ (readP m.code q).isSome = true) from fun q hq => by
      rw [mem_insOf]
      exact ⟨fun h => h.2, fun h => ⟨(gw_gm hmem q).2 (rc_sub hrc hq), h⟩⟩)
    clear hf h1 hx hrc hrow hmap hmem hb2 hb3 hr3 hfn
    have y0 := HR3.out.cell 0
    have y1 := HR3.out.cell 1
    simp at y0 y1
    go_wp2_with fail
    clear hw3
    refine (body_c m.code ac cc _ gw gm p (insOf m.code ms) w3 (HI.out.on HB3.out).c hcl HBd.out.cb hl2 (by omega) HRow.out HMap.out HIn.out).mono ?_
    rintro e w4 ⟨v4, rfl, hown, hb4⟩
    rw [← HO.out] at hown
    have HOw := hid (own_mono hown HB3.out.size)
    have HB4 := hid (HB3.out.trans (hb4.mono HB3.out.size))
    obtain ⟨s4, c4, rfl⟩ := own_slice hown
    clear hown hb4
    go_wp2_with fail
    go_ret
    exact ⟨_, rfl, HOw.out, HB4.out⟩
set_option maxRecDepth 100000 in
set_option maxHeartbeats 4000000 in
theorem specBodyOf_c (m : Img) (vc vd vn : Value) (x : Int) (w : World) (h : ICells w vc vd vn m) (hs : Sm m) :
    Calls Tryz.prog 24 #[imgVal vc vd vn m, .int .i64 x] w (WaysPost2 (bodyP m x) w) := by
  obtain ⟨ac, cc, rfl⟩ := rd_slice h.c
  obtain ⟨ad, cd, rfl⟩ := rd_slice h.d
  obtain ⟨an, cn, rfl⟩ := nrd_slice h.n
  have HI := hid h
  have HS := hid hs
  clear h hs
  obtain ⟨o, ho⟩ : ∃ o, bodyP m x = o := ⟨_, rfl⟩
  have HQ := hid ho
  rw [ho]
  clear ho
  have hV : imgVal (.slice ac m.code.length cc) (.slice ad m.data.length cd) (.slice an m.names.length cn) m = .agg #[.slice ac m.code.length cc, .int .i64 m.entry, .int .i64 m.room, .slice ad m.data.length cd, .slice an m.names.length cn] := rfl
  have HV := hid hV
  rw [hV]
  clear hV
  have HB1 := hid ((Below.refl w.heap.size w).alloc (Nat.le_refl _) (.cells #[.slice ac m.code.length cc, .int .i64 m.entry, .int .i64 m.room, .slice ad m.data.length cd, .slice an m.names.length cn] 30))
  have HX1 := hid (Row.new w 30 #[.slice ac m.code.length cc, .int .i64 m.entry, .int .i64 m.room, .slice ad m.data.length cd, .slice an m.names.length cn])
  have hw01 : w.heap.size < (w.alloc (.cells #[.slice ac m.code.length cc, .int .i64 m.entry, .int .i64 m.room, .slice ad m.data.length cd, .slice an m.names.length cn] 30)).heap.size := by simp
  go_enter Tryz.func24, Tryz.ntmps24
  go_wp2_with fail
  generalize w.alloc (.cells #[.slice ac m.code.length cc, .int .i64 m.entry, .int .i64 m.room, .slice ad m.data.length cd, .slice an m.names.length cn] 30) = w1 at HB1 HX1 hw01 ⊢
  rw [← HV.out]
  refine (isFun_c m _ _ _ x w1 (HI.out.on HB1.out) HS.out).mono ?_
  rintro e w2 ⟨rfl, hb2⟩
  have HB2 := hid (HB1.out.trans (hb2.mono HB1.out.size))
  have HX2 := hid (HX1.out.on hb2)
  have hz2 := hb2.size
  clear hb2
  cases hf : isFunP m x
  · obtain rfl : o = [] := by rw [← HQ.out, bodyP, hf]; rfl
    clear hf
    go_wp2_with fail
    go_ret
    exact ⟨_, rfl, World.ownsRow_nil _ _ _ _, HB2.out⟩
  · have HO := hid (show o = reachL m.code [x] false by rw [← HQ.out, bodyP, hf]; rfl)
    have h1 : imageOk m = true := by unfold isFunP at hf; exact (Bool.and_eq_true_iff.1 hf).1
    have hx : x ∈ funsL m := by unfold isFunP at hf; exact of_decide_eq_true (Bool.and_eq_true_iff.1 hf).2
    have HBd := hid (imageOk_bd h1)
    have hl2 := HBd.out.c1
    obtain ⟨p, rfl, hpl, _⟩ := funs_rc h1 hx
    have x0 := HX2.out.cell 0
    simp at x0
    have hw02 : w.heap.size < w2.heap.size := by omega
    clear hf h1 hx
    have HB3 := hid (HB2.out.alloc HB2.out.size (.cells #[.int .i64 p] 3))
    have HRs := hid (Rd.of_own (own_lit w2 [(p : Int)] #[.int .i64 p] rfl (by simp) 1 rfl))
    go_wp2_with fail
    refine (walk_c m.code [(p : Int)] false ac _ cc _ _ (HI.out.on HB3.out).c HRs.out HBd.out.cb hl2 (by omega) (fun q hq => by obtain rfl : q = (p : Int) := (by simpa using hq); omega) (by simp)).mono ?_
    rintro e w3 ⟨v, ms, rfl, hown, hms, hb3⟩
    have HB4 := hid (HB3.out.trans (hb3.mono HB3.out.size))
    rw [trues_reach hms, ← HO.out] at hown
    have HOw := hid (own_mono hown HB3.out.size)
    obtain ⟨s, c, rfl⟩ := own_slice hown
    clear hown hms hb3
    go_wp2_with fail
    go_ret
    exact ⟨_, rfl, HOw.out, HB4.out⟩
set_option maxRecDepth 100000 in
set_option maxHeartbeats 2000000 in
theorem wcalledIn_c (code : List Int) (ac : Option Addr) (cc : Nat) (lb : Value) (gw gm at_ : Nat) (ms0 : List Nat) (w : World) (hr : Rd w (.slice ac code.length cc) code) (hcap : code.length ≤ cc) (hby : code.all isByte = true) (hlen : code.length ≤ 2000) (hat : at_ ≤ 2000)
    (hw : Row w gw 88 #[.slice ac code.length cc, .map (some gm), lb]) (hm : MapAt w gm code ms0) (hms0 : ∀ p, Rc (Gm code false) [(at_ : Int)] p → (p ∈ ms0 ↔ (readP code p).isSome = true)) (hms1 : ∀ p ∈ ms0, (readP code p).isSome = true) :
    Calls Tryz.prog 59 #[.pointer (some ⟨gw, 0, none⟩), .int .i64 at_] w (WaysPost2 (calledL code (reachL code [(at_ : Int)] false)) w) := by
  have HW := hid hw
  have HM := hid hm
  have HR := hid hr
  have HBy := hid hby
  have HMs := hid hms0
  have HM1 := hid hms1
  clear hr hby hw hm hms0 hms1
  go_enter Tryz.func59, Tryz.ntmps59
  go_wp2_with fail
  refine (body_c code ac cc lb gw gm at_ ms0 w HR.out hcap HBy.out hlen hat HW.out HM.out HMs.out).mono ?_
  rintro e w1 ⟨v1, rfl, hown, hb1⟩
  have hpl : ∀ x ∈ reachL code [(at_ : Int)] false, ∃ p : Nat, x = p ∧ p ∈ ms0 := fun x hx => by
    obtain ⟨p, e, _, h1, h2⟩ := reachL_mem hx
    exact ⟨p, e, (HMs.out p h1).2 h2⟩
  have hll := reachL_len code [(at_ : Int)] false
  obtain ⟨bl, hbl⟩ : ∃ l, reachL code [(at_ : Int)] false = l := ⟨_, rfl⟩
  rw [hbl] at hown hpl hll
  have HBl := hid hbl
  have HPl := hid hpl
  have HOw := hid hown
  have HB1 := hid hb1
  have HW1 := hid (HW.out.on hb1)
  have HMp1 := hid (HM.out.on hb1)
  obtain ⟨s1, c1, rfl⟩ := own_slice hown
  clear hown hb1 hbl hpl
  go_wp2_with fail
  refine (calledAt_c code ac cc lb gw gm ms0 bl _ w1 HW1.out HMp1.out (.of_own HOw.out) HPl.out HM1.out (by omega)).mono ?_
  rintro e w2 ⟨v2, rfl, hown, hb2⟩
  obtain ⟨cl, hcl⟩ : ∃ l, calledL code bl = l := ⟨_, rfl⟩
  rw [hcl] at hown
  have HCl := hid hcl
  have HO2 := hid (own_mono hown HB1.out.size)
  have HB2 := hid (HB1.out.trans (hb2.mono HB1.out.size))
  obtain ⟨s2, c2, rfl⟩ := own_slice hown
  clear hown hb2 hcl
  go_wp2_with fail
  go_ret
  rw [HBl.out, HCl.out]
  exact ⟨_, rfl, HO2.out, HB2.out⟩
noncomputable def calledP (m : Img) (x : Int) : List Int := if isFunP m x = true then calledL m.code (reachL m.code [x] false) else []
theorem calledP_len (m : Img) (x : Int) : (calledP m x).length ≤ 1000000 := by
  unfold calledP
  split
  · rename_i h
    have h1 : imageOk m = true := by unfold isFunP at h; exact (Bool.and_eq_true_iff.1 h).1
    have := (imageOk_bd h1).c1
    have := calledL_len m.code (reachL m.code [x] false)
    omega
  · simp
set_option maxRecDepth 100000 in
set_option maxHeartbeats 4000000 in
theorem calledIn_c (m : Img) (vc vd vn : Value) (x : Int) (w : World) (h : ICells w vc vd vn m) (hs : Sm m) (hcc : ∀ a n c, vc = .slice a n c → n ≤ c) :
    Calls Tryz.prog 27 #[imgVal vc vd vn m, .int .i64 x] w (WaysPost2 (calledP m x) w) := by
  obtain ⟨ac, cc, rfl⟩ := rd_slice h.c
  obtain ⟨ad, cd, rfl⟩ := rd_slice h.d
  obtain ⟨an, cn, rfl⟩ := nrd_slice h.n
  have HI := hid h
  have HS := hid hs
  have HCap := hid hcc
  clear h hs hcc
  obtain ⟨o, ho⟩ : ∃ o, calledP m x = o := ⟨_, rfl⟩
  have HQ := hid ho
  rw [ho]
  clear ho
  have hV : imgVal (.slice ac m.code.length cc) (.slice ad m.data.length cd) (.slice an m.names.length cn) m = .agg #[.slice ac m.code.length cc, .int .i64 m.entry, .int .i64 m.room, .slice ad m.data.length cd, .slice an m.names.length cn] := rfl
  have HV := hid hV
  rw [hV]
  clear hV
  have HB1 := hid ((Below.refl w.heap.size w).alloc (Nat.le_refl _) (.cells #[.slice ac m.code.length cc, .int .i64 m.entry, .int .i64 m.room, .slice ad m.data.length cd, .slice an m.names.length cn] 30))
  have HX1 := hid (Row.new w 30 #[.slice ac m.code.length cc, .int .i64 m.entry, .int .i64 m.room, .slice ad m.data.length cd, .slice an m.names.length cn])
  have hw01 : w.heap.size < (w.alloc (.cells #[.slice ac m.code.length cc, .int .i64 m.entry, .int .i64 m.room, .slice ad m.data.length cd, .slice an m.names.length cn] 30)).heap.size := by simp
  go_enter Tryz.func27, Tryz.ntmps27
  go_wp2_with fail
  generalize w.alloc (.cells #[.slice ac m.code.length cc, .int .i64 m.entry, .int .i64 m.room, .slice ad m.data.length cd, .slice an m.names.length cn] 30) = w1 at HB1 HX1 hw01 ⊢
  rw [← HV.out]
  cases hf : isFunP m x
  · obtain rfl : o = [] := by rw [← HQ.out, calledP, hf]; rfl
    refine (funsWith_no m _ _ _ x w1 (HI.out.on HB1.out) HS.out HCap.out hf).mono ?_
    rintro e w2 ⟨rfl, hb2⟩
    have HB2 := hid (HB1.out.trans (hb2.mono HB1.out.size))
    clear hb2 hf
    go_wp2_with fail
    go_ret
    exact ⟨_, rfl, World.ownsRow_nil _ _ _ _, HB2.out.alloc HB2.out.size _⟩
  · have HO := hid (show o = calledL m.code (reachL m.code [x] false) by rw [← HQ.out, calledP, hf]; rfl)
    have h1 : imageOk m = true := by unfold isFunP at hf; exact (Bool.and_eq_true_iff.1 hf).1
    have hx : x ∈ funsL m := by unfold isFunP at hf; exact of_decide_eq_true (Bool.and_eq_true_iff.1 hf).2
    have HBd := hid (imageOk_bd h1)
    have hl2 := HBd.out.c1
    obtain ⟨p, rfl, hpl, hrc⟩ := funs_rc h1 hx
    have HRc := hid hrc
    refine (funsWith_yes m _ _ _ p w1 (HI.out.on HB1.out) HS.out HCap.out h1 hx).mono ?_
    rintro e w2 ⟨gw, gm, ms, vl, rfl, hrow, hmap, hmem, ⟨sl, cl, rfl⟩, hb2⟩
    obtain ⟨fn, hfn⟩ : ∃ k, (funsL m).length = k := ⟨_, rfl⟩
    rw [hfn]
    obtain ⟨w3, hw3, hr3, hb3, hz3⟩ := new_ex w2 59 #[.pointer (some ⟨gw, 0, none⟩), .slice sl fn cl]
    have HB3 := hid (HB1.out.trans ((hb2.trans (hb3.mono hb2.size)).mono HB1.out.size))
    have HRow := hid (hrow.on hb3)
    have HMap := hid (hmap.on hb3)
    have HMem := hid hmem
    have HR3 := hid hr3
    have hcl : m.code.length ≤ cc := HCap.out _ _ _ rfl
    have HIn := hid (show ∀ q, Rc (Gm m.code false) [(p : Int)] q → (q ∈ insOf m.code ms ↔ (readP m.code q).isSome = true) from fun q hq => by
      rw [mem_insOf]
      exact ⟨fun h => h.2, fun h => ⟨(gw_gm hmem q).2 (rc_sub hrc hq), h⟩⟩)
    clear hf h1 hx hrc hrow hmap hmem hb2 hb3 hr3 hfn
    have y0 := HR3.out.cell 0
    have y1 := HR3.out.cell 1
    simp at y0 y1
    go_wp2_with fail
    clear hw3
    refine (wcalledIn_c m.code ac cc _ gw gm p (insOf m.code ms) w3 (HI.out.on HB3.out).c hcl HBd.out.cb hl2 (by omega) HRow.out HMap.out HIn.out (fun q hq => (mem_insOf.1 hq).2)).mono ?_
    rintro e w4 ⟨v4, rfl, hown, hb4⟩
    rw [← HO.out] at hown
    have HOw := hid (own_mono hown HB3.out.size)
    have HB4 := hid (HB3.out.trans (hb4.mono HB3.out.size))
    obtain ⟨s4, c4, rfl⟩ := own_slice hown
    clear hown hb4
    go_wp2_with fail
    go_ret
    exact ⟨_, rfl, HOw.out, HB4.out⟩
set_option maxRecDepth 100000 in
set_option maxHeartbeats 4000000 in
theorem specCalledIn_c (m : Img) (vc vd vn : Value) (x : Int) (w : World) (h : ICells w vc vd vn m) (hs : Sm m) :
    Calls Tryz.prog 26 #[imgVal vc vd vn m, .int .i64 x] w (WaysPost2 (calledP m x) w) := by
  obtain ⟨ac, cc, rfl⟩ := rd_slice h.c
  obtain ⟨ad, cd, rfl⟩ := rd_slice h.d
  obtain ⟨an, cn, rfl⟩ := nrd_slice h.n
  have HI := hid h
  have HS := hid hs
  clear h hs
  obtain ⟨o, ho⟩ : ∃ o, calledP m x = o := ⟨_, rfl⟩
  have HQ := hid ho
  rw [ho]
  clear ho
  have hV : imgVal (.slice ac m.code.length cc) (.slice ad m.data.length cd) (.slice an m.names.length cn) m = .agg #[.slice ac m.code.length cc, .int .i64 m.entry, .int .i64 m.room, .slice ad m.data.length cd, .slice an m.names.length cn] := rfl
  have HV := hid hV
  rw [hV]
  clear hV
  have HB1 := hid ((Below.refl w.heap.size w).alloc (Nat.le_refl _) (.cells #[.slice ac m.code.length cc, .int .i64 m.entry, .int .i64 m.room, .slice ad m.data.length cd, .slice an m.names.length cn] 30))
  have HX1 := hid (Row.new w 30 #[.slice ac m.code.length cc, .int .i64 m.entry, .int .i64 m.room, .slice ad m.data.length cd, .slice an m.names.length cn])
  have hw01 : w.heap.size < (w.alloc (.cells #[.slice ac m.code.length cc, .int .i64 m.entry, .int .i64 m.room, .slice ad m.data.length cd, .slice an m.names.length cn] 30)).heap.size := by simp
  go_enter Tryz.func26, Tryz.ntmps26
  go_wp2_with fail
  generalize w.alloc (.cells #[.slice ac m.code.length cc, .int .i64 m.entry, .int .i64 m.room, .slice ad m.data.length cd, .slice an m.names.length cn] 30) = w1 at HB1 HX1 hw01 ⊢
  rw [← HV.out]
  refine (isFun_c m _ _ _ x w1 (HI.out.on HB1.out) HS.out).mono ?_
  rintro e w2 ⟨rfl, hb2⟩
  have HB2 := hid (HB1.out.trans (hb2.mono HB1.out.size))
  have HX2 := hid (HX1.out.on hb2)
  have hz2 := hb2.size
  clear hb2
  cases hf : isFunP m x
  · obtain rfl : o = [] := by rw [← HQ.out, calledP, hf]; rfl
    clear hf
    go_wp2_with fail
    go_ret
    exact ⟨_, rfl, World.ownsRow_nil _ _ _ _, HB2.out⟩
  · have HO := hid (show o = calledL m.code (reachL m.code [x] false) by rw [← HQ.out, calledP, hf]; rfl)
    have h1 : imageOk m = true := by unfold isFunP at hf; exact (Bool.and_eq_true_iff.1 hf).1
    have hx : x ∈ funsL m := by unfold isFunP at hf; exact of_decide_eq_true (Bool.and_eq_true_iff.1 hf).2
    have HBd := hid (imageOk_bd h1)
    have hl2 := HBd.out.c1
    obtain ⟨p, rfl, hpl, _⟩ := funs_rc h1 hx
    have x0 := HX2.out.cell 0
    simp at x0
    have hw02 : w.heap.size < w2.heap.size := by omega
    clear hf h1 hx
    go_wp2_with fail
    refine (sCalledIn_c m.code ac cc p w2 (HI.out.on HB2.out).c HBd.out.cb hl2 (by omega) (by omega) (by omega)).mono ?_
    rintro e w3 ⟨v, rfl, hown, hb3⟩
    have HB4 := hid (HB2.out.trans (hb3.mono HB2.out.size))
    rw [← HO.out] at hown
    have HOw := hid (own_mono hown HB2.out.size)
    obtain ⟨s, c, rfl⟩ := own_slice hown
    clear hown hb3
    go_wp2_with fail
    go_ret
    exact ⟨_, rfl, HOw.out, HB4.out⟩
end Go.Proofs.YtihhpgklpichgaaGreat.Wk
/- Heights of the model: rises, heights. -/
namespace Go.Proofs.YtihhpgklpichgaaGreat.Wk
open Go.RowKit Pl Ft Mm In C2 Im Sw Gp

/-- Block g holds at least n numbers: these. -/
def NAt (w : World) (g n : Nat) (f : Nat → Int) : Prop := ∃ cur, Row w g 3 cur ∧ ∀ j, j < n → cur[j]? = some (.int .i64 (f j))
theorem NAt.cell {w : World} {g n : Nat} {f : Nat → Int} (h : NAt w g n f) {j : Nat} (hj : j < n) : w.cell? ⟨g, j, none⟩ = some (.int .i64 (f j)) := by
  obtain ⟨cur, hr, hc⟩ := h
  rw [hr.cell j]
  exact hc j hj
theorem NAt.lt {w : World} {g n : Nat} {f : Nat → Int} (h : NAt w g n f) : g < w.heap.size := by obtain ⟨cur, hr, _⟩ := h; exact hr.lt
theorem NAt.free {w : World} {g n : Nat} {f : Nat → Int} (h : NAt w g n f) (j : Nat) : w.frozen? ⟨g, j, none⟩ = false := by obtain ⟨cur, hr, _⟩ := h; exact hr.free j
theorem NAt.on {w w' : World} {g n : Nat} {f : Nat → Int} (h : NAt w g n f) (hb : Below w.heap.size w w') : NAt w' g n f := by
  obtain ⟨cur, hr, hc⟩ := h
  exact ⟨cur, hr.on hb, hc⟩
theorem NAt.set {w : World} {g n : Nat} {f : Nat → Int} (h : NAt w g n f) {p : Nat} (hp : p < n) (x : Int) : NAt (w.setCell ⟨g, p, none⟩ (.int .i64 x)) g n (fun q => if q = p then x else f q) := by
  obtain ⟨cur, hr, hc⟩ := h
  refine ⟨_, hr.set p (.int .i64 x), fun j hj => ?_⟩
  have h1 := hc j hj
  have hl : p < cur.size := by have := hc p hp; exact (Array.getElem?_eq_some_iff.1 this).1
  show _ = some (Value.int .i64 (if j = p then x else f j))
  by_cases e : j = p
  · subst e
    rw [if_pos rfl, Array.getElem?_setIfInBounds_self, if_pos hl]
  · rw [if_neg e, Array.getElem?_setIfInBounds_ne (fun h => e h.symm)]
    exact h1
theorem NAt.only {q : Nat → Prop} {w w' : World} {g n : Nat} {f : Nat → Int} (h : NAt w g n f) (hg : ¬ q g) (ho : Only q w w') : NAt w' g n f := by
  obtain ⟨cur, hr, hc⟩ := h
  exact ⟨cur, row_only hr hg ho, hc⟩
theorem NAt.of_own {w : World} {base n : Nat} {v : Value} {f : Nat → Int} (h : w.ownsRow base 3 1 v n ((List.range n).map fun j => .int .i64 (f j))) (hn : 0 < n) : ∃ g cap, v = .slice (some ⟨g, 0, none⟩) n cap ∧ base ≤ g ∧ NAt w g n f := by
  rcases h.2 with ⟨_, h0⟩ | ⟨g, cap, cur, rfl, hg, hr, hnc, hm, hs, ht⟩
  · omega
  · refine ⟨g, cap, rfl, hg, cur, hr, fun j hj => ?_⟩
    have h1 := congrArg (fun l => l[j]?) ht
    simp only [List.getElem?_take, Nat.mul_one, hj, if_true, List.getElem?_map, List.getElem?_range hj, Option.map_some] at h1
    rw [← Array.getElem?_toList]
    exact h1
theorem made_ints (n : Nat) : (madeCells (Value.cells (.int .i64 0)) (n * 1)).toList = (List.range n).map fun _ => Value.int .i64 0 := by
  have e : Value.cells (.int .i64 0) = #[.int .i64 0] := rfl
  rw [e, toList_madeCells_one, Nat.mul_one, List.map_const', List.length_range]
/-- How the stack turns, and how much must be there. -/
def RisePost (i : IIns) (w : World) (e : Ending) (w' : World) : Prop := e = .returned (.tuple #[.int .i64 (riseP i), .int .i64 (needsP i)]) ∧ Below w.heap.size w w'
set_option maxHeartbeats 2000000 in
theorem rises_c (i : IIns) (hv : validIns i = true) (hn : (i.op = 23 ∨ i.op = 24 ∨ i.op = 25 ∨ i.op = 26) → 0 ≤ i.n ∧ i.n ≤ 255) (w : World) : Calls Tryz.prog 79 #[i.val] w (RisePost i w) := by
  obtain ⟨op, ia, ib, n⟩ := i
  have HN := hid hn
  clear hv hn
  obtain ⟨w1, hw1, hr1, hb1, hz1⟩ := new_ex w 70 #[.int .i64 op, .int .i64 ia, .int .i64 ib, .int .i64 n]
  have HR1 := hid hr1
  have HB1 := hid hb1
  have x0 := hr1.cell 0
  have x3 := hr1.cell 3
  simp at x0 x3
  clear hr1 hb1
  unfold IIns.val
  simp only
  unfold RisePost
  by_cases h3 : op = 3
  · have HR := hid (show riseP ⟨op, ia, ib, n⟩ = 1 ∧ needsP ⟨op, ia, ib, n⟩ = 0 by unfold riseP needsP; simp [h3])
    rw [HR.out.1, HR.out.2]
    go_enter Tryz.func79, Tryz.ntmps79
    go_wp2_with fail
    go_ret2
    exact ⟨rfl, by first | exact HB1.out | exact HB1.out.drew | exact (Below.refl w.heap.size w).alloc (Nat.le_refl _) _ | exact ((Below.refl w.heap.size w).alloc (Nat.le_refl _) _).drew | exact ((Below.refl w.heap.size w).alloc (Nat.le_refl _) _).drew.drew | exact ((Below.refl w.heap.size w).alloc (Nat.le_refl _) _).trans ⟨rfl, rfl, rfl, Nat.le_refl _, fun _ _ => rfl⟩⟩
  by_cases h4 : op = 4
  · have HR := hid (show riseP ⟨op, ia, ib, n⟩ = -1 ∧ needsP ⟨op, ia, ib, n⟩ = 1 by unfold riseP needsP; simp [h4])
    rw [HR.out.1, HR.out.2]
    go_enter Tryz.func79, Tryz.ntmps79
    go_wp2_with fail
    go_ret2
    exact ⟨rfl, by first | exact HB1.out | exact HB1.out.drew | exact (Below.refl w.heap.size w).alloc (Nat.le_refl _) _ | exact ((Below.refl w.heap.size w).alloc (Nat.le_refl _) _).drew | exact ((Below.refl w.heap.size w).alloc (Nat.le_refl _) _).drew.drew | exact ((Below.refl w.heap.size w).alloc (Nat.le_refl _) _).trans ⟨rfl, rfl, rfl, Nat.le_refl _, fun _ _ => rfl⟩⟩
  by_cases h23 : op = 23 ∨ op = 24
  · have HR := hid (show riseP ⟨op, ia, ib, n⟩ = 0 ∧ needsP ⟨op, ia, ib, n⟩ = n + 1 by unfold riseP needsP; rcases h23 with h | h <;> simp [h])
    have hnn := HN.out (by rcases h23 with h | h <;> simp [h])
    simp only at hnn
    rw [HR.out.1, HR.out.2]
    rcases h23 with h | h
    all_goals
      go_enter Tryz.func79, Tryz.ntmps79
      go_wp2_with fail
      go_quiet (fail)
      go_wp2_with fail
      go_ret2
      exact ⟨rfl, by first | exact HB1.out | exact HB1.out.drew | exact (Below.refl w.heap.size w).alloc (Nat.le_refl _) _ | exact ((Below.refl w.heap.size w).alloc (Nat.le_refl _) _).drew | exact ((Below.refl w.heap.size w).alloc (Nat.le_refl _) _).drew.drew | exact ((Below.refl w.heap.size w).alloc (Nat.le_refl _) _).trans ⟨rfl, rfl, rfl, Nat.le_refl _, fun _ _ => rfl⟩⟩
  by_cases h25 : op = 25
  · have HR := hid (show riseP ⟨op, ia, ib, n⟩ = n ∧ needsP ⟨op, ia, ib, n⟩ = 0 by unfold riseP needsP; simp [h25])
    rw [HR.out.1, HR.out.2]
    go_enter Tryz.func79, Tryz.ntmps79
    go_wp2_with fail
    go_ret2
    exact ⟨rfl, by first | exact HB1.out | exact HB1.out.drew | exact (Below.refl w.heap.size w).alloc (Nat.le_refl _) _ | exact ((Below.refl w.heap.size w).alloc (Nat.le_refl _) _).drew | exact ((Below.refl w.heap.size w).alloc (Nat.le_refl _) _).drew.drew | exact ((Below.refl w.heap.size w).alloc (Nat.le_refl _) _).trans ⟨rfl, rfl, rfl, Nat.le_refl _, fun _ _ => rfl⟩⟩
  by_cases h26 : op = 26
  · have HR := hid (show riseP ⟨op, ia, ib, n⟩ = -n ∧ needsP ⟨op, ia, ib, n⟩ = n by unfold riseP needsP; simp [h26])
    have hnn := HN.out (by simp [h26])
    simp only at hnn
    rw [HR.out.1, HR.out.2]
    go_enter Tryz.func79, Tryz.ntmps79
    go_wp2_with fail
    go_quiet (fail)
    go_wp2_with fail
    go_ret2
    exact ⟨rfl, by first | exact HB1.out | exact HB1.out.drew | exact (Below.refl w.heap.size w).alloc (Nat.le_refl _) _ | exact ((Below.refl w.heap.size w).alloc (Nat.le_refl _) _).drew | exact ((Below.refl w.heap.size w).alloc (Nat.le_refl _) _).drew.drew | exact ((Below.refl w.heap.size w).alloc (Nat.le_refl _) _).trans ⟨rfl, rfl, rfl, Nat.le_refl _, fun _ _ => rfl⟩⟩
  · have HR := hid (show riseP ⟨op, ia, ib, n⟩ = 0 ∧ needsP ⟨op, ia, ib, n⟩ = 0 by unfold riseP needsP; simp [h3, h4, h25, h26]; omega)
    rw [HR.out.1, HR.out.2]
    have h23a : op ≠ 23 := fun h => h23 (.inl h)
    have h24a : op ≠ 24 := fun h => h23 (.inr h)
    go_enter Tryz.func79, Tryz.ntmps79
    go_wp2_with fail
    go_ret2
    exact ⟨rfl, by first | exact HB1.out | exact HB1.out.drew | exact (Below.refl w.heap.size w).alloc (Nat.le_refl _) _ | exact ((Below.refl w.heap.size w).alloc (Nat.le_refl _) _).drew | exact ((Below.refl w.heap.size w).alloc (Nat.le_refl _) _).drew.drew | exact ((Below.refl w.heap.size w).alloc (Nat.le_refl _) _).trans ⟨rfl, rfl, rfl, Nat.le_refl _, fun _ _ => rfl⟩⟩
end Go.Proofs.YtihhpgklpichgaaGreat.Wk
namespace Go.Proofs.YtihhpgklpichgaaGreat.Wk
open Go.RowKit Pl Ft Mm In C2 Im Sw Gp

noncomputable def heightsO (code : List Int) (a : Nat) : Option (List Int) := if pdec (okH code a) = true then some ((reachL code [(a : Int)] false).map fun x => hgt code a x.toNat) else none
theorem heightsO_no {code : List Int} {a : Nat} (h : ¬ okH code a) : heightsO code a = none := by unfold heightsO; rw [pdec_no h]; rfl
theorem heightsO_yes {code : List Int} {a : Nat} (h : okH code a) : heightsO code a = some ((reachL code [(a : Int)] false).map fun x => hgt code a x.toNat) := by unfold heightsO; rw [pdec_yes h]; rfl
structure ShRel (code : List Int) (a g : Nat) (w4 : World) (line : List Nat) (k : Nat) (f : Nat → Int) (v : Value) (wr : World) : Prop where
  inv : BHt code a line k f
  own : wr.ownsRow w4.heap.size 3 1 v line.length (ints (natI line))
  at_ : NAt wr g code.length f
  only : Only (fun b => b = g) w4 wr
  le : k ≤ line.length
  bd : ∀ q, q < code.length → -1 ≤ f q ∧ f q ≤ 40
theorem natI_get2 (l : List Nat) (k : Nat) (h : k < l.length) : (ints (natI l))[k]? = some (.int .i64 (l[k] : Nat)) := by
  rw [ints, List.getElem?_map, natI, List.getElem?_map, List.getElem?_eq_getElem h]
  rfl
theorem frame_n {i : IIns} (h : validIns i = true) (ho : i.op = 23 ∨ i.op = 24 ∨ i.op = 25 ∨ i.op = 26) : 0 ≤ i.n ∧ i.n ≤ 255 := by
  obtain ⟨op, a, b, n⟩ := i
  simp only at ho ⊢
  have key : ∀ k : Nat, (stab.getD k .none).low = 0 → (stab.getD k .none).high = 255 → op = k → 0 ≤ n ∧ n ≤ 255 := by
    intro k e2 e3 hk
    subst hk
    have hv : validAt (stab.getD k .none) ⟨(k : Int), a, b, n⟩ = true := by
      unfold validIns at h
      rw [Bool.and_eq_true] at h
      simpa using h.2
    unfold validAt at hv
    rw [e2, e3] at hv
    simp [inRange] at hv
    omega
  rcases ho with h1 | h1 | h1 | h1
  · exact key 23 rfl rfl h1
  · exact key 24 rfl rfl h1
  · exact key 25 rfl rfl h1
  · exact key 26 rfl rfl h1
theorem rise_bd {i : IIns} (h : validIns i = true) : -255 ≤ riseP i ∧ riseP i ≤ 255 ∧ 0 ≤ needsP i ∧ needsP i ≤ 256 := by
  have hn := frame_n h
  unfold riseP needsP
  by_cases h3 : i.op = 3
  · simp [h3]
  by_cases h4 : i.op = 4
  · simp [h4]
  by_cases h23 : i.op = 23 ∨ i.op = 24
  · have := hn (by omega)
    rw [if_neg h3, if_neg h4, if_neg (by omega), if_neg (by omega), if_neg h4, if_pos h23]
    omega
  by_cases h25 : i.op = 25
  · have := hn (by omega)
    rw [if_neg h3, if_neg h4, if_pos h25, if_neg h4, if_neg h23, if_neg (by omega)]
    omega
  by_cases h26 : i.op = 26
  · have := hn (by omega)
    rw [if_neg h3, if_neg h4, if_neg h25, if_pos h26, if_neg h4, if_neg h23, if_pos h26]
    omega
  · rw [if_neg h3, if_neg h4, if_neg h25, if_neg h26, if_neg h4, if_neg h23, if_neg h26]
    omega
structure ShIn (code : List Int) (a g : Nat) (w4 : World) (line0 : List Nat) (k p : Nat) (i : IIns) (f0 : Nat → Int) (v6 : Value) (t : Nat) (line : List Nat) (f : Nat → Int) (v : Value) (wr : World) : Prop where
  inv : BHn code a line0 k p i f0 t line f
  own : wr.ownsRow w4.heap.size 3 1 v line.length (ints (natI line))
  at_ : NAt wr g code.length f
  own6 : wr.ownsRow w4.heap.size 3 1 v6 (Gm code false p).length (ints (Gm code false p))
  ne : ∀ b, v.ownBlock = some b → ¬ v6.ownBlock = some b
  only : Only (fun b => b = g) w4 wr
  le : t ≤ (Gm code false p).length
  bd : ∀ q, q < code.length → -1 ≤ f q ∧ f q ≤ 40
end Go.Proofs.YtihhpgklpichgaaGreat.Wk
/- Heights of the program: highBehind, exit, ways of any exit, the closure of heights. -/
namespace Go.Proofs.YtihhpgklpichgaaGreat.Wk
open Go.RowKit Pl Ft Mm In C2 Im Sw Gp

def HbPost (i : IIns) (h : Int) (w : World) (e : Ending) (w' : World) : Prop := e = .returned (.tuple #[.int .i64 (h + riseP i), .bool (mayP i h)]) ∧ Below w.heap.size w w'
theorem mayP_2 {i : IIns} (h : i.op ≠ 1) (x : Int) : mayP i x = (decide (needsP i ≤ x) && decide (x + riseP i ≤ 40)) := by unfold mayP; simp [h]
set_option maxHeartbeats 2000000 in
theorem highBehind_c (i : IIns) (h : Int) (hb : -1000000000 ≤ h ∧ h ≤ 1000000000) (hn : (i.op = 23 ∨ i.op = 24 ∨ i.op = 25 ∨ i.op = 26) → 0 ≤ i.n ∧ i.n ≤ 255) (w : World) : Calls Tryz.prog 118 #[i.val, .int .i64 h] w (HbPost i h w) := by
  obtain ⟨op, ia, ib, n⟩ := i
  have HN := hid hn
  clear hn
  obtain ⟨hb1, hb2⟩ := hb
  obtain ⟨w1, hw1, hr1, hbb, hz1⟩ := new_ex w 70 #[.int .i64 op, .int .i64 ia, .int .i64 ib, .int .i64 n]
  have HR1 := hid hr1
  have HB1 := hid hbb
  have x0 := hr1.cell 0
  have x3 := hr1.cell 3
  simp at x0 x3
  clear hr1 hbb
  unfold IIns.val
  simp only
  unfold HbPost
  by_cases h1 : op = 1
  · subst h1
    have HR := hid (show riseP ⟨1, ia, ib, n⟩ = 0 ∧ mayP ⟨1, ia, ib, n⟩ h = decide (h = 0) by
      constructor
      · rfl
      · unfold mayP needsP riseP
        by_cases h0 : h = 0
        · subst h0; simp
        · simp [h0])
    rw [HR.out.1, HR.out.2, Int.add_zero]
    by_cases h0 : h = 0
    · subst h0
      go_enter Tryz.func118, Tryz.ntmps118
      go_wp2_with fail
      go_ret2
      exact ⟨rfl, by first | exact HB1.out | exact HB1.out.drew | exact (Below.refl _ _).alloc (Nat.le_refl _) _ | exact ((Below.refl w.heap.size w).alloc (Nat.le_refl _) _).drew | exact ((Below.refl w.heap.size w).alloc (Nat.le_refl _) _).trans ⟨rfl, rfl, rfl, Nat.le_refl _, fun _ _ => rfl⟩⟩
    · have hne : (h == 0) = false := by simpa using h0
      rw [decide_eq_false h0]
      go_enter Tryz.func118, Tryz.ntmps118
      go_wp2_with fail
      go_ret2
      exact ⟨rfl, by first | exact HB1.out | exact HB1.out.drew | exact (Below.refl _ _).alloc (Nat.le_refl _) _ | exact ((Below.refl w.heap.size w).alloc (Nat.le_refl _) _).drew | exact ((Below.refl w.heap.size w).alloc (Nat.le_refl _) _).trans ⟨rfl, rfl, rfl, Nat.le_refl _, fun _ _ => rfl⟩⟩
  have HM := hid (mayP_2 (i := ⟨op, ia, ib, n⟩) h1 h)
  rw [HM.out]
  by_cases h3 : op = 3
  · have HR := hid (show riseP ⟨op, ia, ib, n⟩ = 1 ∧ needsP ⟨op, ia, ib, n⟩ = 0 by unfold riseP needsP; simp [h3])
    rw [HR.out.1, HR.out.2]
    by_cases hx : 0 ≤ h
    · rw [decide_eq_true hx, Bool.true_and]
      go_enter Tryz.func118, Tryz.ntmps118
      go_wp2_with fail
      go_ret2
      exact ⟨rfl, by first | exact HB1.out | exact HB1.out.drew | exact (Below.refl _ _).alloc (Nat.le_refl _) _ | exact ((Below.refl w.heap.size w).alloc (Nat.le_refl _) _).drew | exact ((Below.refl w.heap.size w).alloc (Nat.le_refl _) _).trans ⟨rfl, rfl, rfl, Nat.le_refl _, fun _ _ => rfl⟩⟩
    · rw [decide_eq_false hx, Bool.false_and]
      go_enter Tryz.func118, Tryz.ntmps118
      go_wp2_with fail
      go_ret2
      exact ⟨rfl, by first | exact HB1.out | exact HB1.out.drew | exact (Below.refl _ _).alloc (Nat.le_refl _) _ | exact ((Below.refl w.heap.size w).alloc (Nat.le_refl _) _).drew | exact ((Below.refl w.heap.size w).alloc (Nat.le_refl _) _).trans ⟨rfl, rfl, rfl, Nat.le_refl _, fun _ _ => rfl⟩⟩
  by_cases h4 : op = 4
  · have HR := hid (show riseP ⟨op, ia, ib, n⟩ = -1 ∧ needsP ⟨op, ia, ib, n⟩ = 1 by unfold riseP needsP; simp [h4])
    rw [HR.out.1, HR.out.2]
    by_cases hx : 1 ≤ h
    · rw [decide_eq_true hx, Bool.true_and]
      go_enter Tryz.func118, Tryz.ntmps118
      go_wp2_with fail
      go_ret2
      exact ⟨rfl, by first | exact HB1.out | exact HB1.out.drew | exact (Below.refl _ _).alloc (Nat.le_refl _) _ | exact ((Below.refl w.heap.size w).alloc (Nat.le_refl _) _).drew | exact ((Below.refl w.heap.size w).alloc (Nat.le_refl _) _).trans ⟨rfl, rfl, rfl, Nat.le_refl _, fun _ _ => rfl⟩⟩
    · rw [decide_eq_false hx, Bool.false_and]
      go_enter Tryz.func118, Tryz.ntmps118
      go_wp2_with fail
      go_ret2
      exact ⟨rfl, by first | exact HB1.out | exact HB1.out.drew | exact (Below.refl _ _).alloc (Nat.le_refl _) _ | exact ((Below.refl w.heap.size w).alloc (Nat.le_refl _) _).drew | exact ((Below.refl w.heap.size w).alloc (Nat.le_refl _) _).trans ⟨rfl, rfl, rfl, Nat.le_refl _, fun _ _ => rfl⟩⟩
  by_cases h23 : op = 23 ∨ op = 24
  · have HR := hid (show riseP ⟨op, ia, ib, n⟩ = 0 ∧ needsP ⟨op, ia, ib, n⟩ = n + 1 by unfold riseP needsP; rcases h23 with h | h <;> simp [h])
    have hnn := HN.out (by rcases h23 with h | h <;> simp [h])
    simp only at hnn
    rw [HR.out.1, HR.out.2, Int.add_zero]
    have hcase : op = 23 ∨ (op ≠ 23 ∧ op = 24) := by omega
    clear h23
    rcases hcase with h23 | ⟨h23, h24⟩
    all_goals
      by_cases hx : n + 1 ≤ h
      · rw [decide_eq_true hx, Bool.true_and]
        go_enter Tryz.func118, Tryz.ntmps118
        go_wp2_with fail
        go_ret2
        exact ⟨rfl, by first | exact HB1.out | exact HB1.out.drew | exact (Below.refl _ _).alloc (Nat.le_refl _) _ | exact ((Below.refl w.heap.size w).alloc (Nat.le_refl _) _).drew | exact ((Below.refl w.heap.size w).alloc (Nat.le_refl _) _).trans ⟨rfl, rfl, rfl, Nat.le_refl _, fun _ _ => rfl⟩⟩
      · rw [decide_eq_false hx, Bool.false_and]
        go_enter Tryz.func118, Tryz.ntmps118
        go_wp2_with fail
        go_ret2
        exact ⟨rfl, by first | exact HB1.out | exact HB1.out.drew | exact (Below.refl _ _).alloc (Nat.le_refl _) _ | exact ((Below.refl w.heap.size w).alloc (Nat.le_refl _) _).drew | exact ((Below.refl w.heap.size w).alloc (Nat.le_refl _) _).trans ⟨rfl, rfl, rfl, Nat.le_refl _, fun _ _ => rfl⟩⟩
  have h23a : op ≠ 23 := fun h => h23 (.inl h)
  have h24a : op ≠ 24 := fun h => h23 (.inr h)
  by_cases h25 : op = 25
  · have HR := hid (show riseP ⟨op, ia, ib, n⟩ = n ∧ needsP ⟨op, ia, ib, n⟩ = 0 by unfold riseP needsP; simp [h25])
    have hnn := HN.out (by simp [h25])
    simp only at hnn
    rw [HR.out.1, HR.out.2]
    by_cases hx : 0 ≤ h
    · rw [decide_eq_true hx, Bool.true_and]
      go_enter Tryz.func118, Tryz.ntmps118
      go_wp2_with fail
      go_ret2
      exact ⟨rfl, by first | exact HB1.out | exact HB1.out.drew | exact (Below.refl _ _).alloc (Nat.le_refl _) _ | exact ((Below.refl w.heap.size w).alloc (Nat.le_refl _) _).drew | exact ((Below.refl w.heap.size w).alloc (Nat.le_refl _) _).trans ⟨rfl, rfl, rfl, Nat.le_refl _, fun _ _ => rfl⟩⟩
    · rw [decide_eq_false hx, Bool.false_and]
      go_enter Tryz.func118, Tryz.ntmps118
      go_wp2_with fail
      go_ret2
      exact ⟨rfl, by first | exact HB1.out | exact HB1.out.drew | exact (Below.refl _ _).alloc (Nat.le_refl _) _ | exact ((Below.refl w.heap.size w).alloc (Nat.le_refl _) _).drew | exact ((Below.refl w.heap.size w).alloc (Nat.le_refl _) _).trans ⟨rfl, rfl, rfl, Nat.le_refl _, fun _ _ => rfl⟩⟩
  by_cases h26 : op = 26
  · have HR := hid (show riseP ⟨op, ia, ib, n⟩ = -n ∧ needsP ⟨op, ia, ib, n⟩ = n by unfold riseP needsP; simp [h26])
    have hnn := HN.out (by simp [h26])
    simp only at hnn
    rw [HR.out.1, HR.out.2, show h + -n = h - n by omega]
    by_cases hx : n ≤ h
    · rw [decide_eq_true hx, Bool.true_and]
      go_enter Tryz.func118, Tryz.ntmps118
      go_wp2_with fail
      go_quiet (fail)
      go_wp2_with fail
      go_ret2
      exact ⟨rfl, by first | exact HB1.out | exact HB1.out.drew | exact (Below.refl _ _).alloc (Nat.le_refl _) _ | exact ((Below.refl w.heap.size w).alloc (Nat.le_refl _) _).drew | exact ((Below.refl w.heap.size w).alloc (Nat.le_refl _) _).trans ⟨rfl, rfl, rfl, Nat.le_refl _, fun _ _ => rfl⟩⟩
    · rw [decide_eq_false hx, Bool.false_and]
      go_enter Tryz.func118, Tryz.ntmps118
      go_wp2_with fail
      go_quiet (fail)
      go_wp2_with fail
      go_ret2
      exact ⟨rfl, by first | exact HB1.out | exact HB1.out.drew | exact (Below.refl _ _).alloc (Nat.le_refl _) _ | exact ((Below.refl w.heap.size w).alloc (Nat.le_refl _) _).drew | exact ((Below.refl w.heap.size w).alloc (Nat.le_refl _) _).trans ⟨rfl, rfl, rfl, Nat.le_refl _, fun _ _ => rfl⟩⟩
  · have HR := hid (show riseP ⟨op, ia, ib, n⟩ = 0 ∧ needsP ⟨op, ia, ib, n⟩ = 0 by unfold riseP needsP; simp [h3, h4, h25, h26, h23a, h24a])
    rw [HR.out.1, HR.out.2, Int.add_zero]
    by_cases hx : 0 ≤ h
    · rw [decide_eq_true hx, Bool.true_and]
      go_enter Tryz.func118, Tryz.ntmps118
      go_wp2_with fail
      go_ret2
      exact ⟨rfl, by first | exact HB1.out | exact HB1.out.drew | exact (Below.refl _ _).alloc (Nat.le_refl _) _ | exact ((Below.refl w.heap.size w).alloc (Nat.le_refl _) _).drew | exact ((Below.refl w.heap.size w).alloc (Nat.le_refl _) _).trans ⟨rfl, rfl, rfl, Nat.le_refl _, fun _ _ => rfl⟩⟩
    · rw [decide_eq_false hx, Bool.false_and]
      go_enter Tryz.func118, Tryz.ntmps118
      go_wp2_with fail
      go_ret2
      exact ⟨rfl, by first | exact HB1.out | exact HB1.out.drew | exact (Below.refl _ _).alloc (Nat.le_refl _) _ | exact ((Below.refl w.heap.size w).alloc (Nat.le_refl _) _).drew | exact ((Below.refl w.heap.size w).alloc (Nat.le_refl _) _).trans ⟨rfl, rfl, rfl, Nat.le_refl _, fun _ _ => rfl⟩⟩
theorem ways_any (code : List Int) (i : IIns) (x : Int) (tv : Value) (hv : validIns i = true) :
    ∃ (F : Nat) (recv : Value) (T : TypeId) (v : Value), exVal i x tv (tabP code i).isSome = .iface T v ∧ (∀ w : World, (method 342 T v "loop.example/liftedcode/impl.ways").run Tryz.prog w = .ok (F, recv) w) ∧ (∀ (xs : Array Value) (w : World), (callFunc F xs).run Tryz.prog w = .ok (.enter F xs) w) ∧
      ∀ (w : World) (B : Nat), (i.op = 30 → w.ownsRow B 3 1 tv ((tabP code i).getD []).length (ints ((tabP code i).getD []))) → Calls Tryz.prog F #[recv] w (WaysPost2 (nextsP code i x) w) := by
  unfold exVal nextsP
  by_cases h0 : i.op = 0 ∨ i.op = 1
  · rw [if_pos h0, if_pos h0]
    exact ⟨_, _, _, _, rfl, mt_stop, fun xs w => by kernel_rfl, fun w B _ => stopWays_c w⟩
  rw [if_neg h0, if_neg h0]
  by_cases h27 : i.op = 27
  · rw [if_pos h27, if_pos h27]
    exact ⟨_, _, _, _, rfl, mt_jump i.n, fun xs w => by kernel_rfl, fun w B _ => jumpWays_c i.n w⟩
  rw [if_neg h27, if_neg h27]
  by_cases h28 : i.op = 28
  · rw [if_pos h28, if_pos h28]
    exact ⟨_, _, _, _, rfl, mt_if i.n x, fun xs w => by kernel_rfl, fun w B _ => ifWays_c i.n x w⟩
  rw [if_neg h28, if_neg h28]
  by_cases h29 : i.op = 29
  · rw [if_pos h29, if_neg (by omega)]
    exact ⟨_, _, _, _, rfl, mt_call x i.n, fun xs w => by kernel_rfl, fun w B _ => nextWays_c x w⟩
  rw [if_neg h29]
  by_cases h30 : i.op = 30
  · rw [if_pos h30, if_pos h30]
    exact ⟨_, _, _, _, rfl, mt_table tv _ x, fun xs w => by kernel_rfl, fun w B ho => tableWays_c _ B tv _ x w (ho h30) (by have := tab_len (code := code) (valid_b hv h30); omega)⟩
  · rw [if_neg h30, if_neg h30]
    exact ⟨_, _, _, _, rfl, mt_next x, fun xs w => by kernel_rfl, fun w B _ => nextWays_c x w⟩
set_option maxRecDepth 100000 in
set_option maxHeartbeats 2000000 in
theorem exit_c (code : List Int) (ac : Option Addr) (cc : Nat) (lb : Value) (gw gm : Nat) (ms0 : List Nat) (at_ : Int) (sv : Option Addr) (nv cv : Nat) (p : Nat) (i : IIns) (w : World) (hr : Rd w (.slice ac code.length cc) code) (hcap : code.length ≤ cc) (hby : code.all isByte = true) (hlen : code.length ≤ 2000)
    (hw : Row w gw 88 #[.slice ac code.length cc, .map (some gm), lb]) (hm : MapAt w gm code ms0) (hp : p ∈ ms0) (hi : readP code p = some i) :
    Calls Tryz.prog 116 #[.agg #[.pointer (some ⟨gw, 0, none⟩), .int .i64 at_, .slice sv nv cv], .int .i64 p] w (ExPost code i (p + slong i) w) := by
  have HRd := hid hr
  have HBy := hid hby
  have hf := readP_facts hi
  have HV := hid hf.2.1
  obtain ⟨w1, hw1, hr1, hb1, hz1⟩ := new_ex w 77 #[.pointer (some ⟨gw, 0, none⟩), .int .i64 at_, .slice sv nv cv]
  have HB1 := hid hb1
  have HM1 := hid (hm.on hb1)
  have HW1 := hid (hw.on hb1)
  have hrdo : rdOf code p = rdArr i (p + slong i) := by unfold rdOf nextP; rw [hi]; rfl
  have hlk := look1_yes (w := w1.drew) (show MapAt w1.drew gm code ms0 from HM1.out) hp
  rw [hrdo] at hlk
  obtain ⟨x, hx⟩ : ∃ x, (p : Int) + slong i = x := ⟨_, rfl⟩
  rw [hx] at hlk ⊢
  have x0 := hr1.cell 0
  have y0 := HW1.out.cell 0
  have y1 := HW1.out.cell 1
  simp at x0 y0 y1
  clear hr hby hf hw hm hrdo hx hr1 hb1 hi hp
  go_enter Tryz.func116, Tryz.ntmps116
  go_upto_region 1 with fail
  try rw [hw1]
  clear hw1
  go_region_law (first
    | (go_simp; go_at_call 100; refine (exitOf_c code _ i x w1.drew ((HRd.out.on HB1.out).on ((Below.refl _ _).drew)) (fun a k c h => by cases h; exact hcap) HBy.out hlen HV.out).mono ?_; rintro e w2 ⟨tv, rfl, hown2, hb2⟩; have HO2 := hid hown2; have HB2 := hid hb2; clear hown2 hb2))
  all_goals
    go_wp2_with fail
    go_ret
    have hb := ((Below.refl w1.heap.size w1).drew).trans HB2.out
    exact ⟨tv, rfl, fun h => own_mono (HO2.out h) (by have := HB1.out.size; simp only [World.drew]; omega), HB1.out.trans (hb.mono HB1.out.size)⟩
end Go.Proofs.YtihhpgklpichgaaGreat.Wk
/- Heights of the program: the closure of heights. -/
namespace Go.Proofs.YtihhpgklpichgaaGreat.Wk
open Go.RowKit Pl Ft Mm In C2 Im Sw Gp

theorem fold_mem (b : Int) : ∀ (qs : List Nat) (s : Bool × List (Nat × Int)) (e : Nat × Int), e ∈ (qs.foldl (stepE b) s).2 → e ∈ s.2 ∨ e.2 = b
  | [], s, e, h => .inl h
  | q :: qs, s, e, h => by
    rcases fold_mem b qs _ e h with h1 | h1
    · rcases mem_put (show e ∈ putE s.2 q b from h1) with h2 | h2
      · exact .inl h2
      · exact .inr (by rw [h2])
    · exact .inr h1
/-- No height is greater than this. -/
def BdE (n : Nat) (es : List (Nat × Int)) : Prop := ∀ e ∈ es, -(300 * (n : Int)) ≤ e.2 ∧ e.2 ≤ 300 * n
theorem BdE.look {n : Nat} {es : List (Nat × Int)} (h : BdE n es) (p : Nat) : -(300 * (n : Int)) ≤ (lookE es p).getD 0 ∧ (lookE es p).getD 0 ≤ 300 * n := by
  cases hl : lookE es p with
  | none => simp only [Option.getD_none]; omega
  | some x => exact h _ (look_mem hl)
theorem BdE.fold {n : Nat} {es : List (Nat × Int)} (h : BdE n es) {b : Int} (hb : -(300 * ((n : Int) + 1)) ≤ b ∧ b ≤ 300 * ((n : Int) + 1)) (qs : List Nat) (c : Bool) : BdE (n + 1) (qs.foldl (stepE b) (c, es)).2 := fun e he => by
  rcases fold_mem b qs _ e he with h1 | h1
  · have := h e h1
    omega
  · omega
theorem fld_ins (op ia ib n x : Int) (w : World) : (Instr.field 112 (.agg #[.int .i64 op, .int .i64 ia, .int .i64 ib, .int .i64 n, .int .i64 x]) 0).run Tryz.prog w = .ok (.agg #[.int .i64 op, .int .i64 ia, .int .i64 ib, .int .i64 n]) w := by kernel_rfl
/-- What the closure stands on: the boxes of the map, of the truth; the map. -/
structure HtSt (code : List Int) (a gah gao gok : Nat) (wS : World) (ms : List Nat) (T : Nat → Prop) (w : World) : Prop where
  T : T = fun k => k < wS.heap.size
  ah : EAt w gah encI (heldE code a ms).2
  ok : Row w gok 4 #[.bool (heldE code a ms).1]
  only : Only (fun k => k = gah ∨ k = gok) wS w
  bd : BdE (ms.length + 1) (heldE code a ms).2
structure HfRel (gah gok : Nat) (b : Int) (s0 : Bool × List (Nat × Int)) (qs : List Nat) (w8 : World) (k : Nat) (wr : World) : Prop where
  ah : EAt wr gah encI ((qs.take k).foldl (stepE b) s0).2
  ok : Row wr gok 4 #[.bool ((qs.take k).foldl (stepE b) s0).1]
  only : Only (fun k => k = gah ∨ k = gok) w8 wr
theorem foldl_take_succ {α β : Type} (f : β → α → β) (s : β) (l : List α) (k : Nat) (h : k < l.length) : (l.take (k + 1)).foldl f s = f ((l.take k).foldl f s) l[k] := by
  rw [List.take_succ_eq_append_getElem h, List.foldl_append]
  rfl
def HfPost (code : List Int) (a gah gao gok : Nat) (wS : World) (ms : List Nat) (T : Nat → Prop) (p : Nat) (w : World) (e : Ending) (w' : World) : Prop :=
  ∃ v, e = .returned v ∧ Rd w' v (Gm code false p) ∧ (∀ k, v.ownBlock = some k → w.heap.size ≤ k) ∧ HtSt code a gah gao gok wS (ms ++ [p]) T w' ∧ Only (fun k => k = gah ∨ k = gok) w w'
set_option maxRecDepth 100000 in
set_option maxHeartbeats 4000000 in
theorem heightsFn_c (code : List Int) (ac : Option Addr) (cc : Nat) (lb : Value) (gw gm gr gao gah gok : Nat) (at_ : Int) (sv : Option Addr) (nv cv : Nat) (ms0 : List Nat) (a : Nat) (w00 wS : World) (ms : List Nat) (T : Nat → Prop) (p : Nat) (i : IIns) (w : World)
    (hr : Rd w00 (.slice ac code.length cc) code) (hb00 : Below w00.heap.size w00 wS) (g1 : w00.heap.size ≤ gah) (g2 : w00.heap.size ≤ gok) (hcap : code.length ≤ cc) (hby : code.all isByte = true) (hlen : code.length ≤ 2000)
    (hw : Row wS gw 88 #[.slice ac code.length cc, .map (some gm), lb]) (hm : MapAt wS gm code ms0) (hrt : Row wS gr 77 #[.pointer (some ⟨gw, 0, none⟩), .int .i64 at_, .slice sv nv cv]) (hao : Row wS gao 130 #[.map (some gah)])
    (n1 : gw ≠ gah ∧ gw ≠ gok) (n2 : gm ≠ gah ∧ gm ≠ gok) (n3 : gr ≠ gah ∧ gr ≠ gok) (n4 : gao ≠ gah ∧ gao ≠ gok) (n5 : gah ≠ gok) (hs : HtSt code a gah gao gok wS ms T w) (hp : p ∈ ms0) (hi : readP code p = some i) (hnn : ∀ q ∈ Gm code false p, 0 ≤ q) (hml : ms.length ≤ 1000000) :
    Calls Tryz.prog 117 #[.int .i64 p, .pointer (some ⟨gr, 0, none⟩), .pointer (some ⟨gao, 0, none⟩), .pointer (some ⟨gok, 0, none⟩)] w (HfPost code a gah gao gok wS ms T p w) := by
  have HSt := hid hs
  have HBy := hid hby
  have hf := readP_facts hi
  have HV := hid hf.2.1
  have HI := hid hi
  have HNn := hid hnn
  have hno : ∀ k, k ≠ gah ∧ k ≠ gok → ¬ (k = gah ∨ k = gok) := fun k h h2 => h2.elim h.1 h.2
  have HRr := hid hr
  have HG12 := hid (And.intro g1 g2)
  have HBw := hid (hb00.trans (hs.only.below hb00.size (fun k hk => by rcases hk with rfl | rfl <;> assumption)))
  have HRd := hid (hr.on (hb00.trans (hs.only.below hb00.size (fun k hk => by rcases hk with rfl | rfl <;> assumption))))
  have HW := hid (row_only hw (hno _ n1) hs.only)
  have HM := hid (show MapAt w gm code ms0 from (hs.only.block gm hm.lt (hno _ n2)).trans hm)
  have HR := hid (row_only hrt (hno _ n3) hs.only)
  have HA := hid (row_only hao (hno _ n4) hs.only)
  have HN := hid (And.intro n1 (And.intro n2 (And.intro n3 (And.intro n4 n5))))
  have HPm := hid hp
  have hbl := hs.bd.look p
  have hvis : heldE code a (ms ++ [p]) = (toL (Gm code false) p).foldl (stepE ((lookE (heldE code a ms).2 p).getD 0 + riseP i)) ((heldE code a ms).1 && mayP i ((lookE (heldE code a ms).2 p).getD 0), (heldE code a ms).2) := by
    rw [heldE_push]
    unfold visitE
    rw [hi]
  have HVis := hid hvis
  have hah := hs.ah
  have hok := hs.ok
  have HRb := hid (rise_bd hf.2.1)
  obtain ⟨⟨b, es⟩, hse⟩ : ∃ s, heldE code a ms = s := ⟨_, rfl⟩
  have HSe := hid hse
  rw [hse] at hah hok hbl
  simp only at hah hok hbl
  have HAh := hid hah
  have HOk := hid hok
  obtain ⟨h0, hh0⟩ : ∃ h, (lookE es p).getD 0 = h := ⟨_, rfl⟩
  have HH0 := hid hh0
  rw [hh0] at hbl
  have hget := run_get_i (w := w.drew) (show EAt w.drew gah encI es from hah) p
  rw [hh0] at hget
  simp only [encI] at hget
  have hlk := look1_yes (w := w.drew) (show MapAt w.drew gm code ms0 from HM.out) hp
  rw [show rdOf code p = rdArr i (p + slong i) by unfold rdOf nextP; rw [hi]; rfl] at hlk
  obtain ⟨op, ia, ib, n⟩ := i
  obtain ⟨x, hx⟩ : ∃ x, (p : Int) + slong ⟨op, ia, ib, n⟩ = x := ⟨_, rfl⟩
  rw [hx] at hlk
  have HX := hid hx
  unfold rdArr at hlk
  simp only at hlk
  have hbl1 : -1000000000 ≤ h0 ∧ h0 ≤ 1000000000 := by omega
  have HBl1 := hid hbl1
  have HBl := hid hbl
  obtain ⟨bh, hbh⟩ : ∃ y, h0 + riseP ⟨op, ia, ib, n⟩ = y := ⟨_, rfl⟩
  obtain ⟨my, hmy⟩ : ∃ y, mayP ⟨op, ia, ib, n⟩ h0 = y := ⟨_, rfl⟩
  have HBh := hid hbh
  have HMy := hid hmy
  have x0 := HR.out.cell 0
  have y1 := HW.out.cell 1
  have a0 := HA.out.cell 0
  simp at x0 y1 a0
  clear hr hb00 hby hf hw hm hrt hao n1 n2 n3 n4 hs hp hi hnn hno hvis hse hah hok hh0 hx hbl hbl1 hbh hmy
  have hfl := fld_ins op ia ib n x
  go_enter Tryz.func117, Tryz.ntmps117
  go_upto_region 1 with fail
  go_cut [6, 7] (fun s6 s7 wx => s6 = .int .i64 bh ∧ s7 = .bool my ∧ Below w.heap.size w wx)
  case first =>
    go_region_law (first
      | (go_simp; go_at_call 118; refine (highBehind_c ⟨op, ia, ib, n⟩ h0 HBl1.out (frame_n HV.out) w.drew).mono ?_; rintro e w2 ⟨rfl, hb2⟩; rw [HBh.out, HMy.out]; have HB2 := hid (((Below.refl w.heap.size w).drew).trans hb2); clear hb2))
    all_goals
      go_wp2_with fail
      go_meet
      exact ⟨rfl, rfl, HB2.out⟩
  case rest =>
    obtain ⟨rfl, rfl, hb2⟩ := hcut
    generalize wc = w2 at hb2 ⊢
    have HB2 := hid hb2
    have HOk2 := hid (HOk.out.on hb2)
    have HR2 := hid (HR.out.on hb2)
    have HA2 := hid (HA.out.on hb2)
    have HW2 := hid (HW.out.on hb2)
    have HM2 := hid (HM.out.on hb2)
    have HAh2 := hid (HAh.out.on hb2)
    have HRd2 := hid (HRd.out.on hb2)
    clear hget hlk x0 y1 a0 hb2
    have o0 := HOk2.out.cell 0
    have of_ := HOk2.out.free
    simp at o0
    go_upto_region 2 with fail
    go_cut [] (fun wx => Row wx gok 4 #[.bool (b && my)] ∧ Only (fun k => k = gok) w2 wx)
    case first =>
      cases b
      · go_wp2_with fail
        go_meet
        exact ⟨HOk2.out.set 0 (.bool false), (Only.refl (fun k => k = gok) w2).setCell (g := gok) rfl 0 _⟩
      · go_wp2_with fail
        go_meet
        exact ⟨HOk2.out.set 0 (.bool my), (Only.refl (fun k => k = gok) w2).setCell (g := gok) rfl 0 _⟩
    case rest =>
      obtain ⟨hok3, ho3⟩ := hcut
      generalize wc = w3 at hok3 ho3 ⊢
      obtain ⟨c, hc⟩ : ∃ c, (b && my) = c := ⟨_, rfl⟩
      rw [hc] at hok3
      have HC := hid hc
      have HOk3 := hid hok3
      have HO3 := hid ho3
      have hk : ∀ k, k ≠ gah ∧ k ≠ gok → ¬ k = gok := fun k h => h.2
      have HR3 := hid (row_only HR2.out (hk _ HN.out.2.2.1) ho3)
      have HA3 := hid (row_only HA2.out (hk _ HN.out.2.2.2.1) ho3)
      have HW3 := hid (row_only HW2.out (hk _ HN.out.1) ho3)
      have HM3 := hid (show MapAt w3 gm code ms0 from (ho3.block gm HM2.out.lt (hk _ HN.out.2.1)).trans HM2.out)
      have HAh3 := hid (HAh2.out.only (HN.out.2.2.2.2) ho3)
      have HBw3 := hid ((HBw.out.trans (HB2.out.mono HBw.out.size)).trans (ho3.below (Nat.le_trans HBw.out.size HB2.out.size) (fun k hk => by rw [hk]; exact HG12.out.2)))
      have HRd3 := hid (HRr.out.on HBw3.out)
      have hz3 := ho3.size
      have r0 := HR3.out.cell 0
      have r1 := HR3.out.cell 1
      have r2 := HR3.out.cell 2
      simp at r0 r1 r2
      clear hok3 ho3 hk hc o0 of_
      go_upto_region 3 with fail
      go_cut [8] (fun s8 wx => ∃ s c8, s8 = .slice s (Gm code false p).length c8 ∧ wx.ownsRow w3.heap.size 3 1 s8 (Gm code false p).length (ints (Gm code false p)) ∧ Below w3.heap.size w3 wx)
      case first =>
        have HGm := hid (show nextsP code ⟨op, ia, ib, n⟩ x = Gm code false p from by rw [gm_off HI.out, HX.out])
        go_wp2_with fail
        refine (exit_c code ac cc lb gw gm ms0 at_ sv nv cv p ⟨op, ia, ib, n⟩ w3 HRd3.out hcap HBy.out hlen HW3.out HM3.out HPm.out HI.out).mono ?_
        rintro e w4 ⟨tv, rfl, hown4, hb4⟩
        obtain ⟨F, recv, T', v', he, hmt, hen, hcl⟩ := ways_any code ⟨op, ia, ib, n⟩ x tv HV.out
        rw [HX.out, he]
        have HO4 := hid hown4
        have HB4 := hid hb4
        have HCl := hid hcl
        clear hown4 hb4 hcl he r0 r1 r2
        go_wp2_with fail
        refine (HCl.out w4 _ HO4.out).mono ?_
        rintro e w5 ⟨v5, rfl, hown5, hb5⟩
        rw [HGm.out] at hown5
        have HO5 := hid hown5
        have HB5 := hid hb5
        obtain ⟨s5, c5, rfl⟩ := own_slice hown5
        clear hown5 hb5 hmt hen
        go_wp2_with fail
        go_meet
        exact ⟨_, _, rfl, own_mono HO5.out HB4.out.size, HB4.out.trans (HB5.out.mono HB4.out.size)⟩
      case rest =>
        obtain ⟨s8, c8, rfl, hown8, hb8⟩ := hcut
        generalize wc = w8 at hown8 hb8 ⊢
        obtain ⟨l, hl⟩ : ∃ l, Gm code false p = l := ⟨_, rfl⟩
        rw [hl] at hown8
        rw [hl]
        have HGl := hid hl
        have HO8 := hid hown8
        have HB8 := hid hb8
        have HA8 := hid (HA3.out.on hb8)
        have HAh8 := hid (HAh3.out.on hb8)
        have HOk8 := hid (HOk3.out.on hb8)
        have hz8 := hb8.size
        have hll : l.length ≤ 100 := by
          have := (gm_bd HBy.out hlen false (S := []) (fun q hq => by cases hq)).len p (by have := (readP_facts HI.out).1; omega)
          rw [hl] at this
          omega
        have HQ := hid (show ∀ k (h : k < l.length), ∃ q : Nat, l[k] = (q : Int) ∧ (toL (Gm code false) p)[k]? = some q from fun k h => by
          have h1 : l[k] ∈ Gm code false p := by rw [hl]; exact List.getElem_mem h
          have h2 := HNn.out _ h1
          refine ⟨l[k].toNat, by omega, ?_⟩
          unfold toL
          rw [hl, List.getElem?_map, List.getElem?_eq_getElem h]
          rfl)
        have HQl := hid (show (toL (Gm code false) p).length = l.length by unfold toL; rw [List.length_map, hl])
        clear hown8 hb8 hl r0 r1 r2
        go_wp2_with fail
        go_loopw [38] (fun y wr => ∃ k : Nat, y = .int .i64 k ∧ k ≤ l.length ∧ HfRel gah gok bh (c, es) (toL (Gm code false) p) w8 k wr) (fun y _ => l.length - (intOf y).toNat)
        case atStart => exact ⟨0, rfl, by omega, ⟨HAh8.out, HOk8.out, Only.refl _ _⟩⟩
        case round =>
          obtain ⟨k, rfl, hk, hrel⟩ := hrel
          have HR9 := hid hrel
          have hz9 := hrel.only.size
          have hno2 : ∀ b, (Value.slice s8 l.length c8).ownBlock = some b → ¬ (b = gah ∨ b = gok) := fun b hb h => by
            have h1 := (HO8.out.lt b hb).1
            have h2 := HAh3.out.lt
            have h3 := HOk3.out.lt
            rcases h with h | h <;> omega
          have HO9 := hid (own_only HO8.out hno2 hrel.only)
          clear hrel hno2
          by_cases hlt : k < l.length
          case neg =>
            obtain rfl : k = l.length := by omega
            have hfin : ((toL (Gm code false) p).take l.length).foldl (stepE bh) (c, es) = heldE code a (ms ++ [p]) := by
              rw [List.take_of_length_le (by rw [HQl.out]; exact Nat.le_refl _)]
              have h1 := HVis.out
              rw [HSe.out] at h1
              simp only at h1
              rw [HH0.out, HBh.out, HMy.out, HC.out] at h1
              exact h1.symm
            have HFin := hid hfin
            clear hfin
            go_wp2_with fail
            go_ret
            have hA := HR9.out.ah
            have hO := HR9.out.ok
            rw [HFin.out] at hA hO
            have ho08 : Only (fun k => k = gah ∨ k = gok) w w8 := (Only.of_below HB2.out).trans ((HO3.out.mono (fun _ h => .inr h)).trans (.of_below HB8.out))
            refine ⟨_, rfl, by rw [HGl.out]; exact Rd.of_own HO9.out, fun b hb => ?_, ⟨HSt.out.T, hA, hO, HSt.out.only.trans (ho08.trans HR9.out.only), ?_⟩, ho08.trans HR9.out.only⟩
            · have := (HO9.out.lt b hb).1
              have := HB2.out.size
              omega
            · rw [List.length_append, List.length_singleton]
              have h1 := HVis.out
              rw [h1, HSe.out]
              simp only
              rw [HH0.out, HBh.out]
              have hb0 := HSt.out.bd
              rw [HSe.out] at hb0
              refine hb0.fold ?_ _ _
              have h2 := HBl.out
              have h3 := HRb.out
              have h4 := HBh.out
              omega
          obtain ⟨q, hq1, hq2⟩ := HQ.out k hlt
          have HQ2 := hid hq2
          obtain ⟨_, _, he, hcs⟩ := Rd.of_own HO9.out
          cases he
          rcases hcs with h | ⟨g8, o8, rfl, hg8, hcs⟩
          · subst h; simp at hlt
          have hnc := hcs k hlt
          rw [show l.getD k 0 = (q : Int) by simp [hlt, hq1]] at hnc
          obtain ⟨⟨b1, es1⟩, hs1⟩ : ∃ s, ((toL (Gm code false) p).take k).foldl (stepE bh) (c, es) = s := ⟨_, rfl⟩
          have hah := HR9.out.ah
          have hok := HR9.out.ok
          rw [hs1] at hah hok
          simp only at hah hok
          have HS1 := hid hs1
          have HAh9 := hid hah
          have HOk9 := hid hok
          have HA9 := hid (row_only HA8.out (fun h => by have := HN.out.2.2.2.1; omega) HR9.out.only)
          have a0 := HA9.out.cell 0
          simp at a0
          have hlk := run_look_i hah q
          obtain ⟨lk, hlk2⟩ : ∃ o, lookE es1 q = o := ⟨_, rfl⟩
          rw [hlk2] at hlk
          simp only [encI] at hlk
          have HLk := hid hlk2
          have o0 := HOk9.out.cell 0
          have of_ := HOk9.out.free
          simp at o0
          obtain ⟨wo, rfl⟩ : ∃ y : World, y = wr := ⟨_, rfl⟩
          clear hcs hq1 hq2 hs1 hah hok hlk2
          go_upto_region 8 with fail
          clear hlk
          go_cut [] (fun wx => Row wx gok 4 #[.bool (b1 && agreeE lk bh)] ∧ Only (fun k => k = gok) wo wx)
          case first =>
            cases b1
            · go_wp2_with fail
              go_meet
              exact ⟨HOk9.out.set 0 (.bool false), (Only.refl (fun k => k = gok) wo).setCell (g := gok) rfl 0 _⟩
            · cases lk with
              | none =>
                try simp only [Option.isSome_none, Option.getD_none]
                go_wp2_with fail
                go_meet
                exact ⟨HOk9.out.set 0 (.bool true), (Only.refl (fun k => k = gok) wo).setCell (g := gok) rfl 0 _⟩
              | some y =>
                try simp only [Option.isSome_some, Option.getD_some]
                by_cases hyb : y = bh
                · have hyb2 : (y == bh) = true := by simpa using hyb
                  have HAg := hid (show agreeE (some y) bh = true by simp [agreeE, hyb])
                  clear hyb
                  go_wp2_with fail
                  go_meet
                  rw [HAg.out]
                  exact ⟨HOk9.out.set 0 (.bool true), (Only.refl (fun k => k = gok) wo).setCell (g := gok) rfl 0 _⟩
                · have hyb2 : (y == bh) = false := by simpa using hyb
                  have HAg := hid (show agreeE (some y) bh = false by simp [agreeE, hyb])
                  clear hyb
                  go_wp2_with fail
                  go_meet
                  rw [HAg.out]
                  exact ⟨HOk9.out.set 0 (.bool false), (Only.refl (fun k => k = gok) wo).setCell (g := gok) rfl 0 _⟩
          case rest =>
            obtain ⟨hok10, ho10⟩ := hcut
            generalize wc = w10 at hok10 ho10 ⊢
            have HOk10 := hid hok10
            have HO10 := hid ho10
            have HAh10 := hid (HAh9.out.only HN.out.2.2.2.2 ho10)
            have HA10 := hid (row_only HA9.out (fun h => by have := HN.out.2.2.2.1; omega) ho10)
            have a1 := HA10.out.cell 0
            simp at a1
            have hput := run_put_i HAh10.out q bh
            rw [show encI bh = .int .i64 bh from rfl] at hput
            clear hok10 ho10 o0 of_ a0 hnc
            go_upto_region 10 with fail
            clear hput a1
            have hm11 := setE_at HAh10.out.lt encI (putE es1 q bh)
            have ho11 := setE_only w10 gah encI (putE es1 q bh)
            generalize setE w10 gah encI (putE es1 q bh) = w11 at hm11 ho11 ⊢
            have HM11 := hid hm11
            have HO11 := hid ho11
            clear hm11 ho11
            go_wp2_with fail
            go_roundw
            case rel =>
              have hlt2 : k < (toL (Gm code false) p).length := by rw [HQl.out]; exact hlt
              have hqk : (toL (Gm code false) p)[k] = q := by
                have := HQ2.out
                rw [List.getElem?_eq_getElem hlt2] at this
                exact Option.some.inj this
              have hst : ((toL (Gm code false) p).take (k + 1)).foldl (stepE bh) (c, es) = (b1 && agreeE lk bh, putE es1 q bh) := by
                rw [foldl_take_succ _ _ _ _ hlt2, HS1.out, hqk]
                unfold stepE
                rw [HLk.out]
              refine ⟨k + 1, by go_num, by omega, ⟨by rw [hst]; exact HM11.out, by rw [hst]; exact row_only HOk10.out (fun h => HN.out.2.2.2.2 h.symm) HO11.out, HR9.out.only.trans ((HO10.out.mono (fun _ h => .inr h)).trans (HO11.out.mono (fun _ h => .inl h)))⟩⟩
            case measure => simp [intOf]; omega
end Go.Proofs.YtihhpgklpichgaaGreat.Wk
/- Heights of the program: heights, routine, routineOf. -/
namespace Go.Proofs.YtihhpgklpichgaaGreat.Wk
open Go.RowKit Pl Ft Mm In C2 Im Sw Gp

theorem heights_leads (code : List Int) (ac : Option Addr) (cc : Nat) (lb : Value) (gw gm gr gao gah gok : Nat) (at_ : Int) (sv : Option Addr) (nv cv : Nat) (ms0 : List Nat) (a : Nat) (w00 wS : World)
    (hr : Rd w00 (.slice ac code.length cc) code) (hb00 : Below w00.heap.size w00 wS) (g1 : w00.heap.size ≤ gah) (g2 : w00.heap.size ≤ gok) (hcap : code.length ≤ cc) (hby : code.all isByte = true) (hlen : code.length ≤ 2000)
    (hw : Row wS gw 88 #[.slice ac code.length cc, .map (some gm), lb]) (hm : MapAt wS gm code ms0) (hrt : Row wS gr 77 #[.pointer (some ⟨gw, 0, none⟩), .int .i64 at_, .slice sv nv cv]) (hao : Row wS gao 130 #[.map (some gah)])
    (n1 : gw ≠ gah ∧ gw ≠ gok) (n2 : gm ≠ gah ∧ gm ≠ gok) (n3 : gr ≠ gah ∧ gr ≠ gok) (n4 : gao ≠ gah ∧ gao ≠ gok) (n5 : gah ≠ gok) (l1 : gah < wS.heap.size) (l2 : gok < wS.heap.size) (hS : Snd code a) (hms0 : ∀ q, Rc (Gm code false) [(a : Int)] q → q ∈ ms0) (hGB : GBd (Gm code false) [(a : Int)] 100000 10) :
    LeadsF (toL (Gm code false)) [a] 100001 117 #[] #[.pointer (some ⟨gr, 0, none⟩), .pointer (some ⟨gao, 0, none⟩), .pointer (some ⟨gok, 0, none⟩)] (fun ms T w => HtSt code a gah gao gok wS ms T w ∧ ms.Nodup ∧ ∀ q ∈ ms, q < 100001) where
  call ms T p w hI hp hn hav _ := by
    have hrc := (rc_av hGB p).2 (by simpa using hav)
    obtain ⟨i, hi⟩ := Option.isSome_iff_exists.1 (hS.rd p hrc)
    refine (heightsFn_c code ac cc lb gw gm gr gao gah gok at_ sv nv cv ms0 a w00 wS ms T p i w hr hb00 g1 g2 hcap hby hlen hw hm hrt hao n1 n2 n3 n4 n5 hI.1 (hms0 p hrc) hi (hS.nn p) (by have := nodup_le _ ms hI.2.1 hI.2.2; omega)).mono ?_
    rintro e w' ⟨v, rfl, hrd, hv, hst, ho⟩
    have hsz := hI.1.only.size
    refine ⟨v, T, rfl, by rw [show natI (toL (Gm code false) p) = Gm code false p from natI_toN (fun q hq => hS.nn p q hq)]; exact hrd, fun k hk => ⟨hv k hk, fun h => ?_⟩, ⟨hst, snoc_nodup hI.2.1 hn, snoc_lt hI.2.2 hp⟩, fun k hk => .inl hk, ho.mono (fun k hk => ?_)⟩
    · rw [hI.1.T] at h
      have := hv k hk
      omega
    · rw [hI.1.T]
      rcases hk with rfl | rfl <;> assumption
  enter xs w := by kernel_rfl
  on ms T w w' z hI hz ho := by
    obtain ⟨hst, hnd⟩ := hI
    have hT : ∀ k, k < wS.heap.size → ¬ z k := fun k hk h => hz k h (by rw [hst.T]; exact hk)
    exact ⟨⟨hst.T, hst.ah.only (hT _ l1) ho, row_only hst.ok (hT _ l2) ho, only_mix hst.only ho (fun k hk => by
      rcases Nat.lt_or_ge k wS.heap.size with h | h
      · exact absurd hk (hT k h)
      · exact .inr h), hst.bd⟩, hnd⟩
  lt ms T w hI k hk := by
    have h := hI.1.T
    rw [h] at hk
    exact Nat.lt_of_lt_of_le hk hI.1.only.size
  len p hp := by
    unfold toL
    rw [List.length_map]
    have := hGB.len p (by omega)
    omega
structure HlRel (code : List Int) (a : Nat) (rl : List Int) (w7 : World) (j : Nat) (xs : List Int) (v : Value) (wr : World) : Prop where
  xs_ : xs = (rl.take j).map (fun x => hgt code a x.toNat)
  own : wr.ownsRow w7.heap.size 3 1 v xs.length (ints xs)
  bel : Below w7.heap.size w7 wr
set_option maxRecDepth 100000 in
set_option maxHeartbeats 4000000 in
theorem heights_c (code : List Int) (ac : Option Addr) (cc : Nat) (lb : Value) (gw gm : Nat) (sv : Option Addr) (cv : Nat) (ms0 : List Nat) (a : Nat) (w : World)
    (hr : Rd w (.slice ac code.length cc) code) (hcap : code.length ≤ cc) (hby : code.all isByte = true) (hlen : code.length ≤ 2000) (hal : a < code.length)
    (hw : Row w gw 88 #[.slice ac code.length cc, .map (some gm), lb]) (hm : MapAt w gm code ms0) (hS : Snd code a) (hms0 : ∀ q, Rc (Gm code false) [(a : Int)] q → q ∈ ms0) (hpl : Rd w (.slice sv (reachL code [(a : Int)] false).length cv) (reachL code [(a : Int)] false)) :
    Calls Tryz.prog 73 #[.agg #[.pointer (some ⟨gw, 0, none⟩), .int .i64 a, .slice sv (reachL code [(a : Int)] false).length cv]] w (TabPost (heightsO code a) w) := by
  have HRd := hid hr
  have HBy := hid hby
  have HSn := hid hS
  have HMs := hid hms0
  obtain ⟨rl, hrl⟩ : ∃ l, reachL code [(a : Int)] false = l := ⟨_, rfl⟩
  rw [hrl] at hpl ⊢
  have HRl := hid hrl
  have HPl := hid hpl
  have hrlen : rl.length ≤ 2000 := by rw [← hrl]; have := reachL_len code [(a : Int)] false; omega
  obtain ⟨w1, hw1, hr1, hb1, hz1⟩ := new_ex w 77 #[.pointer (some ⟨gw, 0, none⟩), .int .i64 a, .slice sv rl.length cv]
  obtain ⟨w2, hw2, he2, hb2, hz2⟩ : ∃ w2, w1.alloc (.map #[] 0) = w2 ∧ EAt w2 w1.heap.size encI [] ∧ Below w1.heap.size w1 w2 ∧ w1.heap.size < w2.heap.size := ⟨_, rfl, eAt_new encI w1, (Below.refl _ _).alloc (Nat.le_refl _) _, by simp⟩
  have hput := run_put_i he2 a 0
  rw [show encI 0 = .int .i64 0 from rfl] at hput
  have he3 := setE_at he2.lt encI (putE [] a 0)
  have ho3 := setE_only w2 w1.heap.size encI (putE [] a 0)
  obtain ⟨w3, hw3⟩ : ∃ w3, setE w2 w1.heap.size encI (putE [] a 0) = w3 := ⟨_, rfl⟩
  rw [hw3] at hput he3 ho3
  obtain ⟨w4, hw4, hr4, hb4, hz4⟩ := new_ex w3 130 #[.map (some w1.heap.size)]
  obtain ⟨w5, hw5, hr5, hb5, hz5⟩ := new_ex w4 4 #[.bool true]
  obtain ⟨w6, hw6, hr6, hb6, hz6⟩ := new_ex w5 3 #[.int .i64 a]
  have hz3 := ho3.size
  have HL6 := hid (show w6.ownsRow w5.heap.size 3 1 (.slice (some ⟨w5.heap.size, 0, none⟩) 1 1) 1 (ints [(a : Int)]) by rw [← hw6]; exact own_lit w5 [(a : Int)] #[.int .i64 a] rfl (by simp) 1 rfl)
  have hb45 := hb4.trans (hb5.mono (Nat.le_of_lt hz4))
  have hb12 := hb1.trans (hb2.mono (Nat.le_of_lt hz1))
  have hb13 := hb12.trans (ho3.below (B := w.heap.size) (by omega) (fun k hk => by omega))
  have HB5 := hid (hb13.trans (hb45.mono (by omega)))
  have HB56 := hid hb6
  have HR5 := hid (show Row w5 w.heap.size 77 _ from ((row_only (hr1.on hb2) (by omega) ho3).on hb45))
  have HAo5 := hid (hr4.on hb5)
  have HE5 := hid (he3.on hb45)
  have HOk5 := hid hr5
  have hmm := @run_makeMap Tryz.prog
  have HZ := hid (show w.heap.size < w1.heap.size ∧ w1.heap.size < w3.heap.size ∧ w3.heap.size < w4.heap.size ∧ w4.heap.size < w5.heap.size from ⟨hz1, by omega, hz4, hz5⟩)
  have HW5 := hid (hw.on HB5.out)
  have HM5 := hid (show MapAt w5 gm code ms0 from hm.on HB5.out)
  have hgw := hw.lt
  have hgm := hm.lt
  have x1 := (hr1.on hb2).cell 1
  have x15 := HR5.out.cell 1
  simp at x1 x15
  clear hr hby hS hms0 hpl hrl hw hm hr1 hb1 he2 hb2 he3 ho3 hr4 hb4 hr5 hb5 hr6 hb6 hb45 hb12 hb13
  go_enter Tryz.func73, Tryz.ntmps73
  go_upto_region 3 with fail
  clear hmm hput
  go_wp2_with fail
  have hGB := gm_bd HBy.out hlen false (S := [(a : Int)]) (fun q hq => by obtain rfl : q = (a : Int) := (by simpa using hq); omega)
  have HGB := hid hGB
  have hgb := gbd_lt hGB
  refine (reached_f [a] _ _ (heights_leads code ac cc lb gw gm w.heap.size w3.heap.size w1.heap.size w4.heap.size a sv rl.length cv ms0 a w w5 HRd.out HB5.out (by omega) (by omega) hcap HBy.out hlen HW5.out HM5.out HR5.out HAo5.out (by omega) (by omega) (by omega) (by omega) (by omega) (by omega) (by omega) HSn.out HMs.out hGB) hgb.1 (by omega) (by simp; omega) (by simp) (Rd.of_own HL6.out) (fun k hk => ?_) (T0 := fun k => k < w5.heap.size) ⟨⟨rfl, HE5.out.on HB56.out, HOk5.out.on HB56.out, .of_below HB56.out, fun e he => ?_⟩, List.nodup_nil, fun q hq => by cases hq⟩).mono ?_
  · have h1 := HL6.out.lt k hk
    exact ⟨h1.2, fun h => by have := h1.1; omega⟩
  · obtain rfl : e = (a, 0) := by simpa [heldE] using he
    simp
  rintro e w7 ⟨ms, lf, v7, T, rfl, hd, hown7, ⟨hst, hnd, _⟩, _⟩
  have hmem := dfs_rc HGB.out (S := [(a : Int)]) hd
  have hmet := dfs_met hd (S := [a]) (fun k h => by cases h) (fun q hq => .inl hq)
  have hheld := held_ok HSn.out.rd HSn.out.nn hmet hmem
  obtain ⟨s7, c7, rfl⟩ := own_slice hown7
  have HE7 := hid hst.ah
  have HOk7 := hid hst.ok
  have ho57 := hst.only
  have HAo7 := hid (row_only HAo5.out (by omega) ho57)
  have HR7 := hid (row_only HR5.out (by omega) ho57)
  have HB7 := hid (HB5.out.trans (ho57.below HB5.out.size (fun k hk => by rcases hk with rfl | rfl <;> omega)))
  obtain ⟨⟨b, es⟩, hse⟩ : ∃ s, heldE code a ms = s := ⟨_, rfl⟩
  rw [hse] at hheld HE7 HOk7
  simp only at hheld HE7 HOk7
  have hb := hheld.1
  have HHt := hid hheld.2
  have o0 := HOk7.out.cell 0
  simp at o0
  have HMem := hid hmem
  clear hd hown7 hmem hmet hheld hst hnd ho57 hse hGB hgb x1 x15 hw1 hw2 hw3 hw4 hw5 hw6
  cases b with
  | false =>
    have HNot := hid (show heightsO code a = none from by unfold heightsO; rw [← hb]; rfl)
    clear hb
    go_wp2_with fail
    go_ret2
    rw [HNot.out]
    exact ⟨_, rfl, World.ownsRow_nil _ _ _ _, HB7.out⟩
  | true =>
    have hok : okH code a := by
      unfold pdec at hb
      exact @of_decide_eq_true _ (Classical.propDecidable _) hb.symm
    have HYes := hid (heightsO_yes hok)
    have HHg := hid (HHt.out hok)
    have y2 := HR7.out.cell 2
    simp at y2
    have HFr := hid (show ∀ x ∈ rl, ∃ q : Nat, x = (q : Int) ∧ lookE es q = some (hgt code a q) from fun x hx => by
      rw [← HRl.out] at hx
      obtain ⟨q, rfl, hrc, _⟩ := mem_rl.1 hx
      exact ⟨q, rfl, HHg.out q ((HMem.out q).2 hrc)⟩)
    have HPl7 := hid (HPl.out.on HB7.out)
    have hz7 := HB7.out.size
    clear hb hok
    go_wp2_with fail
    go_loopw [6, 23] (fun v c wr => ∃ (j : Nat) (xs : List Int), c = .int .i64 j ∧ j ≤ rl.length ∧ HlRel code a rl w7 j xs v wr) (fun _ c _ => rl.length - (intOf c).toNat)
    case atStart => exact ⟨0, [], rfl, by omega, ⟨rfl, World.ownsRow_nil _ _ _ _, Below.refl _ _⟩⟩
    case round =>
      obtain ⟨j, xs, rfl, hj, hrel⟩ := hrel
      have HX := hid hrel.xs_
      have HOx := hid hrel.own
      have HBx := hid hrel.bel
      have hzx := hrel.bel.size
      have hxl : xs.length ≤ j := by rw [hrel.xs_, List.length_map, List.length_take]; omega
      have hrd := HPl7.out.on hrel.bel
      have hae := HE7.out.on hrel.bel
      have HA9 := hid (HAo7.out.on hrel.bel)
      have a0 := HA9.out.cell 0
      simp at a0
      obtain ⟨sx, cx, rfl⟩ := own_slice hrel.own
      clear hrel
      by_cases hlj : j < rl.length
      · obtain ⟨q, hq1, hq2⟩ := HFr.out rl[j] (List.getElem_mem hlj)
        obtain ⟨_, _, he, hcs⟩ := hrd
        cases he
        rcases hcs with h | ⟨g2, o2, rfl, hg2, hcs⟩
        · subst h; simp at hlj
        have q0 := hcs j hlj
        rw [show rl.getD j 0 = (q : Int) by simp [hlj, hq1]] at q0
        have hget := run_get_i hae q
        rw [hq2, Option.getD_some] at hget
        simp only [encI] at hget
        have HT := hid (show (rl.take (j + 1)).map (fun x => hgt code a x.toNat) = xs ++ [hgt code a q] from by
          rw [List.take_succ_eq_append_getElem hlj, List.map_append, ← HX.out, hq1]
          simp only [List.map_cons, List.map_nil, Int.toNat_natCast])
        obtain ⟨y, hy⟩ : ∃ y, hgt code a q = y := ⟨_, rfl⟩
        rw [hy] at hget HT
        have hA : xs.length + [y].length ≤ 1000000000 := by simp only [List.length_singleton]; omega
        have HA10 := hid hA
        have HB10 := hid (show w7.heap.size ≤ (wr.alloc (.cells #[.int .i64 y] 3)).heap.size by simp only [World.size_alloc]; omega)
        clear hcs hae hq1 hq2 hy hA
        go_wp2_with (at_builtin; refine app_ints _ rfl _ _ rfl w7.heap.size xs [y] _ rfl (HOx.out.alloc _) _ _ _ rfl rfl (SrcAt.at_ _ [y] #[.int .i64 y] _ 1 rfl (by simp) rfl) HA10.out HB10.out ?_)
        intro v2 w8 hg8
        have HO8 := hid hg8.own
        have HB8 := hid ((HBx.out.alloc HBx.out.size (.cells #[.int .i64 y] 3)).trans hg8.bel)
        obtain ⟨s8, c8, rfl⟩ := own_slice hg8.own
        clear hg8 hget q0
        go_wp2_with fail
        go_roundw
        case rel => exact ⟨j + 1, xs ++ [y], by go_num, by omega, ⟨HT.out.symm, HO8.out, HB8.out⟩⟩
        case measure => simp [intOf]; omega
      · obtain rfl : j = rl.length := by omega
        have HX2 := HX.out
        rw [List.take_length] at HX2
        clear hrd hae
        go_wp2_with fail
        go_ret2
        rw [HYes.out, HRl.out]
        refine ⟨_, rfl, ?_, HB7.out.trans (HBx.out.mono hz7)⟩
        simp only [Option.getD_some]
        rw [← HX2]
        exact own_mono HOx.out hz7
end Go.Proofs.YtihhpgklpichgaaGreat.Wk
/- routine, routineOf, HeightsOf of the program and of the model. -/
namespace Go.Proofs.YtihhpgklpichgaaGreat.Wk
open Go.RowKit Pl Ft Mm In C2 Im Sw Gp

theorem size_rt : (Tryz.prog.info? 77).map (·.size) = some 3 := by kernel_rfl
def RtPost (code : List Int) (gw a : Nat) (w : World) (e : Ending) (w' : World) : Prop :=
  ∃ sv cv, e = .returned (.agg #[.pointer (some ⟨gw, 0, none⟩), .int .i64 a, .slice sv (reachL code [(a : Int)] false).length cv]) ∧ w'.ownsRow w.heap.size 3 1 (.slice sv (reachL code [(a : Int)] false).length cv) (reachL code [(a : Int)] false).length (ints (reachL code [(a : Int)] false)) ∧ Below w.heap.size w w'
set_option maxRecDepth 100000 in
set_option maxHeartbeats 4000000 in
theorem routine_c (code : List Int) (ac : Option Addr) (cc : Nat) (lb : Value) (gw gm a : Nat) (sl : Option Addr) (fn cl : Nat) (ms0 : List Nat) (w : World) (hr : Rd w (.slice ac code.length cc) code) (hcap : code.length ≤ cc) (hby : code.all isByte = true) (hlen : code.length ≤ 2000) (hat : a ≤ 2000)
    (hw : Row w gw 88 #[.slice ac code.length cc, .map (some gm), lb]) (hm : MapAt w gm code ms0) (hms0 : ∀ p, Rc (Gm code false) [(a : Int)] p → (p ∈ ms0 ↔ (readP code p).isSome = true)) :
    Calls Tryz.prog 77 #[.agg #[.pointer (some ⟨gw, 0, none⟩), .slice sl fn cl], .int .i64 a] w (RtPost code gw a w) := by
  have HRd := hid hr
  have HBy := hid hby
  have HMs := hid hms0
  unfold RtPost
  obtain ⟨rl, hrl⟩ : ∃ l, reachL code [(a : Int)] false = l := ⟨_, rfl⟩
  rw [hrl]
  have HRl := hid hrl
  obtain ⟨w1, hw1, hr1, hb1, hz1⟩ := new_ex w 59 #[.pointer (some ⟨gw, 0, none⟩), .slice sl fn cl]
  obtain ⟨w2, hw2, hr2, hb2, hz2⟩ := new_ex w1 77 #[.pointer none, .int .i64 0, .slice none 0 0]
  have HB2 := hid (hb1.trans (hb2.mono (Nat.le_of_lt hz1)))
  have HF2 := hid (hr1.on hb2)
  have HR2 := hid hr2
  have HW2 := hid (hw.on HB2.out)
  have HM2 := hid (show MapAt w2 gm code ms0 from hm.on HB2.out)
  have HZ := hid (show w.heap.size < w1.heap.size ∧ w1.heap.size < w2.heap.size from ⟨hz1, hz2⟩)
  have y0 := HF2.out.cell 0
  simp at y0
  clear hr hby hw hm hms0 hr1 hb1 hr2 hb2 hrl
  go_enter Tryz.func77, Tryz.ntmps77
  go_upto_region 1 with fail
  try rw [hw1]
  try rw [hw2]
  clear hw1 hw2
  obtain ⟨g1, hg1⟩ : ∃ g, w1.heap.size = g := ⟨_, rfl⟩
  rw [hg1] at HR2 HZ
  try rw [hg1]
  clear hz1 hz2 hg1
  go_region_with (go_at_call 57; refine (body_c code ac cc lb gw gm a ms0 _ (HRd.out.on (HB2.out.trans (((Below.refl w2.heap.size w2).drew).mono HB2.out.size))) hcap HBy.out hlen hat HW2.out.drew (show MapAt w2.drew gm code ms0 from HM2.out) HMs.out).mono ?_; rintro e w3 ⟨v3, rfl, hown3, hb3⟩; rw [HRl.out] at hown3; have HO3 := hid hown3; have HB3 := hid (((Below.refl w2.heap.size w2).drew).trans hb3); have HF3 := hid (HF2.out.on HB3.out); have HR3 := hid (HR2.out.on HB3.out); have z0 := HF3.out.cell 0; have rf := HR3.out.free; have q0 := HR3.out.cell 0; have q1 := HR3.out.cell 1; have q2 := HR3.out.cell 2; simp at z0 q0 q1 q2; obtain ⟨s3, c3, rfl⟩ := own_slice hown3; clear hown3 hb3)
  all_goals
    go_wp2_with fail
    refine bodyPost_ret (v := .agg #[.pointer (some ⟨gw, 0, none⟩), .int .i64 a, .slice s3 rl.length c3]) ?_ rfl ?_
    · exact results_cell_row Tryz.results77 _ _ g1 77 #[.pointer (some ⟨gw, 0, none⟩), .int .i64 a, .slice s3 rl.length c3] (0, 0) _ rfl (((HR3.out.set 0 (.pointer (some ⟨gw, 0, none⟩))).set 1 (.int .i64 a)).set 2 (.slice s3 rl.length c3)) Tryz.underlying77 rfl size_rt
    have hz3 := HB3.out.size
    have hne : ∀ b, (Value.slice s3 rl.length c3).ownBlock = some b → b ≠ g1 := fun b hb => by have h1 := (HO3.out.lt b hb).1; have h2 := HZ.out.2; have h3 : w2.drew.heap.size = w2.heap.size := rfl; omega
    have hbb : w.heap.size ≤ g1 := by have := HZ.out; omega
    exact ⟨_, _, rfl, own_mono (own_far (own_far (own_far HO3.out (p := ⟨g1, 0, none⟩) hne _) (p := ⟨g1, 1, none⟩) hne _) (p := ⟨g1, 2, none⟩) hne _) (by have := HZ.out; have h3 : w2.drew.heap.size = w2.heap.size := rfl; omega), (((HB2.out.trans (HB3.out.mono HB2.out.size)).setCell (p := ⟨g1, 0, none⟩) hbb _).setCell (p := ⟨g1, 1, none⟩) hbb _).setCell (p := ⟨g1, 2, none⟩) hbb _⟩
/-- A function of a sound image. -/
noncomputable def isSf (m : Img) (x : Int) : Bool := isFunP m x && !(lostG m.code (Gw m.code) [m.entry])
def RoNo (w : World) (e : Ending) (w' : World) : Prop := e = .returned (.tuple #[.agg #[.pointer none, .int .i64 0, .slice none 0 0], .bool false]) ∧ Below w.heap.size w w'
def RoYes (m : Img) (vc : Value) (a : Nat) (w : World) (e : Ending) (w' : World) : Prop :=
  ∃ (gw gm : Nat) (ms : List Nat) (b : Bool) (sv : Option Addr) (cv : Nat), e = .returned (.tuple #[.agg #[.pointer (some ⟨gw, 0, none⟩), .int .i64 a, .slice sv (reachL m.code [(a : Int)] false).length cv], .bool true]) ∧ Row w' gw 88 #[vc, .map (some gm), .bool b] ∧ MapAt w' gm m.code (insOf m.code ms) ∧ (∀ p, p ∈ ms ↔ Rc (Gw m.code) [m.entry] p) ∧
    Rd w' (.slice sv (reachL m.code [(a : Int)] false).length cv) (reachL m.code [(a : Int)] false) ∧ Below w.heap.size w w'
theorem sf_snd {m : Img} {a : Nat} (h : isSf m a = true) : imageOk m = true ∧ (a : Int) ∈ funsL m ∧ lostG m.code (Gw m.code) [m.entry] = false ∧ Snd m.code a ∧ a < m.code.length := by
  unfold isSf isFunP at h
  have h1 := (Bool.and_eq_true_iff.1 (Bool.and_eq_true_iff.1 h).1)
  have hl : lostG m.code (Gw m.code) [m.entry] = false := by simpa using (Bool.and_eq_true_iff.1 h).2
  have hx : (a : Int) ∈ funsL m := of_decide_eq_true h1.2
  obtain ⟨p, hp, hpl, hrc⟩ := funs_rc h1.1 hx
  obtain rfl : a = p := by omega
  have hbd := imageOk_bd h1.1
  refine ⟨h1.1, hx, hl, ⟨fun q hq => ?_, fun q r hr => ?_⟩, hpl⟩
  · have hq2 := rc_sub hrc hq
    cases hr : readP m.code q with
    | some i => rfl
    | none =>
      have : lostG m.code (Gw m.code) [m.entry] = true := by
        unfold lostG
        exact pdec_yes ⟨q, (Rc.congr (fun p q => gm_gw)).1 hq2, by unfold badAt; rw [hr]⟩
      rw [hl] at this
      cases this
  · have h0 := gm_bd hbd.cb hbd.c1 false (S := []) (fun q hq => by cases hq)
    cases hi : readP m.code q with
    | none => unfold Gm at hr; rw [hi] at hr; cases hr
    | some i => exact (h0.bd q (by have := (readP_facts hi).1; have := hbd.c1; omega) r hr).1
set_option maxRecDepth 100000 in
set_option maxHeartbeats 4000000 in
theorem routineOf_no (m : Img) (vc vd vn : Value) (x : Int) (w : World) (h : ICells w vc vd vn m) (hs : Sm m) (hcc : ∀ a n c, vc = .slice a n c → n ≤ c) (hf : isSf m x = false) :
    Calls Tryz.prog 69 #[imgVal vc vd vn m, .int .i64 x] w (RoNo w) := by
  obtain ⟨ac, cc, rfl⟩ := rd_slice h.c
  obtain ⟨ad, cd, rfl⟩ := rd_slice h.d
  obtain ⟨an, cn, rfl⟩ := nrd_slice h.n
  have HI := hid h
  have HS := hid hs
  have HCap := hid hcc
  have HF := hid hf
  clear h hs hcc hf
  have hV : imgVal (.slice ac m.code.length cc) (.slice ad m.data.length cd) (.slice an m.names.length cn) m = .agg #[.slice ac m.code.length cc, .int .i64 m.entry, .int .i64 m.room, .slice ad m.data.length cd, .slice an m.names.length cn] := rfl
  have HV := hid hV
  rw [hV]
  clear hV
  obtain ⟨w0, hw0, hr0, hb0, hz0⟩ := new_ex w 30 #[.slice ac m.code.length cc, .int .i64 m.entry, .int .i64 m.room, .slice ad m.data.length cd, .slice an m.names.length cn]
  obtain ⟨w1, hw1, hr1, hb1, hz1⟩ := new_ex w0 77 #[.pointer none, .int .i64 0, .slice none 0 0]
  have HB1 := hid (hb0.trans (hb1.mono (Nat.le_of_lt hz0)))
  have HR1 := hid hr1
  have HX1 := hid (hr0.on hb1)
  have x0 := HX1.out.cell 0
  have x1 := HX1.out.cell 1
  have x2 := HX1.out.cell 2
  have x3 := HX1.out.cell 3
  have x4 := HX1.out.cell 4
  simp at x0 x1 x2 x3 x4
  clear hr0 hb0 hr1 hb1
  go_enter Tryz.func69, Tryz.ntmps69
  go_wp2_with fail
  try clear hw0 hw1
  obtain ⟨g1, hg1⟩ : ∃ g, w0.heap.size = g := ⟨_, rfl⟩
  have HG := hid (show w.heap.size < g1 ∧ g1 < w1.heap.size by omega)
  rw [hg1] at HR1
  try rw [hg1]
  clear hg1 hz0 hz1 x0 x1 x2 x3 x4
  rw [← HV.out]
  cases h1 : isFunP m x
  · refine (funsWith_no m _ _ _ x w1 (HI.out.on HB1.out) HS.out HCap.out h1).mono ?_
    rintro e w2 ⟨rfl, hb2⟩
    clear h1
    have HB3 := hid (HB1.out.trans (hb2.mono HB1.out.size))
    have HR3 := hid (HR1.out.on hb2)
    have hlt2 := HR3.out.lt
    have z0 := HR3.out.cell 0
    have z1 := HR3.out.cell 1
    have z2 := HR3.out.cell 2
    have hf := HR3.out.free
    simp at z0 z1 z2
    clear hb2
    go_wp2_with fail
    clear z0 z1 z2 hf
    refine bodyPost_ret (v := .tuple #[.agg #[.pointer none, .int .i64 0, .slice none 0 0], .bool false]) ?_ rfl ?_
    · exact res_cell_tmp Tryz.results69 _ _ g1 #[.pointer none, .int .i64 0, .slice none 0 0] _ rfl ((((HR3.out.set 0 (.pointer none)).set 1 (.int .i64 0)).set 2 (.slice none 0 0)).alloc (.cells #[.pointer none, .slice none 0 0] 59)) Tryz.underlying77 size_rt
    have hg := HG.out
    exact ⟨rfl, (((HB3.out.setCell (p := ⟨g1, 0, none⟩) (by simp only; omega) _).setCell (p := ⟨g1, 1, none⟩) (by simp only; omega) _).setCell (p := ⟨g1, 2, none⟩) (by simp only; omega) _).alloc (by simp [World.setCell]; exact HB3.out.size) _⟩
  · have h2 : imageOk m = true := by unfold isFunP at h1; exact (Bool.and_eq_true_iff.1 h1).1
    have hx : x ∈ funsL m := by unfold isFunP at h1; exact of_decide_eq_true (Bool.and_eq_true_iff.1 h1).2
    have hl : lostG m.code (Gw m.code) [m.entry] = true := by have := HF.out; unfold isSf at this; rw [h1] at this; simpa using this
    refine (funsWith_yes m _ _ _ x w1 (HI.out.on HB1.out) HS.out HCap.out h2 hx).mono ?_
    rintro e w2 ⟨gw, gm, ms, vl, rfl, hrow, hmap, hmem, ⟨sl, cl, rfl⟩, hb2⟩
    rw [lostIn_eq hmem, hl] at hrow
    obtain ⟨fn, hfn⟩ : ∃ k, (funsL m).length = k := ⟨_, rfl⟩
    rw [hfn]
    obtain ⟨w3, hw3, hr3, hb3, _⟩ := new_ex w2 59 #[.pointer (some ⟨gw, 0, none⟩), .slice sl fn cl]
    have HB3 := hid (HB1.out.trans ((hb2.trans (hb3.mono hb2.size)).mono HB1.out.size))
    have HR3 := hid (HR1.out.on (hb2.trans (hb3.mono hb2.size)))
    have HRow := hid (hrow.on hb3)
    have y0 := hr3.cell 0
    have l2 := HRow.out.cell 2
    have z0 := HR3.out.cell 0
    have z1 := HR3.out.cell 1
    have z2 := HR3.out.cell 2
    have hf := HR3.out.free
    simp at y0 l2 z0 z1 z2
    clear hb2 hb3 hr3 h1 h2 hx hl hrow hmap hmem hfn
    go_wp2_with fail
    clear z0 z1 z2 hf y0 l2
    refine bodyPost_ret (v := .tuple #[.agg #[.pointer none, .int .i64 0, .slice none 0 0], .bool false]) ?_ rfl ?_
    · exact res_cell_tmp Tryz.results69 _ _ g1 #[.pointer none, .int .i64 0, .slice none 0 0] _ rfl (((HR3.out.set 0 (.pointer none)).set 1 (.int .i64 0)).set 2 (.slice none 0 0)) Tryz.underlying77 size_rt
    have hg := HG.out
    exact ⟨rfl, ((HB3.out.setCell (p := ⟨g1, 0, none⟩) (by simp only; omega) _).setCell (p := ⟨g1, 1, none⟩) (by simp only; omega) _).setCell (p := ⟨g1, 2, none⟩) (by simp only; omega) _⟩
set_option maxRecDepth 100000 in
set_option maxHeartbeats 4000000 in
theorem routineOf_yes (m : Img) (vc vd vn : Value) (a : Nat) (w : World) (h : ICells w vc vd vn m) (hs : Sm m) (hcc : ∀ a n c, vc = .slice a n c → n ≤ c) (hf : isSf m a = true) :
    Calls Tryz.prog 69 #[imgVal vc vd vn m, .int .i64 a] w (RoYes m vc a w) := by
  obtain ⟨ac, cc, rfl⟩ := rd_slice h.c
  obtain ⟨ad, cd, rfl⟩ := rd_slice h.d
  obtain ⟨an, cn, rfl⟩ := nrd_slice h.n
  have HI := hid h
  have HS := hid hs
  have HCap := hid hcc
  have HSf := hid (sf_snd hf)
  obtain ⟨h1, hx, hl, _, hal⟩ := sf_snd hf
  have HBd := hid (imageOk_bd h1)
  have hl2 := HBd.out.c1
  have hcl : m.code.length ≤ cc := HCap.out _ _ _ rfl
  obtain ⟨p, hp, _, hrc⟩ := funs_rc h1 hx
  obtain rfl : a = p := by omega
  have HRc := hid hrc
  clear h hs hcc hf hp hrc
  have hV : imgVal (.slice ac m.code.length cc) (.slice ad m.data.length cd) (.slice an m.names.length cn) m = .agg #[.slice ac m.code.length cc, .int .i64 m.entry, .int .i64 m.room, .slice ad m.data.length cd, .slice an m.names.length cn] := rfl
  have HV := hid hV
  rw [hV]
  clear hV
  obtain ⟨w0, hw0, hr0, hb0, hz0⟩ := new_ex w 30 #[.slice ac m.code.length cc, .int .i64 m.entry, .int .i64 m.room, .slice ad m.data.length cd, .slice an m.names.length cn]
  obtain ⟨w1, hw1, hr1, hb1, hz1⟩ := new_ex w0 77 #[.pointer none, .int .i64 0, .slice none 0 0]
  have HB1 := hid (hb0.trans (hb1.mono (Nat.le_of_lt hz0)))
  have HR1 := hid hr1
  have HX1 := hid (hr0.on hb1)
  have x0 := HX1.out.cell 0
  have x1 := HX1.out.cell 1
  have x2 := HX1.out.cell 2
  have x3 := HX1.out.cell 3
  have x4 := HX1.out.cell 4
  simp at x0 x1 x2 x3 x4
  clear hr0 hb0 hr1 hb1
  go_enter Tryz.func69, Tryz.ntmps69
  go_wp2_with fail
  try clear hw0 hw1
  obtain ⟨g1, hg1⟩ : ∃ g, w0.heap.size = g := ⟨_, rfl⟩
  have HG := hid (show w.heap.size < g1 ∧ g1 < w1.heap.size by omega)
  rw [hg1] at HR1
  try rw [hg1]
  clear hg1 hz0 hz1 x0 x1 x2 x3 x4
  rw [← HV.out]
  refine (funsWith_yes m _ _ _ a w1 (HI.out.on HB1.out) HS.out HCap.out h1 hx).mono ?_
  rintro e w2 ⟨gw, gm, ms, vl, rfl, hrow, hmap, hmem, ⟨sl, cl, rfl⟩, hb2⟩
  rw [lostIn_eq hmem, hl] at hrow
  obtain ⟨fn, hfn⟩ : ∃ k, (funsL m).length = k := ⟨_, rfl⟩
  rw [hfn]
  obtain ⟨w3, hw3, hr3, hb3, _⟩ := new_ex w2 59 #[.pointer (some ⟨gw, 0, none⟩), .slice sl fn cl]
  have HB3 := hid (HB1.out.trans ((hb2.trans (hb3.mono hb2.size)).mono HB1.out.size))
  have HR3 := hid (HR1.out.on (hb2.trans (hb3.mono hb2.size)))
  have HRow := hid (hrow.on hb3)
  have HMap := hid (hmap.on hb3)
  have HMem := hid hmem
  have HIn := hid (show ∀ q, Rc (Gm m.code false) [(a : Int)] q → (q ∈ insOf m.code ms ↔ (readP m.code q).isSome = true) from fun q hq => by
    rw [mem_insOf]
    exact ⟨fun h => h.2, fun h => ⟨(gw_gm hmem q).2 (rc_sub HRc.out hq), h⟩⟩)
  have y0 := hr3.cell 0
  have y1 := hr3.cell 1
  have l2 := HRow.out.cell 2
  simp at y0 y1 l2
  clear hb2 hb3 hr3 h1 hx hl hrow hmap hmem hfn
  go_wp2_with fail
  clear y0 y1 l2
  refine (routine_c m.code ac cc _ gw gm a sl fn cl (insOf m.code ms) w3 (HI.out.on HB3.out).c hcl HBd.out.cb hl2 (by omega) HRow.out HMap.out HIn.out).mono ?_
  rintro e w4 ⟨sv, cv, rfl, hown4, hb4⟩
  obtain ⟨rl, hrl⟩ : ∃ l, reachL m.code [(a : Int)] false = l := ⟨_, rfl⟩
  rw [hrl] at hown4 ⊢
  have HRl := hid hrl
  have HO4 := hid hown4
  have HB4 := hid (HB3.out.trans (hb4.mono HB3.out.size))
  have HR4 := hid (HR3.out.on hb4)
  have HRow4 := hid (HRow.out.on hb4)
  have HMap4 := hid (HMap.out.on hb4)
  have z0 := HR4.out.cell 0
  have z1 := HR4.out.cell 1
  have z2 := HR4.out.cell 2
  have hf := HR4.out.free
  have hlt3 := HR3.out.lt
  simp at z0 z1 z2
  clear hown4 hb4 hrl
  go_wp2_with fail
  clear z0 z1 z2 hf
  refine bodyPost_ret (v := .tuple #[.agg #[.pointer (some ⟨gw, 0, none⟩), .int .i64 a, .slice sv rl.length cv], .bool true]) ?_ rfl ?_
  · exact res_cell_tmp Tryz.results69 _ _ g1 #[.pointer (some ⟨gw, 0, none⟩), .int .i64 a, .slice sv rl.length cv] _ rfl (((HR4.out.set 0 (.pointer (some ⟨gw, 0, none⟩))).set 1 (.int .i64 a)).set 2 (.slice sv rl.length cv)) Tryz.underlying77 size_rt
  have hne : gw ≠ g1 := fun h => by
    have h1 := HRow4.out
    rw [h] at h1
    have := h1.symm.trans HR4.out
    simp at this
  have hnm : gm ≠ g1 := fun h => by
    have h1 := HMap4.out
    unfold MapAt at h1
    rw [h] at h1
    have := h1.symm.trans HR4.out
    simp at this
  have hno : ∀ b, (Value.slice sv rl.length cv).ownBlock = some b → b ≠ g1 := fun b hb => by have := (HO4.out.lt b hb).1; omega
  have hg := HG.out
  unfold RoYes
  rw [HRl.out]
  exact ⟨gw, gm, ms, _, sv, cv, rfl, ((HRow4.out.far hne _).far hne _).far hne _, ((HMap4.out.set (by simpa using hnm) _).set (by simpa using hnm) _).set (by simpa using hnm) _, HMem.out, Rd.of_own (own_far (own_far (own_far HO4.out (p := ⟨g1, 0, none⟩) hno _) (p := ⟨g1, 1, none⟩) hno _) (p := ⟨g1, 2, none⟩) hno _), ((HB4.out.setCell (p := ⟨g1, 0, none⟩) (by simp only; omega) _).setCell (p := ⟨g1, 1, none⟩) (by simp only; omega) _).setCell (p := ⟨g1, 2, none⟩) (by simp only; omega) _⟩
end Go.Proofs.YtihhpgklpichgaaGreat.Wk
/- Heights of the model: heights. -/
namespace Go.Proofs.YtihhpgklpichgaaGreat.Wk
open Go.RowKit Pl Ft Mm In C2 Im Sw Gp

set_option maxRecDepth 100000 in
set_option maxHeartbeats 8000000 in
theorem sHeights_c (code : List Int) (a : Nat) (ac : Option Addr) (cc : Nat) (w : World) (hr : Rd w (.slice ac code.length cc) code) (hb : code.all isByte = true) (hlen : code.length ≤ 2000) (hal : a < code.length) (hS : Snd code a) :
    Calls Tryz.prog 72 #[.slice ac code.length cc, .int .i64 a] w (TabPost (heightsO code a) w) := by
  have HRd := hid hr
  have HBy := hid hb
  have HSn := hid hS
  obtain ⟨i0, hi, hz0, hz1, hz2⟩ := info_parts info_int2
  have H0 := hid hz0
  have H1 := hid hz1
  have H2 := hid hz2
  have HI := hid hi
  clear hz0 hz1 hz2 hi hr hb hS
  have HB1 := hid ((Below.refl w.heap.size w).alloc (Nat.le_refl _) (.cells #[.int .i64 a] 3))
  have HRs := hid (Rd.of_own (own_lit w [(a : Int)] #[.int .i64 a] rfl (by simp) 1 rfl))
  go_enter Tryz.func72, Tryz.ntmps72
  go_wp2_with fail
  refine (walk_c code [(a : Int)] false ac _ cc _ _ (HRd.out.on HB1.out) HRs.out HBy.out hlen (by omega) (fun q hq => by obtain rfl : q = (a : Int) := (by simpa using hq); omega) (by simp)).mono ?_
  rintro e w1 ⟨v1, ms, rfl, hown1, hms, hb1⟩
  have HB2 := hid (HB1.out.trans (hb1.mono HB1.out.size))
  rw [trues_reach hms] at hown1
  obtain ⟨rl, hrl⟩ : ∃ l, reachL code [(a : Int)] false = l := ⟨_, rfl⟩
  rw [hrl] at hown1
  have HRl := hid hrl
  have hrlen : rl.length ≤ 2000 := by rw [← hrl]; have := reachL_len code [(a : Int)] false; omega
  have HO1 := hid (own_mono (base' := w.heap.size) hown1 HB1.out.size)
  obtain ⟨s1, c1, rfl⟩ := own_slice hown1
  obtain ⟨lo, hlo⟩ : ∃ b, lostIn code ms = b := ⟨_, rfl⟩
  rw [hlo]
  clear hown1 hb1 hrl hms hlo
  have hz1 := HB2.out.size
  go_wp2_with (refine wpList_make_full _ rfl _ _ 22 rfl w1.heap.size 3 i0 (.int .i64 0) 1 Tryz.underlying22 HI.out H0.out H1.out .i64 .i64 _ _ code.length rfl rfl rfl rfl (by rw [H2.out]; omega) (by simp only [maxLen]; omega) (Nat.le_refl _) ?_; intro w2 hown2 hg2)
  rw [made_ints] at hown2
  obtain ⟨g0, c0, he0, hg0, hat⟩ := NAt.of_own (f := fun _ => 0) hown2 (by omega)
  simp only [Value.slice.injEq, Option.some.injEq, Addr.mk.injEq, true_and, and_true] at he0
  obtain ⟨rfl, -⟩ := he0
  have hbg := (Below.refl w1.heap.size w1).grown hg2 (Nat.le_refl _) (by simp)
  have HB3 := hid (HB2.out.trans (hbg.mono hz1))
  have HO3 := hid (own_on HO1.out hbg)
  have HAt := hid hat
  obtain ⟨g, hgg⟩ : ∃ g, w1.heap.size = g := ⟨_, rfl⟩
  rw [hgg] at HAt
  try rw [hgg]
  have HG := hid (show w.heap.size ≤ g by omega)
  have HNo := hid (fun b (hb : (Value.slice s1 rl.length c1).ownBlock = some b) => show b ≠ g from fun h => by have := (HO1.out.lt b hb).2; omega)
  clear hown2 hg2 hbg hat hgg hg0
  go_wp2_with fail
  go_loopw [9] (fun c wr => ∃ (k : Nat), c = .int .i64 k ∧ k ≤ code.length ∧ NAt wr g code.length (fun q => if q < k then -1 else 0) ∧ Below w.heap.size w wr ∧ wr.ownsRow w.heap.size 3 1 (.slice s1 rl.length c1) rl.length (ints rl)) (fun c _ => code.length - (intOf c).toNat)
  case atStart => exact ⟨0, rfl, by omega, by simpa using HAt.out, HB3.out, HO3.out⟩
  case round =>
    obtain ⟨k, rfl, hk, hat, hbw, hown⟩ := hrel
    have HAk := hid hat
    have HBk := hid hbw
    have HOk := hid hown
    clear hat hbw hown
    by_cases hlt : k < code.length
    · have q0 := HAk.out.cell hlt
      have qf := HAk.out.free k
      go_wp2_with fail
      go_roundw
      case rel => exact ⟨k + 1, by go_num, by omega, by
          obtain ⟨cur, hcr, hcs⟩ := HAk.out.set hlt (-1)
          refine ⟨cur, hcr, fun j hj => ?_⟩
          rw [hcs j hj]
          show some (Value.int .i64 (if j = k then -1 else if j < k then -1 else 0)) = some (Value.int .i64 (if j < k + 1 then -1 else 0))
          by_cases e : j = k
          · subst e; simp
          · rw [if_neg e]
            by_cases h : j < k
            · rw [if_pos h, if_pos (by omega)]
            · rw [if_neg h, if_neg (by omega)], Below.setCell HBk.out (by simp only; exact HG.out) _, own_far HOk.out (fun b hb => HNo.out b hb) _⟩
      case measure => simp [intOf]; omega
    · obtain rfl : k = code.length := by omega
      have q0 := HAk.out.cell hal
      have qf := HAk.out.free a
      have HA4 := hid (show NAt (wr.setCell ⟨g, a, none⟩ (.int .i64 0)) g code.length (fun q => if q = a then 0 else -1) from by
        obtain ⟨cur, hcr, hcs⟩ := HAk.out.set hal 0
        refine ⟨cur, hcr, fun j hj => ?_⟩
        rw [hcs j hj]
        show some (Value.int .i64 (if j = a then 0 else if j < code.length then -1 else 0)) = some (Value.int .i64 (if j = a then 0 else -1))
        by_cases e : j = a
        · rw [if_pos e, if_pos e]
        · rw [if_neg e, if_neg e, if_pos hj])
      have HB4 := hid (Below.setCell HBk.out (p := ⟨g, a, none⟩) (by simp only; exact HG.out) (.int .i64 0))
      have HO4 := hid (own_far HOk.out (p := ⟨g, a, none⟩) (fun b hb => HNo.out b hb) (.int .i64 0))
      go_upto_region 8 with fail
      clear q0 qf
      generalize wr.setCell ⟨g, a, none⟩ (.int .i64 0) = w4 at HA4 HB4 HO4 ⊢
      have hz4 := HB4.out.size
      have hgl := HA4.out.lt
      have HL5 := hid (own_lit w4 [(a : Int)] #[.int .i64 a] rfl (by simp) 1 rfl)
      have HA5 := hid (HA4.out.on ((Below.refl w4.heap.size w4).alloc (Nat.le_refl _) (.cells #[.int .i64 a] 3)))
      have HB5 := hid (HB4.out.alloc hz4 (.cells #[.int .i64 a] 3))
      have HO5 := hid (HO4.out.alloc (.cells #[.int .i64 a] 3))
      go_wp2_with fail
      have HG4 := hid (show w.heap.size ≤ g ∧ g < w4.heap.size from ⟨HG.out, hgl⟩)
      go_loopw [10, 11] (fun v c wr => ∃ (line : List Nat) (k : Nat) (f : Nat → Int), c = .int .i64 k ∧ ShRel code a g w4 line k f v wr) (fun v c wr => 2001 - (intOf c).toNat)
      case atStart => exact ⟨[a], 0, _, rfl, ⟨BHt.begin hal, HL5.out, HA5.out, .of_below ((Below.refl w4.heap.size w4).alloc (Nat.le_refl _) (.cells #[.int .i64 a] 3)), by simp, fun q _ => by by_cases e : q = a <;> simp [e]⟩⟩
      case round =>
        obtain ⟨line, k, f, rfl, hrel⟩ := hrel
        obtain ⟨wo, rfl⟩ : ∃ y : World, y = wr := ⟨_, rfl⟩
        have HR := hid hrel
        have hle := hrel.le
        have hll : line.length ≤ 2000 := by
          have := nodup_le code.length line hrel.inv.nd (fun q hq => ((hrel.inv.ln q).1 hq).1)
          omega
        have HBw := hid (HB4.out.trans (hrel.only.below (B := w.heap.size) hz4 (fun b hb => by rw [hb]; exact HG4.out.1)))
        have HO := hid (own_only HO4.out (fun b hb => HNo.out b hb) hrel.only)
        have hzr := hrel.only.size
        by_cases hlt : k < line.length
        case neg =>
          obtain rfl : k = line.length := by omega
          have hend := hrel.inv.end_ (Nat.le_refl _)
          have HEnd := hid hend
          have HAr := hid hrel.at_
          obtain ⟨sv, cv, rfl⟩ := own_slice hrel.own
          have HFr := hid (show ∀ x ∈ rl, ∃ q : Nat, x = (q : Int) ∧ q < code.length ∧ f q = hgt code a q from fun x hx => by
            rw [← HRl.out] at hx
            obtain ⟨q, rfl, hrc, _⟩ := mem_rl.1 hx
            obtain ⟨y, hy⟩ := rc_hr HSn.out.rd hrc
            obtain ⟨h1, h2⟩ := HEnd.out.2 q y hy
            exact ⟨q, rfl, ((HR.out.inv.ln q).1 h1).1, by rw [h2, hgt_eq HEnd.out.1 hy]⟩)
          have HL6 := hid (own_lit wo [] #[] rfl (by simp) 0 rfl)
          have HB6 := hid ((Below.refl wo.heap.size wo).alloc (Nat.le_refl _) (.cells #[] 3))
          clear hrel hend
          go_wp2_with fail
          go_loopw [20, 21] (fun v c wq => ∃ (j : Nat) (xs : List Int), c = .int .i64 j ∧ j ≤ rl.length ∧ xs = (rl.take j).map (fun x => hgt code a x.toNat) ∧ wq.ownsRow wo.heap.size 3 1 v xs.length (ints xs) ∧ Below wo.heap.size wo wq) (fun _ c _ => rl.length - (intOf c).toNat)
          case atStart => exact ⟨0, [], rfl, by omega, rfl, HL6.out, HB6.out⟩
          case round =>
            obtain ⟨j, xs, rfl, hj, hxs, hown, hbel⟩ := hrel
            have HX := hid hxs
            have HOx := hid hown
            have HBx := hid hbel
            have hzx := hbel.size
            have hxl : xs.length ≤ j := by rw [hxs, List.length_map, List.length_take]; omega
            have hrd := (Rd.of_own HO.out).on hbel
            have hat := HAr.out.on hbel
            obtain ⟨sx, cx, rfl⟩ := own_slice hown
            clear hown hbel hxs
            by_cases hlj : j < rl.length
            · obtain ⟨q, hq1, hq2, hq3⟩ := HFr.out rl[j] (List.getElem_mem hlj)
              obtain ⟨_, _, he, hcs⟩ := hrd
              cases he
              rcases hcs with h | ⟨gr, o, rfl, hgr, hcs⟩
              · subst h; simp at hlj
              have q0 := hcs j hlj
              have hgd : rl.getD j 0 = (q : Int) := by simp [hlj, hq1]
              rw [hgd] at q0
              have q1 := hat.cell hq2
              have HT := hid (show (rl.take (j + 1)).map (fun x => hgt code a x.toNat) = xs ++ [f q] from by
                rw [List.take_succ_eq_append_getElem hlj, List.map_append, ← HX.out, hq1]
                simp only [List.map_cons, List.map_nil, Int.toNat_natCast, hq3])
              obtain ⟨y, hy⟩ : ∃ y, f q = y := ⟨_, rfl⟩
              rw [hy] at q1 HT
              clear hcs hgd hat hq1 hq3 hy
              have hA : xs.length + [y].length ≤ 1000000000 := by simp only [List.length_singleton]; omega
              have HA9 := hid hA
              have HB9 := hid (show wo.heap.size ≤ (wr.alloc (.cells #[.int .i64 y] 3)).heap.size by simp only [World.size_alloc]; omega)
              clear hA
              go_wp2_with (at_builtin; refine app_ints _ rfl _ _ rfl wo.heap.size xs [y] _ rfl (HOx.out.alloc _) _ _ _ rfl rfl (SrcAt.at_ _ [y] #[.int .i64 y] _ 1 rfl (by simp) rfl) HA9.out HB9.out ?_)
              intro v2 w2 hg2
              have HO2 := hid hg2.own
              have HB2 := hid ((HBx.out.alloc HBx.out.size (.cells #[.int .i64 y] 3)).trans hg2.bel)
              obtain ⟨s2, c2, rfl⟩ := own_slice hg2.own
              clear hg2
              go_wp2_with fail
              go_roundw
              case rel =>
                exact ⟨j + 1, xs ++ [y], by go_num, by omega, HT.out.symm, HO2.out, HB2.out⟩
              case measure => simp [intOf]; omega
            · obtain rfl : j = rl.length := by omega
              have HX2 := HX.out
              rw [List.take_length] at HX2
              clear hrd hat
              go_wp2_with fail
              go_ret2
              rw [heightsO_yes HEnd.out.1, HRl.out]
              refine ⟨_, rfl, ?_, HBw.out.trans (HBx.out.mono HBw.out.size)⟩
              simp only [Option.getD_some]
              rw [← HX2]
              exact own_mono HOx.out HBw.out.size
        obtain ⟨p, hp⟩ : ∃ p, line[k] = p := ⟨_, rfl⟩
        have hpm : p ∈ line := hp ▸ List.getElem_mem hlt
        have hHp := hrel.inv.hp hpm
        have hpl := ((hrel.inv.ln p).1 hpm).1
        have hf0 := ((hrel.inv.ln p).1 hpm).2
        have hf4 := (hrel.bd p hpl).2
        obtain ⟨g1, cap, rfl, hg1, hgl1⟩ := own_addr hrel.own (by omega)
        have HOL := hid hrel.own
        have HGne := hid (show g1 ≠ g from by omega)
        have HHp := hid hHp
        have HP := hid hp
        have HPm := hid hpm
        have HF4 := hid hf4
        have hci : (ints (natI line))[k]? = some (.int .i64 (p : Int)) := by rw [natI_get2 line k hlt, hp]
        have HCi := hid hci
        have hcell : wo.cell? ⟨g1, k, none⟩ = some (.int .i64 p) := by
          have h := HOL.out.cells (g := g1) rfl k _ hci
          rwa [addr_add] at h
        have hx := byte_at HBy.out p hpl
        have HEq := hid ((readP_in hpl).trans (insIn_eq code p hx.1 hx.2))
        clear hrel hp hpm hHp hf4 hci hx
        go_wp2_with fail
        refine (sRead_c code _ p _ (HRd.out.on HBw.out) HBy.out hlen hpl).mono ?_
        rintro e w5 ⟨⟨jop, ja, jb, jn⟩, rfl, hij, hb5⟩
        obtain ⟨i, hi⟩ := Option.isSome_iff_exists.1 (HSn.out.rd p HHp.out.rc)
        have hsi := HEq.out.symm.trans hi
        obtain rfl := hij i hsi
        rw [hsi]
        unfold IIns.val
        simp only [Option.isSome_some]
        have HI2 := hid hi
        have hf := readP_facts hi
        have HV := hid hf.2.1
        have hs1 := hf.2.2.1
        have hs5 := hf.2.2.2.1
        have hrb := rise_bd hf.2.1
        have HRB := hid hrb
        obtain ⟨up, hup⟩ : ∃ u, riseP ⟨jop, ja, jb, jn⟩ = u := ⟨_, rfl⟩
        obtain ⟨nd, hnd⟩ : ∃ u, needsP ⟨jop, ja, jb, jn⟩ = u := ⟨_, rfl⟩
        rw [hup, hnd] at hrb
        have HUp := hid hup
        have HNd := hid hnd
        obtain ⟨b1, b2, b3, b4⟩ := hrb
        obtain ⟨w6, hw6, hr6, hb6, hz6⟩ := new_ex w5 70 #[.int .i64 jop, .int .i64 ja, .int .i64 jb, .int .i64 jn]
        have HX6 := hid hr6
        have HB56 := hid (hb5.trans (hb6.mono hb5.size))
        have hzg : w4.heap.size ≤ w5.heap.size := by have := hb5.size; omega
        clear hi hsi hij hf hb5 hr6 hb6 hup hnd hcell
        go_upto_region 13 with fail
        clear hw6
        obtain ⟨gx, hgx⟩ : ∃ x, w5.heap.size = x := ⟨_, rfl⟩
        rw [hgx] at HX6 hzg
        try rw [hgx]
        have x0 := HX6.out.cell 0
        have x1 := HX6.out.cell 1
        have x2 := HX6.out.cell 2
        have x3 := HX6.out.cell 3
        simp at x0 x1 x2 x3
        clear hgx
        go_wp2_with fail
        refine (rises_c ⟨jop, ja, jb, jn⟩ HV.out (frame_n HV.out) w6).mono ?_
        rintro e w7 ⟨rfl, hb7⟩
        rw [HUp.out, HNd.out]
        have HX7 := hid (HX6.out.on hb7)
        have HB7 := hid (HB56.out.trans (hb7.mono HB56.out.size))
        have hcell : w7.cell? ⟨g1, k, none⟩ = some (.int .i64 p) := by
          have h := (own_on HOL.out HB7.out).cells (g := g1) rfl k _ HCi.out
          rwa [addr_add] at h
        have hch := (HR.out.at_.on HB7.out).cell hpl
        obtain ⟨y, hy⟩ : ∃ y, f p = y := ⟨_, rfl⟩
        rw [hy] at hch hf0 HF4
        have HY := hid hy
        have hf4 := HF4.out
        have x0 := HX7.out.cell 0
        simp at x0
        clear hb7 hy x1 x2 x3
        cases hm : mayP ⟨jop, ja, jb, jn⟩ y with
        | false =>
          have HNot := hid (heightsO_no (HR.out.inv.not HPm.out HI2.out (by rw [HY.out]; exact hm)))
          have HBE := hid (HBw.out.trans (HB7.out.mono HBw.out.size))
          unfold mayP at hm
          rw [HUp.out, HNd.out] at hm
          simp only at hm
          by_cases h1 : y < nd
          · go_wp2_with fail
            go_ret2
            rw [HNot.out]
            exact ⟨_, rfl, World.ownsRow_nil _ _ _ _, HBE.out⟩
          by_cases h2 : y + up > 40
          · go_wp2_with fail
            go_ret2
            rw [HNot.out]
            exact ⟨_, rfl, World.ownsRow_nil _ _ _ _, HBE.out⟩
          have h3 : jop = 1 ∧ y + up ≠ 0 := by
            rw [decide_eq_true (show nd ≤ y by omega), decide_eq_true (show y + up ≤ 40 by omega)] at hm
            simp at hm
            have hu := HUp.out
            rw [hm.1] at hu
            unfold riseP at hu
            simp at hu
            exact ⟨hm.1, by omega⟩
          obtain ⟨rfl, h4⟩ := h3
          have h5 : (y + up != 0) = true := by simpa using h4
          have hd1 : decide (y < nd) = false := decide_eq_false h1
          have hd2 : decide (40 < y + up) = false := decide_eq_false (by omega)
          go_wp2_with fail
          go_ret2
          rw [HNot.out]
          exact ⟨_, rfl, World.ownsRow_nil _ _ _ _, HBE.out⟩
        | true =>
          have HM := hid hm
          have hnn := rise_nn hm hf0 (fun h => (frame_n HV.out (.inr (.inr (.inl h)))).1)
          unfold mayP at hm
          rw [HUp.out, HNd.out] at hm
          rw [HUp.out] at hnn
          simp only [Bool.and_eq_true, decide_eq_true_eq] at hm
          have h1 : ¬ y < nd := by omega
          have h2 : ¬ y + up > 40 := by omega
          have h3 : jop = 1 → y + up = 0 := fun h => by
            have h4 := hm.2.2
            rw [h] at h4
            simp at h4
            have hu := HUp.out
            rw [h] at hu
            unfold riseP at hu
            simp at hu
            omega
          have H3 := hid h3
          have HNn := hid hnn
          have hG := show Gm code false p = nextsP code ⟨jop, ja, jb, jn⟩ (p + slong ⟨jop, ja, jb, jn⟩) from gm_off HI2.out
          obtain ⟨l6, hl6⟩ : ∃ l, Gm code false p = l := ⟨_, rfl⟩
          rw [hl6] at hG
          have HG6 := hid hl6
          have HGx := hid hG
          have hl9 : l6.length ≤ 9 := by rw [hG]; exact nextsP_len code _ _ (fun h => valid_b HV.out h)
          have HBd6 := hid (show ∀ t (h : t < l6.length), ∃ q : Nat, l6[t] = (q : Int) ∧ q < code.length ∧ (q : Int) ∈ Gm code false p from fun t h => by
            have hm1 : l6[t] ∈ Gm code false p := by rw [hl6]; exact List.getElem_mem h
            have h0 := HSn.out.nn p _ hm1
            obtain ⟨q, hq⟩ := Int.eq_ofNat_of_zero_le h0
            rw [hq] at hm1
            obtain ⟨j, hj⟩ := Option.isSome_iff_exists.1 (HSn.out.rd q (.step p q HHp.out.rc hm1))
            exact ⟨q, hq, (readP_facts hj).1, hm1⟩)
          have HY2 := hid (show Hr code a p y from by have := HHp.out; rwa [HY.out] at this)
          clear hm h3 hnn hl6 hG
          go_upto_region 15 with fail
          go_cut [96] (fun s96 wx => s96 = .bool false ∧ wx = w7)
          case first =>
            by_cases h1e : jop = 1
            · have H30 := hid (H3.out h1e)
              go_wp2_with fail
              go_meet
              exact ⟨congrArg Value.bool (by simp [H30.out]; have := H30.out; omega), rfl⟩
            · go_wp2_with fail
              go_meet
              exact ⟨congrArg Value.bool (by simp; omega), rfl⟩
          case rest =>
            obtain ⟨rfl, hwc⟩ := hcut
            obtain rfl : w7 = wc := hwc.symm
            clear x0 hch
            have x0 := HX7.out.cell 0
            have x1 := HX7.out.cell 1
            have x2 := HX7.out.cell 2
            have x3 := HX7.out.cell 3
            simp at x0 x1 x2 x3
            go_upto_region 17 with fail
            go_region_with (go_at_call 87; refine (nexts_c code _ p ⟨jop, ja, jb, jn⟩ _ ((HRd.out.on (HBw.out.trans (HB7.out.mono HBw.out.size))).on (Below.refl _ _).drew) HBy.out hlen (by omega) HV.out hs1 hs5).mono ?_; rintro e w8 ⟨v8, rfl, hown8, hb8⟩; rw [← HGx.out] at hown8; have HO8 := hid hown8; have HB8 := hid hb8; obtain ⟨s8, c8, rfl⟩ := own_slice hown8; clear hown8 hb8)
            all_goals
              have hb78 := ((Below.refl w7.heap.size w7).drew).trans HB8.out
              have HB78 := hid (HB7.out.trans (hb78.mono HB7.out.size))
              have hz78 := HB78.out.size
              have HO8b := hid (own_mono (base' := w4.heap.size) HO8.out (by have := hb78.size; have := HB7.out.size; simp only [World.drew]; omega))
              have HGe := hid (show ∀ b, (Value.slice s8 l6.length c8).ownBlock = some b → wo.heap.size ≤ b from fun b hb => by have := (HO8.out.lt b hb).1; simp only [World.drew] at this; have := HB7.out.size; omega)
              clear hb78 x0 x1 x2 x3
              go_wp2_with fail
              go_loopw [10, 19] (fun v c wq => ∃ (line' : List Nat) (t : Nat) (f' : Nat → Int), c = .int .i64 t ∧ ShIn code a g w4 line k p ⟨jop, ja, jb, jn⟩ f (.slice s8 l6.length c8) t line' f' v wq) (fun _ c _ => l6.length - (intOf c).toNat)
              case atStart => exact ⟨line, 0, f, rfl, ⟨HR.out.inv.next, own_on HOL.out HB78.out, HR.out.at_.on HB78.out, by rw [HG6.out]; exact HO8b.out, fun b hb h6 => by have := HGe.out b h6; have := (HOL.out.lt b hb).2; omega, HR.out.only.trans (.of_below HB78.out), by omega, HR.out.bd⟩⟩
              case round =>
                obtain ⟨line', t, f', rfl, hrel⟩ := hrel
                have HQ := hid hrel
                have htl := hrel.le
                rw [HG6.out] at htl
                have hll' : line'.length ≤ 2000 := by
                  have := nodup_le code.length line' hrel.inv.nd (fun q hq => ((hrel.inv.ln q).1 hq).1)
                  omega
                have HBq := hid (HB4.out.trans (hrel.only.below (B := w.heap.size) hz4 (fun b hb => by rw [hb]; exact HG4.out.1)))
                by_cases hlt' : t < l6.length
                case neg =>
                  obtain rfl : t = l6.length := by omega
                  obtain ⟨sv, cv, rfl⟩ := own_slice hrel.own
                  clear hrel
                  go_wp2_with fail
                  go_roundw
                  case rel => exact ⟨line', k + 1, f', by go_num, ⟨HQ.out.inv.done HR.out.inv hlt HP.out HI2.out (by rw [HY.out]; exact HM.out) (by rw [HG6.out]; exact Nat.le_refl _), HQ.out.own, HQ.out.at_, HQ.out.only, by obtain ⟨ex, he⟩ := HQ.out.inv.pre; rw [he, List.length_append]; omega, HQ.out.bd⟩⟩
                  case measure => simp [intOf]; omega
                obtain ⟨q, hq1, hq2, hq3⟩ := HBd6.out t hlt'
                have HQ1 := hid hq1
                have HQ3 := hid hq3
                have hqc := hrel.at_.cell hq2
                have hqf := hrel.at_.free q
                have h6 := Rd.of_own hrel.own6
                rw [HG6.out] at h6
                obtain ⟨_, _, he6, hcs6⟩ := h6
                cases he6
                rcases hcs6 with h | ⟨g6, o6, rfl, hg6, hcs6⟩
                · subst h; simp at hlt'
                have hnc := hcs6 t hlt'
                have hgd : l6.getD t 0 = (q : Int) := by simp [hlt', hq1]
                rw [hgd] at hnc
                have hbq := hrel.bd q hq2
                obtain ⟨z, hz⟩ : ∃ z, f' q = z := ⟨_, rfl⟩
                rw [hz] at hqc hbq
                have HZ := hid hz
                obtain ⟨gv, cv, rfl, hgv, hgvl⟩ := own_addr hrel.own (by obtain ⟨ex, he⟩ := hrel.inv.pre; rw [he, List.length_append]; omega)
                clear hrel hcs6 hgd hq1 hq3 hz
                by_cases h0 : 0 ≤ z
                · by_cases hez : z = y + up
                  · have hnb : (z == y + up) = true := by simpa using hez
                    have HEz := hid hez
                    clear hez
                    go_wp2_with fail
                    go_roundw
                    case rel => exact ⟨line', t + 1, f', by go_num, ⟨HQ.out.inv.same (by rw [HG6.out]; exact hlt') (by have h := HQ1.out; simp only [HG6.out]; exact h) hq2 (by rw [HZ.out]; exact h0) (by rw [HZ.out, HY.out, HUp.out]; exact HEz.out), HQ.out.own, HQ.out.at_, HQ.out.own6, HQ.out.ne, HQ.out.only, by rw [HG6.out]; omega, HQ.out.bd⟩⟩
                    case measure => simp [intOf]; omega
                  · have hnb : (z == y + up) = false := by simpa using hez
                    have HNot := hid (heightsO_no (HQ.out.inv.bad HHp.out HI2.out HQ3.out hq2 (by rw [HZ.out]; exact h0) (by rw [HZ.out, HY.out, HUp.out]; exact hez)))
                    clear hez
                    go_wp2_with fail
                    go_ret2
                    rw [HNot.out]
                    exact ⟨_, rfl, World.ownsRow_nil _ _ _ _, HBq.out⟩
                · have HN := hid (HQ.out.inv.new (f0 := f) HHp.out HI2.out (by rw [HG6.out]; exact hlt') (by have h := HQ1.out; simp only [HG6.out]; exact h) hq2 (by rw [HZ.out]; omega) (by rw [HY.out, HUp.out]; exact HNn.out))
                  have HA2 := hid (HQ.out.at_.set hq2 (y + up))
                  have HOv := hid (own_far HQ.out.own (p := ⟨g, q, none⟩) (fun b hb => by simp only [Value.ownBlock, Option.some.injEq] at hb; simp only; omega) (.int .i64 (y + up)))
                  have HO6 := hid (own_far HQ.out.own6 (p := ⟨g, q, none⟩) (fun b hb => by have := HGe.out b hb; have := HG4.out; simp only; omega) (.int .i64 (y + up)))
                  have HOn := hid (HQ.out.only.setCell (g := g) rfl q (.int .i64 (y + up)))
                  have hnc2 : (wr.setCell ⟨g, q, none⟩ (.int .i64 (y + up))).cell? ⟨g6, o6 + t, none⟩ = some (.int .i64 q) := by
                    rw [World.cell?_setCell_other wr ⟨g, q, none⟩ ⟨g6, o6 + t, none⟩ _ (fun e => by have h := congrArg Addr.block e; simp only at h; have := HGe.out g6 rfl; have := HG4.out; omega)]
                    exact hnc
                  go_upto_region 25 with fail
                  generalize wr.setCell ⟨g, q, none⟩ (.int .i64 (y + up)) = w9 at HA2 HOv HO6 HOn hnc2 ⊢
                  clear hqc hqf hnc
                  obtain ⟨lq, hlq⟩ : ∃ l, natI line' = l := ⟨_, rfl⟩
                  have HLq := hid hlq
                  rw [hlq] at HOv
                  have HLm2 := hid (show lq.length = line'.length by rw [← hlq, natI_len])
                  have hA : lq.length + [(q : Int)].length ≤ 1000000000 := by simp only [List.length_singleton]; have := HLm2.out; omega
                  have HA9 := hid hA
                  have HOv2 := hid (show w9.ownsRow w4.heap.size 3 1 (.slice (some ⟨gv, 0, none⟩) line'.length cv) lq.length (ints lq) from by rw [HLm2.out]; exact HOv.out)
                  have HB9 := hid (show w4.heap.size ≤ (w9.alloc (.cells #[.int .i64 q] 3)).heap.size by have := HOn.out.size; simp only [World.size_alloc]; omega)
                  clear hA hlq
                  go_wp2_with (at_builtin; refine app_ints _ rfl _ _ rfl w4.heap.size lq [(q : Int)] _ rfl (HOv2.out.alloc _) _ _ _ rfl rfl (SrcAt.at_ _ [(q : Int)] #[.int .i64 q] _ 1 rfl (by simp) rfl) HA9.out HB9.out ?_)
                  intro v10 w10 hg10
                  have hba := (Below.refl w9.heap.size w9).alloc (Nat.le_refl _) (.cells #[.int .i64 q] 3)
                  have hgo := grows_only hg10
                  have HA10 := hid ((HA2.out.on hba).only (fun h => by simp only [Value.ownBlock, Option.some.injEq] at h; have := HG4.out; omega) hgo)
                  have HO610 := hid (own_only (own_on HO6.out hba) (fun b hb h => HQ.out.ne b h hb) hgo)
                  have HOn10 := hid (only_mix (HOn.out.trans (.of_below hba)) hgo (fun b hb => .inr (by simp only [Value.ownBlock, Option.some.injEq] at hb; omega)))
                  have HNe10 := hid (show ∀ b, v10.ownBlock = some b → ¬ (Value.slice (some ⟨g6, o6, none⟩) l6.length c8).ownBlock = some b from fun b hb h6 => by
                    rcases hg10.at_ with h | ⟨g', h, h2⟩
                    · exact HQ.out.ne b (h.symm.trans hb) h6
                    · rw [h] at hb
                      cases hb
                      have := (HO6.out.lt _ h6).2
                      simp only [World.size_alloc] at h2
                      omega)
                  have hown10 := hg10.own
                  obtain ⟨l10, hl10⟩ : ∃ l, lq ++ [(q : Int)] = l := ⟨_, rfl⟩
                  rw [hl10] at hown10
                  have HL10 := hid hl10
                  have HO10 := hid hown10
                  obtain ⟨s10, c10, rfl⟩ := own_slice hown10
                  clear hg10 hba hgo hown10 hl10
                  go_wp2_with fail
                  go_roundw
                  case rel =>
                    refine ⟨line' ++ [q], t + 1, _, by go_num, ⟨HN.out, by rw [show natI (line' ++ [q]) = l10 by rw [natI_app, HLq.out, ← HL10.out]; rfl]; rw [show (line' ++ [q]).length = l10.length by rw [← HL10.out, List.length_append, List.length_append, HLm2.out]; rfl]; exact HO10.out, ?_, HO610.out, HNe10.out, HOn10.out, by rw [HG6.out]; omega, fun r hr => ?_⟩⟩
                    · have h := HA10.out
                      rw [← HY.out, ← HUp.out] at h
                      exact h
                    · have := HQ.out.bd r hr
                      have h1 := HNn.out
                      rw [HY.out, HUp.out]
                      by_cases e : r = q
                      · rw [if_pos e]; omega
                      · rw [if_neg e]; omega
                  case measure => simp [intOf]; omega
end Go.Proofs.YtihhpgklpichgaaGreat.Wk
/- HeightsOf of the program and of the model. -/
namespace Go.Proofs.YtihhpgklpichgaaGreat.Wk
open Go.RowKit Pl Ft Mm In C2 Im Sw Gp

noncomputable def heightsP (m : Img) (x : Int) : Option (List Int) := if isSf m x = true then heightsO m.code x.toNat else none
theorem heightsO_len (code : List Int) (a : Nat) : ((heightsO code a).getD []).length ≤ code.length := by
  unfold heightsO
  split
  · rw [Option.getD_some, List.length_map]; exact reachL_len _ _ _
  · simp
theorem heightsP_len (m : Img) (x : Int) : ((heightsP m x).getD []).length ≤ 1000000 := by
  unfold heightsP
  split
  · rename_i h
    have h1 : imageOk m = true := by unfold isSf isFunP at h; exact (Bool.and_eq_true_iff.1 (Bool.and_eq_true_iff.1 h).1).1
    have := heightsO_len m.code x.toNat
    have := (imageOk_bd h1).c1
    omega
  · simp
theorem sf_nat {m : Img} {x : Int} (h : isSf m x = true) : ∃ a : Nat, x = (a : Int) := by
  unfold isSf isFunP at h
  have h1 := (Bool.and_eq_true_iff.1 (Bool.and_eq_true_iff.1 h).1)
  obtain ⟨p, hp, _⟩ := funs_rc h1.1 (of_decide_eq_true h1.2)
  exact ⟨p, hp⟩
set_option maxRecDepth 100000 in
set_option maxHeartbeats 4000000 in
theorem heightsOf_c (m : Img) (vc vd vn : Value) (x : Int) (w : World) (h : ICells w vc vd vn m) (hs : Sm m) (hcc : ∀ a n c, vc = .slice a n c → n ≤ c) :
    Calls Tryz.prog 38 #[imgVal vc vd vn m, .int .i64 x] w (TabPost (heightsP m x) w) := by
  obtain ⟨ac, cc, rfl⟩ := rd_slice h.c
  obtain ⟨ad, cd, rfl⟩ := rd_slice h.d
  obtain ⟨an, cn, rfl⟩ := nrd_slice h.n
  have HI := hid h
  have HS := hid hs
  have HCap := hid hcc
  clear h hs hcc
  have hV : imgVal (.slice ac m.code.length cc) (.slice ad m.data.length cd) (.slice an m.names.length cn) m = .agg #[.slice ac m.code.length cc, .int .i64 m.entry, .int .i64 m.room, .slice ad m.data.length cd, .slice an m.names.length cn] := rfl
  have HV := hid hV
  rw [hV]
  clear hV
  have HB1 := hid ((Below.refl w.heap.size w).alloc (Nat.le_refl _) (.cells #[.slice ac m.code.length cc, .int .i64 m.entry, .int .i64 m.room, .slice ad m.data.length cd, .slice an m.names.length cn] 30))
  obtain ⟨o, ho⟩ : ∃ o, heightsP m x = o := ⟨_, rfl⟩
  have HO := hid ho
  rw [ho]
  clear ho
  go_enter Tryz.func38, Tryz.ntmps38
  go_wp2_with fail
  generalize w.alloc (.cells #[.slice ac m.code.length cc, .int .i64 m.entry, .int .i64 m.room, .slice ad m.data.length cd, .slice an m.names.length cn] 30) = w1 at HB1 ⊢
  rw [← HV.out]
  cases hf : isSf m x
  · obtain rfl : o = none := by rw [← HO.out, heightsP, hf]; rfl
    refine (routineOf_no m _ _ _ x w1 (HI.out.on HB1.out) HS.out HCap.out hf).mono ?_
    rintro e w2 ⟨rfl, hb2⟩
    have HB2 := hid (HB1.out.trans (hb2.mono HB1.out.size))
    clear hb2 hf
    go_wp2_with fail
    go_ret2
    exact ⟨_, rfl, World.ownsRow_nil _ _ _ _, HB2.out.alloc HB2.out.size _⟩
  · obtain ⟨a, rfl⟩ := sf_nat hf
    have HSf := hid (sf_snd hf)
    have HOo := hid (show o = heightsO m.code a from by rw [← HO.out, heightsP, hf]; simp)
    have HBd := hid (imageOk_bd HSf.out.1)
    have hcl : m.code.length ≤ cc := HCap.out _ _ _ rfl
    refine (routineOf_yes m _ _ _ a w1 (HI.out.on HB1.out) HS.out HCap.out hf).mono ?_
    rintro e w2 ⟨gw, gm, ms, b, sv, cv, rfl, hrow, hmap, hmem, hpl, hb2⟩
    obtain ⟨rl, hrl⟩ : ∃ l, reachL m.code [(a : Int)] false = l := ⟨_, rfl⟩
    have HRl := hid hrl
    rw [hrl] at hpl ⊢
    obtain ⟨w3, hw3, hr3, hb3, hz3⟩ := new_ex w2 77 #[.pointer (some ⟨gw, 0, none⟩), .int .i64 a, .slice sv rl.length cv]
    have HB3 := hid (HB1.out.trans ((hb2.trans (hb3.mono hb2.size)).mono HB1.out.size))
    have HRow := hid (hrow.on hb3)
    have HMap := hid (show MapAt w3 gm m.code (insOf m.code ms) from hmap.on hb3)
    have HPl := hid (hpl.on hb3)
    have HMs := hid (show ∀ q, Rc (Gm m.code false) [(a : Int)] q → q ∈ insOf m.code ms from fun q hq => by
      obtain ⟨p, hp, _, hrc⟩ := funs_rc HSf.out.1 HSf.out.2.1
      obtain rfl : a = p := by omega
      exact mem_insOf.2 ⟨(gw_gm hmem q).2 (rc_sub hrc hq), HSf.out.2.2.2.1.rd q hq⟩)
    have y0 := hr3.cell 0
    have y1 := hr3.cell 1
    have y2 := hr3.cell 2
    simp at y0 y1 y2
    clear hf hrow hmap hmem hpl hb2 hb3 hr3 hrl
    go_wp2_with fail
    refine (show Calls Tryz.prog 73 #[.agg #[.pointer (some ⟨gw, 0, none⟩), .int .i64 a, .slice sv rl.length cv]] w3 (TabPost (heightsO m.code a) w3) from by
      have h := heights_c m.code ac cc (.bool b) gw gm sv cv (insOf m.code ms) a w3 (HI.out.on HB3.out).c hcl HBd.out.cb HBd.out.c1 HSf.out.2.2.2.2 HRow.out HMap.out HSf.out.2.2.2.1 HMs.out (by rw [HRl.out]; exact HPl.out)
      rw [HRl.out] at h
      exact h).mono ?_
    rintro e w4 ⟨v4, rfl, hown4, hb4⟩
    rw [← HOo.out] at hown4 ⊢
    obtain ⟨bs, hbs⟩ : ∃ bs, o.getD [] = bs := ⟨_, rfl⟩
    obtain ⟨bo, hbo⟩ : ∃ bo, o.isSome = bo := ⟨_, rfl⟩
    rw [hbs] at hown4
    rw [hbo]
    have HBs := hid hbs
    have HBo := hid hbo
    have HO4 := hid (own_mono hown4 HB3.out.size)
    have HB4 := hid (HB3.out.trans (hb4.mono HB3.out.size))
    obtain ⟨s4, c4, rfl⟩ := own_slice hown4
    clear hown4 hb4 y0 y1 y2 hbs hbo
    go_wp2_with fail
    go_ret2
    refine ⟨_, congrArg (fun b => Ending.returned (.tuple #[_, .bool b])) HBo.out.symm, by rw [HBs.out]; exact HO4.out, HB4.out⟩
set_option maxRecDepth 100000 in
set_option maxHeartbeats 4000000 in
theorem sHeightsOf_c (m : Img) (vc vd vn : Value) (x : Int) (w : World) (h : ICells w vc vd vn m) (hs : Sm m) :
    Calls Tryz.prog 37 #[imgVal vc vd vn m, .int .i64 x] w (TabPost (heightsP m x) w) := by
  obtain ⟨ac, cc, rfl⟩ := rd_slice h.c
  obtain ⟨ad, cd, rfl⟩ := rd_slice h.d
  obtain ⟨an, cn, rfl⟩ := nrd_slice h.n
  have HI := hid h
  have HS := hid hs
  clear h hs
  have hV : imgVal (.slice ac m.code.length cc) (.slice ad m.data.length cd) (.slice an m.names.length cn) m = .agg #[.slice ac m.code.length cc, .int .i64 m.entry, .int .i64 m.room, .slice ad m.data.length cd, .slice an m.names.length cn] := rfl
  have HV := hid hV
  rw [hV]
  clear hV
  have HX1 := hid (Row.new w 30 #[.slice ac m.code.length cc, .int .i64 m.entry, .int .i64 m.room, .slice ad m.data.length cd, .slice an m.names.length cn])
  have HB1 := hid ((Below.refl w.heap.size w).alloc (Nat.le_refl _) (.cells #[.slice ac m.code.length cc, .int .i64 m.entry, .int .i64 m.room, .slice ad m.data.length cd, .slice an m.names.length cn] 30))
  obtain ⟨o, ho⟩ : ∃ o, heightsP m x = o := ⟨_, rfl⟩
  have HO := hid ho
  rw [ho]
  clear ho
  go_enter Tryz.func37, Tryz.ntmps37
  go_wp2_with fail
  generalize w.alloc (.cells #[.slice ac m.code.length cc, .int .i64 m.entry, .int .i64 m.room, .slice ad m.data.length cd, .slice an m.names.length cn] 30) = w1 at HB1 HX1 ⊢
  rw [← HV.out]
  refine (isFun_c m _ _ _ x w1 (HI.out.on HB1.out) HS.out).mono ?_
  rintro e w2 ⟨rfl, hb2⟩
  have HX2 := hid (HX1.out.on hb2)
  have HB2 := hid (HB1.out.trans (hb2.mono HB1.out.size))
  have x0 := HX2.out.cell 0
  have x1 := HX2.out.cell 1
  have x2 := HX2.out.cell 2
  have x3 := HX2.out.cell 3
  have x4 := HX2.out.cell 4
  simp at x0 x1 x2 x3 x4
  clear hb2
  cases hf : isFunP m x
  · obtain rfl : o = none := by rw [← HO.out, heightsP, isSf, hf]; rfl
    clear hf
    go_wp2_with fail
    go_ret2
    exact ⟨_, rfl, World.ownsRow_nil _ _ _ _, HB2.out⟩
  · have h1 : imageOk m = true := by unfold isFunP at hf; exact (Bool.and_eq_true_iff.1 hf).1
    have HBd := hid (imageOk_bd h1)
    have hV2 : (Value.agg #[.slice ac m.code.length cc, .int .i64 m.entry, .int .i64 m.room, .slice ad m.data.length cd, .slice an m.names.length cn]) = imgVal (.slice ac m.code.length cc) (.slice ad m.data.length cd) (.slice an m.names.length cn) m := rfl
    have HF := hid hf
    have HOk := hid h1
    clear hf h1
    go_wp2_with fail
    try rw [hV2]
    refine (ssound_c m _ _ _ w2 (HI.out.on HB2.out) HOk.out).mono ?_
    rintro e w3 ⟨rfl, hb3⟩
    have HX3 := hid (HX2.out.on hb3)
    have HB3 := hid (HB2.out.trans (hb3.mono HB2.out.size))
    have x5 := HX3.out.cell 0
    simp at x5
    clear hb3 x0 x1 x2 x3 x4 hV2
    cases hl : lostG m.code (Gw m.code) [m.entry]
    · have hsf : isSf m x = true := by unfold isSf; rw [HF.out, hl]; rfl
      obtain ⟨a, rfl⟩ := sf_nat hsf
      have HSf := hid (sf_snd hsf)
      have HOo := hid (show o = heightsO m.code a from by rw [← HO.out, heightsP, hsf]; simp)
      clear hl hsf
      go_wp2_with fail
      refine (sHeights_c m.code a ac cc w3 (HI.out.on HB3.out).c HBd.out.cb HBd.out.c1 HSf.out.2.2.2.2 HSf.out.2.2.2.1).mono ?_
      rintro e w4 ⟨v4, rfl, hown4, hb4⟩
      rw [← HOo.out] at hown4 ⊢
      obtain ⟨bs, hbs⟩ : ∃ bs, o.getD [] = bs := ⟨_, rfl⟩
      obtain ⟨bo, hbo⟩ : ∃ bo, o.isSome = bo := ⟨_, rfl⟩
      rw [hbs] at hown4
      rw [hbo]
      have HBs := hid hbs
      have HBo := hid hbo
      have HO4 := hid (own_mono hown4 HB3.out.size)
      have HB4 := hid (HB3.out.trans (hb4.mono HB3.out.size))
      obtain ⟨s4, c4, rfl⟩ := own_slice hown4
      clear hown4 hb4 hbs hbo x5
      go_wp2_with fail
      go_ret2
      refine ⟨_, congrArg (fun b => Ending.returned (.tuple #[_, .bool b])) HBo.out.symm, by rw [HBs.out]; exact HO4.out, HB4.out⟩
    · obtain rfl : o = none := by rw [← HO.out, heightsP, isSf, HF.out, hl]; rfl
      clear hl
      go_wp2_with fail
      go_ret2
      exact ⟨_, rfl, World.ownsRow_nil _ _ _ _, HB3.out⟩
end Go.Proofs.YtihhpgklpichgaaGreat.Wk
/- The greatest height: plainly, slices.Max, FrameOf of the program and of the model. -/
namespace Go.Proofs.YtihhpgklpichgaaGreat.Wk
open Go.RowKit Pl Ft Mm In C2 Im Sw Gp

def maxL (l : List Int) : Int := l.foldl max 0
theorem maxL_app (l : List Int) (x : Int) : maxL (l ++ [x]) = max (maxL l) x := by simp [maxL]
theorem foldl_max_le (l : List Int) (z M : Int) : l.foldl max z ≤ M ↔ z ≤ M ∧ ∀ x ∈ l, x ≤ M := by
  induction l generalizing z with
  | nil => simp
  | cons a r ih =>
    rw [List.foldl_cons, ih, Int.max_le]
    simp only [List.mem_cons, forall_eq_or_imp, and_assoc]
theorem maxL_le {l : List Int} {M : Int} : maxL l ≤ M ↔ 0 ≤ M ∧ ∀ x ∈ l, x ≤ M := foldl_max_le l 0 M
theorem le_maxL {l : List Int} {x : Int} (h : x ∈ l) : x ≤ maxL l := (maxL_le.1 (Int.le_refl _)).2 x h
theorem maxL_nn (l : List Int) : 0 ≤ maxL l := (maxL_le.1 (Int.le_refl _)).1
/-- How high the stack is behind an instruction. -/
noncomputable def behindP (code : List Int) (a : Nat) (x : Int) : Int := hgt code a x.toNat + (match readP code x.toNat with | none => 0 | some i => riseP i)
theorem behind_eq {code : List Int} {a : Nat} (hS : Snd code a) (hok : okH code a) :
    maxL ((reachL code [(a : Int)] false).map (behindP code a)) = maxL ((reachL code [(a : Int)] false).map fun x => hgt code a x.toNat) := by
  have hmem : ∀ q : Nat, Rc (Gm code false) [(a : Int)] q → (q : Int) ∈ reachL code [(a : Int)] false := fun q hq => mem_rl.2 ⟨q, rfl, hq, hS.rd q hq⟩
  apply Int.le_antisymm
  · refine maxL_le.2 ⟨maxL_nn _, fun y hy => ?_⟩
    obtain ⟨x, hx, rfl⟩ := List.mem_map.1 hy
    obtain ⟨p, rfl, hrc, hi⟩ := mem_rl.1 hx
    obtain ⟨i, hi⟩ := Option.isSome_iff_exists.1 hi
    obtain ⟨h, hh⟩ := rc_hr hS.rd hrc
    have hb : behindP code a (p : Int) = h + riseP i := by unfold behindP; rw [Int.toNat_natCast, hgt_eq hok hh, hi]
    rw [hb]
    by_cases hr : riseP i ≤ 0
    · have : h ≤ maxL ((reachL code [(a : Int)] false).map fun x => hgt code a x.toNat) := le_maxL (List.mem_map.2 ⟨(p : Int), hx, by rw [Int.toNat_natCast, hgt_eq hok hh]⟩)
      omega
    · have hop : i.op = 3 ∨ i.op = 25 := by
        unfold riseP at hr
        by_cases h3 : i.op = 3
        · exact .inl h3
        by_cases h4 : i.op = 4
        · rw [if_neg h3, if_pos h4] at hr; omega
        by_cases h25 : i.op = 25
        · exact .inr h25
        by_cases h26 : i.op = 26
        · rw [if_neg h3, if_neg h4, if_neg h25, if_pos h26] at hr
          have := frame_n (readP_facts hi).2.1 (.inr (.inr (.inr h26)))
          omega
        · rw [if_neg h3, if_neg h4, if_neg h25, if_neg h26] at hr; omega
      have hal : aloneI i = true := by simp only [aloneI, Bool.not_eq_true', decide_eq_false_iff_not]; omega
      have hg := gm_alone hi hal
      have hnn := hS.nn p ((p : Int) + slong i) (by rw [hg]; simp)
      obtain ⟨q, hq⟩ := Int.eq_ofNat_of_zero_le hnn
      have hqm : (q : Int) ∈ Gm code false p := by rw [hg, hq]; simp
      have hst := Hr.step p q i h hh hi hqm
      exact le_maxL (List.mem_map.2 ⟨(q : Int), hmem q hst.rc, by rw [Int.toNat_natCast, hgt_eq hok hst]⟩)
  · refine maxL_le.2 ⟨maxL_nn _, fun y hy => ?_⟩
    obtain ⟨x, hx, rfl⟩ := List.mem_map.1 hy
    obtain ⟨p, rfl, hrc, _⟩ := mem_rl.1 hx
    rw [Int.toNat_natCast]
    obtain ⟨h, hh⟩ := rc_hr hS.rd hrc
    rw [hgt_eq hok hh]
    cases hh with
    | start => exact maxL_nn _
    | step r _ i h0 hr hi hq =>
      refine le_maxL (List.mem_map.2 ⟨(r : Int), hmem r hr.rc, ?_⟩)
      unfold behindP
      rw [Int.toNat_natCast, hgt_eq hok hr, hi]
noncomputable def frameP (m : Img) (x : Int) : Int := match heightsP m x with | none => -1 | some l => maxL l
theorem hgt_nn {code : List Int} {a : Nat} (hok : okH code a) {p : Nat} {h : Int} (hh : Hr code a p h) : 0 ≤ h := by
  cases hh with
  | start => exact Int.le_refl _
  | step r _ i h0 hr hi hq =>
    have hm := (hok r h0 hr).1 i hi
    refine rise_nn hm ?_ (fun h => (frame_n (readP_facts hi).2.1 (.inr (.inr (.inl h)))).1)
    have h1 := (hok r h0 hr).1 i hi
    simp only [mayP, Bool.and_eq_true, decide_eq_true_eq] at h1
    have := rise_bd (readP_facts hi).2.1
    omega
theorem heightsO_facts {code : List Int} {a : Nat} {l : List Int} (hS : Snd code a) (h : heightsO code a = some l) : l ≠ [] ∧ (∀ x ∈ l, 0 ≤ x ∧ x ≤ 40) ∧ okH code a ∧ l = (reachL code [(a : Int)] false).map fun x => hgt code a x.toNat := by
  unfold heightsO at h
  split at h
  · rename_i hb
    unfold pdec at hb
    have hok : okH code a := @of_decide_eq_true _ (Classical.propDecidable _) hb
    cases h
    refine ⟨fun he => ?_, fun y hy => ?_, hok, rfl⟩
    · have : (a : Int) ∈ reachL code [(a : Int)] false := mem_rl.2 ⟨a, rfl, .start _ (by simp), hS.rd a (.start _ (by simp))⟩
      rw [List.map_eq_nil_iff] at he
      rw [he] at this
      cases this
    · obtain ⟨x, hx, rfl⟩ := List.mem_map.1 hy
      obtain ⟨p, rfl, hrc, _⟩ := mem_rl.1 hx
      obtain ⟨h, hh⟩ := rc_hr hS.rd hrc
      rw [Int.toNat_natCast, hgt_eq hok hh]
      refine ⟨hgt_nn hok hh, ?_⟩
      cases hh with
      | start => omega
      | step r _ i h0 hr hi hq =>
        have h1 := (hok r h0 hr).1 i hi
        simp only [mayP, Bool.and_eq_true, decide_eq_true_eq] at h1
        exact h1.2.1
  · cases h
set_option maxHeartbeats 1000000 in
theorem max_c (l : List Int) (v : Value) (w : World) (hr : Rd w v l) (hl : l.length ≤ 1000000) (hne : l ≠ []) (hnn : ∀ x ∈ l, 0 ≤ x) : Calls Tryz.prog 80 #[v] w fun e w' => e = .returned (.int .i64 (maxL l)) ∧ w' = w := by
  obtain ⟨a, cap, rfl, ha⟩ := hr
  rcases ha with h | ⟨g, o, rfl, hg, hcs⟩
  · exact absurd h hne
  have hpos : 0 < l.length := List.length_pos_iff.2 hne
  have q0 := hcs 0 hpos
  rw [Nat.add_zero] at q0
  have HCs := hid hcs
  have HNn := hid hnn
  have H1 := hid (show l.getD 0 0 = maxL (l.take 1) from by
    have hm : l[0] ∈ l := List.getElem_mem hpos
    have := hnn _ hm
    rw [List.take_succ_eq_append_getElem hpos, maxL_app]
    simp [maxL, hpos]
    omega)
  rw [H1.out] at q0
  clear hcs hnn hne
  go_enter Tryz.func80, Tryz.ntmps80
  go_wp2_with fail
  go_loopw [3, 4] (fun m c wr => ∃ k : Nat, c = .int .i64 k ∧ 1 ≤ k ∧ k ≤ l.length ∧ m = .int .i64 (maxL (l.take k)) ∧ wr = w) (fun _ c _ => l.length - (intOf c).toNat)
  case atStart => exact ⟨1, rfl, Nat.le_refl _, by omega, (by first | rfl | trivial), (by first | rfl | trivial)⟩
  case round =>
    obtain ⟨k, rfl, hk1, hk, rfl, rfl⟩ := hrel
    by_cases hlt : k < l.length
    · have q1 := HCs.out k hlt
      have HT := hid (show maxL (l.take (k + 1)) = max (maxL (l.take k)) (l.getD k 0) from by
        rw [List.take_succ_eq_append_getElem hlt, maxL_app]
        simp [hlt])
      obtain ⟨y, hy⟩ : ∃ y, l.getD k 0 = y := ⟨_, rfl⟩
      obtain ⟨z, hz⟩ : ∃ z, maxL (l.take k) = z := ⟨_, rfl⟩
      rw [hy] at q1 HT
      rw [hz] at HT ⊢
      clear hy hz
      go_wp2_with fail
      go_roundw
      case rel => exact ⟨k + 1, by go_num, by omega, by omega, by rw [HT.out], (by first | rfl | trivial)⟩
      case measure => simp [intOf]; omega
    · obtain rfl : k = l.length := by omega
      rw [List.take_length]
      go_wp2_with fail
      go_ret
      exact ⟨rfl, rfl⟩
set_option maxRecDepth 100000 in
set_option maxHeartbeats 4000000 in
theorem frameOf_c (m : Img) (vc vd vn : Value) (x : Int) (w : World) (h : ICells w vc vd vn m) (hs : Sm m) (hcc : ∀ a n c, vc = .slice a n c → n ≤ c) :
    Calls Tryz.prog 42 #[imgVal vc vd vn m, .int .i64 x] w fun e w' => e = .returned (.int .i64 (frameP m x)) ∧ Below w.heap.size w w' := by
  obtain ⟨ac, cc, rfl⟩ := rd_slice h.c
  obtain ⟨ad, cd, rfl⟩ := rd_slice h.d
  obtain ⟨an, cn, rfl⟩ := nrd_slice h.n
  have HI := hid h
  have HS := hid hs
  have HCap := hid hcc
  clear h hs hcc
  have hV : imgVal (.slice ac m.code.length cc) (.slice ad m.data.length cd) (.slice an m.names.length cn) m = .agg #[.slice ac m.code.length cc, .int .i64 m.entry, .int .i64 m.room, .slice ad m.data.length cd, .slice an m.names.length cn] := rfl
  have HV := hid hV
  rw [hV]
  clear hV
  have HB1 := hid ((Below.refl w.heap.size w).alloc (Nat.le_refl _) (.cells #[.slice ac m.code.length cc, .int .i64 m.entry, .int .i64 m.room, .slice ad m.data.length cd, .slice an m.names.length cn] 30))
  have hll := heightsP_len m x
  obtain ⟨o, ho⟩ : ∃ o, heightsP m x = o := ⟨_, rfl⟩
  have HO := hid ho
  unfold frameP
  rw [ho] at hll ⊢
  clear ho
  go_enter Tryz.func42, Tryz.ntmps42
  go_wp2_with fail
  generalize w.alloc (.cells #[.slice ac m.code.length cc, .int .i64 m.entry, .int .i64 m.room, .slice ad m.data.length cd, .slice an m.names.length cn] 30) = w1 at HB1 ⊢
  rw [← HV.out]
  refine (heightsOf_c m _ _ _ x w1 (HI.out.on HB1.out) HS.out HCap.out).mono ?_
  rintro e w2 ⟨v2, rfl, hown2, hb2⟩
  rw [HO.out] at hown2 ⊢
  have HB2 := hid (HB1.out.trans (hb2.mono HB1.out.size))
  clear hb2
  cases o with
  | none =>
    simp only [Option.isSome_none]
    obtain ⟨s2, c2, rfl⟩ := own_slice hown2
    clear hown2
    go_wp2_with fail
    go_ret
    exact ⟨rfl, HB2.out⟩
  | some l =>
    simp only [Option.isSome_some, Option.getD_some] at hown2 hll ⊢
    have hf : l ≠ [] ∧ (∀ y ∈ l, 0 ≤ y ∧ y ≤ 40) := by
      have h1 := HO.out
      unfold heightsP at h1
      split at h1
      · rename_i hsf
        obtain ⟨a, rfl⟩ := sf_nat hsf
        have h2 := heightsO_facts (sf_snd hsf).2.2.2.1 (by simpa using h1)
        exact ⟨h2.1, h2.2.1⟩
      · cases h1
    have HF := hid hf
    have HO2 := hid hown2
    obtain ⟨s2, c2, rfl⟩ := own_slice hown2
    clear hown2 hf
    go_wp2_with fail
    refine (max_c l _ w2 (Rd.of_own HO2.out) hll HF.out.1 (fun y hy => (HF.out.2 y hy).1)).mono ?_
    rintro e w3 ⟨rfl, rfl⟩
    go_wp2_with fail
    go_ret
    exact ⟨rfl, HB2.out⟩
end Go.Proofs.YtihhpgklpichgaaGreat.Wk
/- FrameOf of the model. -/
namespace Go.Proofs.YtihhpgklpichgaaGreat.Wk
open Go.RowKit Pl Ft Mm In C2 Im Sw Gp

set_option maxRecDepth 100000 in
set_option maxHeartbeats 4000000 in
theorem sFrameOf_c (m : Img) (vc vd vn : Value) (x : Int) (w : World) (h : ICells w vc vd vn m) (hs : Sm m) :
    Calls Tryz.prog 41 #[imgVal vc vd vn m, .int .i64 x] w fun e w' => e = .returned (.int .i64 (frameP m x)) ∧ Below w.heap.size w w' := by
  obtain ⟨ac, cc, rfl⟩ := rd_slice h.c
  obtain ⟨ad, cd, rfl⟩ := rd_slice h.d
  obtain ⟨an, cn, rfl⟩ := nrd_slice h.n
  have HI := hid h
  have HS := hid hs
  clear h hs
  have hV : imgVal (.slice ac m.code.length cc) (.slice ad m.data.length cd) (.slice an m.names.length cn) m = .agg #[.slice ac m.code.length cc, .int .i64 m.entry, .int .i64 m.room, .slice ad m.data.length cd, .slice an m.names.length cn] := rfl
  have HV := hid hV
  rw [hV]
  clear hV
  have HX1 := hid (Row.new w 30 #[.slice ac m.code.length cc, .int .i64 m.entry, .int .i64 m.room, .slice ad m.data.length cd, .slice an m.names.length cn])
  have HB1 := hid ((Below.refl w.heap.size w).alloc (Nat.le_refl _) (.cells #[.slice ac m.code.length cc, .int .i64 m.entry, .int .i64 m.room, .slice ad m.data.length cd, .slice an m.names.length cn] 30))
  have hll := heightsP_len m x
  obtain ⟨o, ho⟩ : ∃ o, heightsP m x = o := ⟨_, rfl⟩
  have HO := hid ho
  unfold frameP
  rw [ho] at hll ⊢
  clear ho
  go_enter Tryz.func41, Tryz.ntmps41
  go_wp2_with fail
  generalize w.alloc (.cells #[.slice ac m.code.length cc, .int .i64 m.entry, .int .i64 m.room, .slice ad m.data.length cd, .slice an m.names.length cn] 30) = w1 at HB1 HX1 ⊢
  rw [← HV.out]
  refine (sHeightsOf_c m _ _ _ x w1 (HI.out.on HB1.out) HS.out).mono ?_
  rintro e w2 ⟨v2, rfl, hown2, hb2⟩
  rw [HO.out] at hown2 ⊢
  have HX2 := hid (HX1.out.on hb2)
  have HB2 := hid (HB1.out.trans (hb2.mono HB1.out.size))
  clear hb2
  cases o with
  | none =>
    simp only [Option.isSome_none]
    obtain ⟨s2, c2, rfl⟩ := own_slice hown2
    clear hown2
    go_wp2_with fail
    go_ret
    exact ⟨rfl, HB2.out⟩
  | some l =>
    simp only [Option.isSome_some, Option.getD_some] at hown2 hll ⊢
    obtain ⟨a, rfl, hsf, hho⟩ : ∃ a : Nat, x = (a : Int) ∧ isSf m (a : Int) = true ∧ heightsO m.code a = some l := by
      have h1 := HO.out
      unfold heightsP at h1
      split at h1
      · rename_i hsf
        obtain ⟨a, rfl⟩ := sf_nat hsf
        exact ⟨a, rfl, hsf, by simpa using h1⟩
      · cases h1
    have HSf := hid (sf_snd hsf)
    have hfa := heightsO_facts HSf.out.2.2.2.1 hho
    have HFa := hid hfa
    have HBd := hid (imageOk_bd HSf.out.1)
    have hl2 := HBd.out.c1
    have HBh := hid (behind_eq HSf.out.2.2.2.1 hfa.2.2.1)
    have HO2 := hid hown2
    obtain ⟨s2, c2, rfl⟩ := own_slice hown2
    have hal := HSf.out.2.2.2.2
    have x0 := HX2.out.cell 0
    simp at x0
    have HB3 := hid (HB2.out.alloc HB2.out.size (.cells #[.int .i64 a] 3))
    have HRs := hid (Rd.of_own (own_lit w2 [(a : Int)] #[.int .i64 a] rfl (by simp) 1 rfl))
    have HO3 := hid (HO2.out.alloc (.cells #[.int .i64 a] 3))
    have HX3 := hid (HX2.out.alloc (.cells #[.int .i64 a] 3))
    clear hown2 hsf hho hfa
    go_wp2_with fail
    refine (walk_c m.code [(a : Int)] false ac _ cc _ _ (HI.out.on HB3.out).c HRs.out HBd.out.cb hl2 (by omega) (fun q hq => by obtain rfl : q = (a : Int) := (by simpa using hq); omega) (by simp)).mono ?_
    rintro e w4 ⟨v4, ms, rfl, hown4, hms, hb4⟩
    have HB4 := hid (HB3.out.trans (hb4.mono HB3.out.size))
    rw [trues_reach hms] at hown4
    obtain ⟨rl, hrl⟩ : ∃ l, reachL m.code [(a : Int)] false = l := ⟨_, rfl⟩
    rw [hrl] at hown4
    have HRl := hid hrl
    have hrlen : rl.length ≤ 2000 := by rw [← hrl]; have := reachL_len m.code [(a : Int)] false; omega
    have HO4 := hid hown4
    have HL4 := hid (own_on HO3.out hb4)
    have HX4 := hid (HX3.out.on hb4)
    obtain ⟨s4, c4, rfl⟩ := own_slice hown4
    obtain ⟨lo, hlo⟩ : ∃ b, lostIn m.code ms = b := ⟨_, rfl⟩
    rw [hlo]
    have HLl := hid (show l = rl.map (fun x => hgt m.code a x.toNat) from by rw [HFa.out.2.2.2, hrl])
    have HEnd := hid (show maxL l = maxL (rl.map (behindP m.code a)) from by have h := HBh.out; rw [hrl] at h; rw [HLl.out]; exact h.symm)
    have HMb := hid (show ∀ y ∈ rl, ∃ p : Nat, y = (p : Int) ∧ p < m.code.length ∧ (readP m.code p).isSome = true ∧ hgt m.code a p ≤ 40 ∧ 0 ≤ hgt m.code a p from fun y hy => by
      have h1 : hgt m.code a y.toNat ∈ l := by rw [HLl.out]; exact List.mem_map.2 ⟨y, hy, rfl⟩
      have h2 := HFa.out.2.1 _ h1
      rw [← hrl] at hy
      obtain ⟨p, rfl, hrc, hi⟩ := mem_rl.1 hy
      obtain ⟨i, hi2⟩ := Option.isSome_iff_exists.1 hi
      rw [Int.toNat_natCast] at h2
      exact ⟨p, rfl, (readP_facts hi2).1, hi, h2.2, h2.1⟩)
    have HLlen := hid (show l.length = rl.length from by rw [HLl.out, List.length_map])
    clear hown4 hms hb4 hrl hlo x0
    go_wp2_with fail
    go_loopw [9, 10] (fun v c wr => ∃ (k : Nat) (mo : Int), c = .int .i64 k ∧ k ≤ rl.length ∧ v = .int .i64 mo ∧ mo = maxL ((rl.take k).map (behindP m.code a)) ∧ mo ≤ 1000 ∧ Below w4.heap.size w4 wr) (fun _ c _ => rl.length - (intOf c).toNat)
    case atStart => exact ⟨0, 0, rfl, by omega, rfl, rfl, by omega, Below.refl _ _⟩
    case round =>
      obtain ⟨k, mo, rfl, hk, rfl, hmo, hmo2, hbw⟩ := hrel
      have HMo := hid hmo
      have HBw := hid hbw
      have hmn : 0 ≤ mo := by rw [hmo]; exact maxL_nn _
      have hzw := hbw.size
      clear hmo hbw
      by_cases hlt : k < rl.length
      case neg =>
        obtain rfl : k = rl.length := by omega
        have hme := HMo.out
        rw [List.take_length, ← HEnd.out] at hme
        have HMe := hid hme
        clear hme
        go_wp2_with fail
        go_ret
        rw [HMe.out]
        exact ⟨rfl, HB4.out.trans (HBw.out.mono HB4.out.size)⟩
      obtain ⟨p, hp, hpl, hps, hh40, hh0⟩ := HMb.out rl[k] (List.getElem_mem hlt)
      obtain ⟨⟨jop, ja, jb, jn⟩, hi⟩ := Option.isSome_iff_exists.1 hps
      have HV := hid (readP_facts hi).2.1
      have hrb := rise_bd (readP_facts hi).2.1
      have HNx := hid (show maxL ((rl.take (k + 1)).map (behindP m.code a)) = max mo (hgt m.code a p + riseP ⟨jop, ja, jb, jn⟩) from by
        rw [List.take_succ_eq_append_getElem hlt, List.map_append, List.map_singleton, maxL_app, ← HMo.out, hp]
        unfold behindP
        rw [Int.toNat_natCast, hi])
      have hx := byte_at HBd.out.cb p hpl
      have HSo := hid (((readP_in hpl).trans (insIn_eq m.code p hx.1 hx.2)).symm.trans hi)
      obtain ⟨up, hup⟩ : ∃ u, riseP ⟨jop, ja, jb, jn⟩ = u := ⟨_, rfl⟩
      obtain ⟨nd, hnd⟩ : ∃ u, needsP ⟨jop, ja, jb, jn⟩ = u := ⟨_, rfl⟩
      obtain ⟨y, hy⟩ : ∃ y, hgt m.code a p = y := ⟨_, rfl⟩
      rw [hup, hnd] at hrb
      rw [hup, hy] at HNx
      have HUp := hid hup
      have HNd := hid hnd
      obtain ⟨b1, b2, b3, b4⟩ := hrb
      rw [hy] at hh40 hh0
      have hlk : l.getD k 0 = y := by
        rw [HLl.out]
        simp [hlt, hp, hy]
      have hOr := own_on HO4.out HBw.out
      have hLr := own_on HL4.out HBw.out
      have hc1 : ∀ (wx : World), Below wr.heap.size wr wx → Rd wx (.slice s4 rl.length c4) rl ∧ Rd wx (.slice s2 l.length c2) l := fun wx hb => ⟨(Rd.of_own hOr).on hb, (Rd.of_own hLr).on hb⟩
      have HC1 := hid hc1
      obtain ⟨_, _, he, hcs⟩ := Rd.of_own hOr
      cases he
      rcases hcs with h | ⟨g4, o4, rfl, hg4, hcs⟩
      · subst h; simp at hlt
      have q0 := hcs k hlt
      rw [show rl.getD k 0 = (p : Int) by simp [hlt, hp]] at q0
      have HXr := hid (HX4.out.on HBw.out)
      have x0 := HXr.out.cell 0
      have hlw := HXr.out.lt
      simp at x0
      have HLk := hid hlk
      clear hcs hOr hLr hc1 hp hps hi hx hup hnd hy hlk
      go_upto_region 9 with fail
      go_cut [11, 12] (fun s8 s9 wx => ∃ g5, s8 = .pointer (some ⟨g5, 0, none⟩) ∧ s9 = .bool true ∧ Row wx g5 70 #[.int .i64 jop, .int .i64 ja, .int .i64 jb, .int .i64 jn] ∧ wr.heap.size ≤ g5 ∧ Below wr.heap.size wr wx)
      case first =>
        have HCd := hid ((HI.out.on (HB4.out.trans (HBw.out.mono HB4.out.size))).c)
        go_region_with (first
          | (go_at_call 64; refine (sRead_c m.code _ p wr.drew (HCd.out.on ((Below.refl _ _).drew)) HBd.out.cb hl2 hpl).mono ?_; rintro e w5 ⟨i5, rfl, hij, hb5⟩; rw [HSo.out]; obtain rfl := hij ⟨jop, ja, jb, jn⟩ HSo.out; unfold IIns.val; simp only [Option.isSome_some]; have HB5 := hid (((Below.refl wr.heap.size wr).drew).trans hb5); clear hb5)
          | (go_at_call 64; refine (sRead_c m.code _ p _ (HCd.out.on (((Below.refl wr.heap.size wr).alloc (Nat.le_refl _) _).drew)) HBd.out.cb hl2 hpl).mono ?_; rintro e w5 ⟨i5, rfl, hij, hb5⟩; rw [HSo.out]; obtain rfl := hij ⟨jop, ja, jb, jn⟩ HSo.out; unfold IIns.val; simp only [Option.isSome_some]; have HZ5 := hid ((Row.new wr 70 #[.int .i64 0, .int .i64 0, .int .i64 0, .int .i64 0]).drew.on hb5); have HB5 := hid ((((Below.refl wr.heap.size wr).alloc (Nat.le_refl _) (.cells #[.int .i64 0, .int .i64 0, .int .i64 0, .int .i64 0] 70)).drew).trans (hb5.mono (by simp [World.drew]))); have z0 := HZ5.out.cell 0; have z1 := HZ5.out.cell 1; have z2 := HZ5.out.cell 2; have z3 := HZ5.out.cell 3; have zf := HZ5.out.free; simp at z0 z1 z2 z3; clear hb5))
        all_goals
          go_wp2_with fail
          go_meet
          refine ⟨_, rfl, rfl, ?_, ?_, ?_⟩
          · first
              | with_reducible exact Row.new _ _ _
              | with_reducible exact four_row HZ5.out _ _ _ _
          · first
              | with_reducible exact HB5.out.size
              | with_reducible exact Nat.le_refl _
          · first
              | with_reducible exact HB5.out.alloc HB5.out.size _
              | with_reducible exact four_bel HB5.out (Nat.le_refl _) _ _ _ _
      case rest =>
        obtain ⟨g5, rfl, rfl, hr5, hg5, hb5⟩ := hcut
        generalize wc = w5 at hr5 hb5 ⊢
        have HB5 := hid hb5
        have x1 := hr5.cell 0
        have x2 := hr5.cell 1
        have x3 := hr5.cell 2
        have x4 := hr5.cell 3
        simp at x1 x2 x3 x4
        clear hr5 hb5 x0 q0
        go_wp2_with fail
        refine (rises_c ⟨jop, ja, jb, jn⟩ HV.out (frame_n HV.out) w5).mono ?_
        rintro e w6 ⟨rfl, hb6⟩
        rw [HUp.out, HNd.out]
        have hb56 := HB5.out.trans (hb6.mono HB5.out.size)
        have HB6 := hid (HBw.out.trans (hb56.mono hzw))
        obtain ⟨_, _, he, hcs⟩ := (HC1.out w6 hb56).2
        cases he
        rcases hcs with h | ⟨g2, o2, rfl, hg2, hcs⟩
        · have := HLlen.out; rw [h] at this; simp at this; omega
        have hltl : k < l.length := by rw [HLlen.out]; exact hlt
        have q1 := hcs k hltl
        rw [HLk.out] at q1
        clear hcs hb6 hb56 x1 x2 x3 x4
        by_cases hgt : y + up > mo
        · have HM := hid (show max mo (y + up) = y + up by omega)
          go_wp2_with fail
          go_roundw
          case rel => exact ⟨k + 1, y + up, by go_num, by omega, rfl, by rw [HNx.out, HM.out], by omega, HB6.out⟩
          case measure => simp [intOf]; omega
        · have HM := hid (show max mo (y + up) = mo by omega)
          go_wp2_with fail
          go_roundw
          case rel => exact ⟨k + 1, mo, by go_num, by omega, rfl, by rw [HNx.out, HM.out], by omega, HB6.out⟩
          case measure => simp [intOf]; omega
end Go.Proofs.YtihhpgklpichgaaGreat.Wk
/- The exact law of FrameOf: the walk. -/
namespace Go.Proofs.YtihhpgklpichgaaGreat.Wk
open Go.RowKit Pl Ft Mm In C2 Im Sw

set_option maxRecDepth 100000 in
set_option maxHeartbeats 2000000 in
theorem exactFrameOf_w (m : Img) (vc vd vn : Value) (x : Int) (w : World) (hc : Rd w vc m.code) (hd : Rd w vd m.data) (hn : NRd w vn m.names) (hw : Wide m) :
    Calls Tryz.prog 12 #[imgVal vc vd vn m, .int .i64 x] w fun e w' => e = .returned (.bool true) ∧ Below w.heap.size w w' := by
  have HC := hid hc
  have HD := hid hd
  have HN := hid hn
  have HW := hid hw
  clear hc hd hn hw
  have hV : imgVal vc vd vn m = .agg #[vc, .int .i64 m.entry, .int .i64 m.room, vd, vn] := rfl
  rw [hV]
  clear hV
  have HX0 := hid (Row.new w 25 #[vc, .int .i64 m.entry, .int .i64 m.room, vd, vn])
  have HB0 := hid ((Below.refl w.heap.size w).alloc (Nat.le_refl _) (.cells #[vc, .int .i64 m.entry, .int .i64 m.room, vd, vn] 25))
  go_enter Tryz.func12, Tryz.ntmps12
  go_wp2_with fail
  refine (szImage_c m vc vd vn _ _ (HC.out.on HB0.out) (HD.out.on HB0.out) (HN.out.on HB0.out) HW.out (by omega) (by omega)).mono ?_
  rintro e w1 ⟨y, rfl, hx1, hx0, hxp, hb1⟩
  have HB1 := hid (HB0.out.trans (hb1.mono HB0.out.size))
  have HX1 := hid (HX0.out.on hb1)
  have HP := hid hxp
  have hz1 := hb1.size
  simp only [World.size_alloc] at hz1
  clear hb1 hxp
  by_cases hx : 0 ≤ y
  case neg =>
    go_wp2_with fail
    go_ret
    exact ⟨rfl, HB1.out⟩
  have HS := hid (HP.out hx)
  have x0 := HX1.out.cell 0
  have x1 := HX1.out.cell 1
  have x2 := HX1.out.cell 2
  have x3 := HX1.out.cell 3
  have x4 := HX1.out.cell 4
  simp at x0 x1 x2 x3 x4
  go_wp2_with fail
  refine (toImage_c m vc vd vn _ (HC.out.on HB1.out) (HD.out.on HB1.out) (HN.out.on HB1.out) HS.out).mono ?_
  rintro e w2 ⟨ac, ad, an, rfl, hown2, hb2⟩
  have HO2 := hid hown2
  have HB2 := hid (HB1.out.trans (hb2.mono HB1.out.size))
  have HX2 := hid (HX1.out.on hb2)
  have hz2 := hb2.size
  clear hown2 hb2 x0 x1 x2 x3 x4
  go_wp2_with fail
  refine (sFrameOf_c m ac ad an x _ HO2.out.cells HS.out).mono ?_
  rintro e w3 ⟨rfl, hb3⟩
  have HB3 := hid (HB2.out.trans (hb3.mono HB2.out.size))
  have HX3 := hid (HX2.out.on hb3)
  have hz3 := hb3.size
  clear hb3
  have x0 := HX3.out.cell 0
  have x1 := HX3.out.cell 1
  have x2 := HX3.out.cell 2
  have x3 := HX3.out.cell 3
  have x4 := HX3.out.cell 4
  simp at x0 x1 x2 x3 x4
  go_wp2_with fail
  refine (toImage_c m vc vd vn _ (HC.out.on HB3.out) (HD.out.on HB3.out) (HN.out.on HB3.out) HS.out).mono ?_
  rintro e w4 ⟨bc, bd, bn, rfl, hown4, hb4⟩
  have HO4 := hid hown4
  have HB4 := hid (HB3.out.trans (hb4.mono HB3.out.size))
  have HX4 := hid (HX3.out.on hb4)
  have hz4 := hb4.size
  clear hown4 hb4 x0 x1 x2 x3 x4
  obtain ⟨s1, c1, rfl⟩ := own_slice HO4.out.c
  obtain ⟨s2, c2, rfl⟩ := own_slice HO4.out.d
  obtain ⟨s3, c3, rfl⟩ := own_slice HO4.out.n
  unfold imgVal
  simp only
  go_wp2_with fail
  have HY4 := hid (Row.new w4 30 #[.slice s1 m.code.length c1, .int .i64 m.entry, .int .i64 m.room, .slice s2 m.data.length c2, .slice s3 m.names.length c3])
  have HB5 := hid (HB4.out.alloc HB4.out.size (.cells #[.slice s1 m.code.length c1, .int .i64 m.entry, .int .i64 m.room, .slice s2 m.data.length c2, .slice s3 m.names.length c3] 30))
  have HX5 := hid (HX4.out.alloc (.cells #[.slice s1 m.code.length c1, .int .i64 m.entry, .int .i64 m.room, .slice s2 m.data.length c2, .slice s3 m.names.length c3] 30))
  have HO5 := hid (HO4.out.on ((Below.refl _ _).alloc (Nat.le_refl _) (.cells #[.slice s1 m.code.length c1, .int .i64 m.entry, .int .i64 m.room, .slice s2 m.data.length c2, .slice s3 m.names.length c3] 30)))
  refine (frameOf_c m _ _ _ x _ HO5.out.cells HS.out (own_cap3 HO4.out.c)).mono ?_
  rintro e w6 ⟨rfl, hb6⟩
  have HY6 := hid (HY4.out.on hb6)
  have HX6 := hid (HX5.out.on hb6)
  have HO6 := hid (HO5.out.on hb6)
  have HB6 := hid (HB5.out.trans (hb6.mono HB5.out.size))
  have hz6 := hb6.size
  simp only [World.size_alloc] at hz6
  clear hb6
  have x0 := HX6.out.cell 0
  have x1 := HX6.out.cell 1
  have x2 := HX6.out.cell 2
  have x3 := HX6.out.cell 3
  have x4 := HX6.out.cell 4
  have y0 := HY6.out.cell 0
  have y1 := HY6.out.cell 1
  have y2 := HY6.out.cell 2
  have y3 := HY6.out.cell 3
  have y4 := HY6.out.cell 4
  simp at x0 x1 x2 x3 x4 y0 y1 y2 y3 y4
  have hw4 : w4.heap.size < w6.heap.size := by omega
  have hw0 : w.heap.size < w6.heap.size := by omega
  obtain ⟨fz, hfz⟩ : ∃ z, frameP m x = z := ⟨_, rfl⟩
  rw [hfz]
  clear hfz
  skip
  all_goals
    go_wp2_with fail
    go_region_with (first
      | (go_at_call 15; refine (toImage_c m vc vd vn _ (HC.out.on HB6.out.drew) (HD.out.on HB6.out.drew) (HN.out.on HB6.out.drew) HS.out).mono ?_; rintro e w7 ⟨tc, td, tn, rfl, hown7, hb7⟩; have HO7 := hid hown7; have HB7 := hid hb7; have HY7 := hid (HY6.out.drew.on hb7); have z0 := HY7.out.cell 0; have z1 := HY7.out.cell 1; have z2 := HY7.out.cell 2; have z3 := HY7.out.cell 3; have z4 := HY7.out.cell 4; simp at z0 z1 z2 z3 z4; clear hown7 hb7)
      | (go_at_call 18; refine (eqImage_own m _ _ _ _ _ _ _ (HO6.out.on ((Below.refl _ _).drew.trans HB7.out)) HO7.out HS.out).mono ?_; rintro e w8 ⟨rfl, hb8⟩))
    all_goals
      have HB8 := hid ((HB6.out.drew.trans (HB7.out.mono HB6.out.drew.size)).trans (hb8.mono (HB6.out.drew.trans (HB7.out.mono HB6.out.drew.size)).size))
      clear hb8 x0 x1 x2 x3 x4 y0 y1 y2 y3 y4
      go_wp2_with fail
      go_ret
      exact ⟨rfl, HB8.out⟩
end Go.Proofs.YtihhpgklpichgaaGreat.Wk
