/- Maps by texts, kept whole: in the order in which their keys came, a value written over where its key was. -/
import Derived.Test.YtgenojpdjplccaaDoorUp
import Derived.Test.YtgenojpdjplccaaDoorMark
import Derived.Maps.Keyed
import Derived.Maps.Own
import Derived.StringKeys
set_option linter.unusedSimpArgs false
set_option linter.unusedVariables false
namespace Go.Proofs.YtgenojpdjplccaaDoor.Ms
open Go.RowKit Go.MapKept Pl Ft Mm In C2 Im

theorem ba_beq (a b : ByteArray) : (a == b) = (a.data == b.data) := by cases a; cases b; rfl
theorem ba_eq (a : ByteArray) : (a == a) = true := by rw [ba_beq]; simp
theorem ba_ne {a b : ByteArray} (h : ¬ a = b) : (a == b) = false := by
  rw [ba_beq, beq_eq_false_iff_ne]
  exact fun e => h (ByteArray.ext e)
section
variable {α : Type}
def putE : List (ByteArray × α) → ByteArray → α → List (ByteArray × α)
  | [], q, x => [(q, x)]
  | (k, y) :: r, q, x => if k = q then (q, x) :: r else (k, y) :: putE r q x
def lookE : List (ByteArray × α) → ByteArray → Option α
  | [], _ => none
  | (k, y) :: r, q => if k = q then some y else lookE r q
def idxE : List (ByteArray × α) → ByteArray → Option (Nat × α)
  | [], _ => none
  | (k, y) :: r, q => if k = q then some (0, y) else (idxE r q).map fun t => (t.1 + 1, t.2)
theorem lookE_idx (es : List (ByteArray × α)) (q : ByteArray) : lookE es q = (idxE es q).map (·.2) := by
  induction es with
  | nil => rfl
  | cons e es ih =>
    obtain ⟨k, y⟩ := e
    unfold lookE idxE
    by_cases h : k = q
    · rw [if_pos h, if_pos h]; rfl
    · rw [if_neg h, if_neg h, ih]
      cases idxE es q <;> rfl
theorem look_put (es : List (ByteArray × α)) (q r : ByteArray) (x : α) : lookE (putE es q x) r = if r = q then some x else lookE es r := by
  induction es with
  | nil =>
    by_cases h : r = q
    · subst h; simp [putE, lookE]
    · have h2 : ¬ q = r := fun e => h e.symm
      simp [putE, lookE, h, h2]
  | cons e es ih =>
    obtain ⟨k, y⟩ := e
    by_cases hk : k = q
    · subst hk
      by_cases h : r = k
      · subst h; simp [putE, lookE]
      · have h2 : ¬ k = r := fun e => h e.symm
        simp [putE, lookE, h, h2]
    · by_cases h : r = q
      · subst h; simp [putE, lookE, hk, ih]
      · by_cases h3 : k = r
        · simp [putE, lookE, hk, h, h3]
        · simp [putE, lookE, hk, h, h3, ih]
theorem putE_len (es : List (ByteArray × α)) (q : ByteArray) (x : α) : (putE es q x).length ≤ es.length + 1 := by
  induction es with
  | nil => simp [putE]
  | cons e es ih =>
    obtain ⟨k, y⟩ := e
    unfold putE
    by_cases hk : k = q
    · rw [if_pos hk]; simp
    · rw [if_neg hk]; simp only [List.length_cons]; omega
theorem mem_put {es : List (ByteArray × α)} {q : ByteArray} {x : α} {e : ByteArray × α} (h : e ∈ putE es q x) : e ∈ es ∨ e = (q, x) := by
  induction es with
  | nil => exact .inr (by simpa [putE] using h)
  | cons c es ih =>
    obtain ⟨k, y⟩ := c
    unfold putE at h
    by_cases hk : k = q
    · rw [if_pos hk] at h
      rcases List.mem_cons.1 h with h | h
      · exact .inr h
      · exact .inl (List.mem_cons_of_mem _ h)
    · rw [if_neg hk] at h
      rcases List.mem_cons.1 h with h | h
      · exact .inl (by rw [h]; exact List.mem_cons_self)
      · exact (ih h).imp (List.mem_cons_of_mem _) id
theorem look_mem {es : List (ByteArray × α)} {q : ByteArray} {x : α} (h : lookE es q = some x) : (q, x) ∈ es := by
  induction es with
  | nil => cases h
  | cons c es ih =>
    obtain ⟨k, y⟩ := c
    unfold lookE at h
    by_cases hk : k = q
    · rw [if_pos hk] at h; cases h; rw [hk]; exact List.mem_cons_self
    · rw [if_neg hk] at h; exact List.mem_cons_of_mem _ (ih h)
def eEnt (enc : α → Value) (p : ByteArray) (x : α) (j : Nat) : MapEntry := { key := .string p, val := enc x, born := j }
def eList (enc : α → Value) : List (ByteArray × α) → Nat → List MapEntry
  | [], _ => []
  | (k, x) :: r, j => eEnt enc k x j :: eList enc r (j + 1)
theorem eList_len (enc : α → Value) : ∀ (es : List (ByteArray × α)) (j : Nat), (eList enc es j).length = es.length
  | [], _ => rfl
  | (k, x) :: r, j => by simp [eList, eList_len enc r]
theorem findNow_e (enc : α → Value) (p : ByteArray) : ∀ (es : List (ByteArray × α)) (j i : Nat), Instr.findNow (.string) (.string p) (eList enc es j) i = some ((idxE es p).map fun t => (i + t.1, enc t.2))
  | [], _, _ => rfl
  | (k, x) :: r, j, i => by
    unfold eList idxE
    by_cases hk : k = p
    · subst hk
      have hs : Instr.sameNow (.string) (.string k) (eEnt enc k x j).key = some true := by simp [eEnt, Instr.sameNow, ba_eq]
      unfold Instr.findNow
      rw [hs, if_pos rfl]
      simp [eEnt]
    · have hs : Instr.sameNow .string (.string p) (eEnt enc k x j).key = some false := by
        have hkp : ¬ p = k := fun e => hk e.symm
        simp [eEnt, Instr.sameNow, ba_ne hkp]
      unfold Instr.findNow
      rw [hs, if_neg hk]
      have h := findNow_e enc p r (j + 1) (i + 1)
      simp only [h]
      cases idxE r p with
      | none => rfl
      | some t => simp; omega
theorem putE_none (enc : α → Value) {es : List (ByteArray × α)} {p : ByteArray} (x : α) (h : idxE es p = none) : ∀ j, (eList enc (putE es p x) j).toArray = (eList enc es j).toArray.push (eEnt enc p x (j + es.length)) ∧ (putE es p x).length = es.length + 1 := by
  induction es with
  | nil => intro j; simp [putE, eList]
  | cons e es ih =>
    obtain ⟨k, y⟩ := e
    intro j
    unfold idxE at h
    by_cases hk : k = p
    · rw [if_pos hk] at h; cases h
    · rw [if_neg hk] at h
      have h1 := ih (by cases hi : idxE es p with | none => rfl | some t => rw [hi] at h; cases h) (j + 1)
      unfold putE
      rw [if_neg hk]
      refine ⟨?_, by simp [h1.2]⟩
      apply Array.toList_inj.1
      have h2 := congrArg Array.toList h1.1
      simp only [Array.toList_push] at h2 ⊢
      simp only [eList, List.cons_append, h2, List.length_cons]
      rw [show j + 1 + es.length = j + (es.length + 1) by omega]
theorem putE_some (enc : α → Value) {es : List (ByteArray × α)} {p : ByteArray} (x : α) {t : Nat × α} (h : idxE es p = some t) : ∀ j, (eList enc (putE es p x) j).toArray = (eList enc es j).toArray.modify t.1 (fun e => { e with key := .string p, val := enc x }) ∧ (putE es p x).length = es.length ∧ (((eList enc es j).toArray[t.1]?).map (·.key)).getD (.string p) = .string p := by
  induction es generalizing t with
  | nil => cases h
  | cons e es ih =>
    obtain ⟨k, y⟩ := e
    intro j
    unfold idxE at h
    by_cases hk : k = p
    · rw [if_pos hk] at h
      cases h
      unfold putE
      rw [if_pos hk]
      subst hk
      refine ⟨?_, by simp, by simp [eList, eEnt]⟩
      apply Array.toList_inj.1
      simp [eList, eEnt]
    · rw [if_neg hk] at h
      obtain ⟨u, hu, rfl⟩ := Option.map_eq_some_iff.1 h
      have h1 := ih hu (j + 1)
      unfold putE
      rw [if_neg hk]
      refine ⟨?_, by simp [h1.2.1], ?_⟩
      · apply Array.toList_inj.1
        have h2 := congrArg Array.toList h1.1
        simp at h2 ⊢
        simp [eList, h2]
      · have h3 := h1.2.2
        simpa [eList] using h3
/-- Block b is the map of these. -/
def EAt (w : World) (b : Nat) (enc : α → Value) (es : List (ByteArray × α)) : Prop := w.heap[b]? = some (.map (eList enc es 0).toArray es.length)
variable {enc : α → Value} {es : List (ByteArray × α)}
theorem EAt.lt {w : World} {b : Nat} (h : EAt w b enc es) : b < w.heap.size := (Array.getElem?_eq_some_iff.1 h).1
theorem EAt.only {p : Nat → Prop} {w w' : World} {b : Nat} (h : EAt w b enc es) (hp : ¬ p b) (ho : Only p w w') : EAt w' b enc es := (ho.block b h.lt hp).trans h
theorem EAt.on {w w' : World} {b : Nat} (h : EAt w b enc es) (hb : Below w.heap.size w w') : EAt w' b enc es := (hb.block b h.lt).trans h
theorem EAt.alloc {w : World} {b : Nat} (h : EAt w b enc es) (o : Obj) : EAt (w.alloc o) b enc es := h.on ((Below.refl _ _).alloc (Nat.le_refl _) o)
theorem eAt_new (enc : α → Value) (w : World) : EAt (w.alloc (.map #[] 0)) w.heap.size enc [] := heap_alloc_last w _
def setE (w : World) (b : Nat) (enc : α → Value) (es : List (ByteArray × α)) : World := { w with heap := w.heap.setIfInBounds b (.map (eList enc es 0).toArray es.length) }
theorem setE_at {w : World} {b : Nat} (hb : b < w.heap.size) (enc : α → Value) (es : List (ByteArray × α)) : EAt (setE w b enc es) b enc es := by
  unfold EAt setE
  simp [hb]
theorem setE_only (w : World) (b : Nat) (enc : α → Value) (es : List (ByteArray × α)) : Only (fun g => g = b) w (setE w b enc es) :=
  ⟨rfl, rfl, rfl, by simp [setE], fun k hk hne => by unfold setE; simp only; rw [Array.getElem?_setIfInBounds_ne (fun e => hne e.symm)]⟩
end
def encI : Int → Value := Value.int .i64
def encB : Bool → Value := Value.bool
theorem check_str (s : ByteArray) (hs : s.size ≤ maxLen) (w : World) (em : Bool) : (Instr.checkKey em 10000 9 (.string s)).run Tryd.prog w = .ok () w := by
  exact (Go.Maps.string_keyed Tryd.underlying9).check w em (Go.WideMaps.keyOf_string_mk Tryd.underlying9 hs)
theorem run_get_i {w : World} {b : Nat} {es : List (ByteArray × Int)} (h : EAt w b encI es) (p : ByteArray) (hp : p.size ≤ maxLen) :
    (Instr.lookup 80 (.map (some b)) (.string p) false).run Tryd.prog w = .ok (encI ((lookE es p).getD 0)) w := by
  have hj := findNow_e encI p es 0 0
  have hk := check_str p hp w
  have hz : (zeroValue 3).run Tryd.prog w = .ok (encI 0) w := by kernel_rfl
  rw [lookE_idx]
  cases hi : idxE es p with
  | none =>
    rw [hi] at hj
    simp at hj
    simp [Instr.lookup, run_underlying Tryd.underlying80, run_underlying Tryd.underlying9, Go.MapKept.run_getObj_map h, hk, Instr.findKey, Result.andThen, hj, hz]
  | some t =>
    rw [hi] at hj
    simp at hj
    simp [Instr.lookup, run_underlying Tryd.underlying80, run_underlying Tryd.underlying9, Go.MapKept.run_getObj_map h, hk, Instr.findKey, Result.andThen, hj]
theorem run_put_i {w : World} {b : Nat} {es : List (ByteArray × Int)} (h : EAt w b encI es) (p : ByteArray) (hp : p.size ≤ maxLen) (x : Int) :
    (Instr.mapUpdate 80 (.map (some b)) (.string p) (encI x)).run Tryd.prog w = .ok () (setE w b encI (putE es p x)) := by
  have hj := findNow_e encI p es 0 0
  have hk := check_str p hp w
  unfold setE
  cases hi : idxE es p with
  | none =>
    obtain ⟨h1, h2⟩ := putE_none encI x hi 0
    rw [h1, h2]
    rw [hi] at hj
    simp at hj
    simp [Instr.mapUpdate, run_underlying Tryd.underlying80, run_underlying Tryd.underlying9, Go.MapKept.run_getObj_map h, hk, Instr.findKey, Result.andThen, hj, Go.MapKept.run_setObj_map _ h, eEnt]
  | some t =>
    obtain ⟨h1, h2, h3⟩ := putE_some encI x hi 0
    rw [h1, h2]
    rw [hi] at hj
    simp at hj
    have hks : (Instr.keyThatStays (.string p) (.string p)).run Tryd.prog w = .ok (.string p) w := by
      unfold Instr.keyThatStays
      simp [Instr.sameBits, ba_eq]
    simp only [List.getElem?_toArray] at h3
    simp [Instr.mapUpdate, run_underlying Tryd.underlying80, run_underlying Tryd.underlying9, Go.MapKept.run_getObj_map h, hk, Instr.findKey, Result.andThen, hj]
    rw [h3, hks]
    simp [Go.MapKept.run_setObj_map _ h]
theorem run_get_b {w : World} {b : Nat} {es : List (ByteArray × Bool)} (h : EAt w b encB es) (p : ByteArray) (hp : p.size ≤ maxLen) :
    (Instr.lookup 103 (.map (some b)) (.string p) false).run Tryd.prog w = .ok (encB ((lookE es p).getD false)) w := by
  have hj := findNow_e encB p es 0 0
  have hk := check_str p hp w
  have hz : (zeroValue 4).run Tryd.prog w = .ok (encB false) w := by kernel_rfl
  rw [lookE_idx]
  cases hi : idxE es p with
  | none =>
    rw [hi] at hj
    simp at hj
    simp [Instr.lookup, run_underlying Tryd.underlying103, run_underlying Tryd.underlying9, Go.MapKept.run_getObj_map h, hk, Instr.findKey, Result.andThen, hj, hz]
  | some t =>
    rw [hi] at hj
    simp at hj
    simp [Instr.lookup, run_underlying Tryd.underlying103, run_underlying Tryd.underlying9, Go.MapKept.run_getObj_map h, hk, Instr.findKey, Result.andThen, hj]
theorem run_put_b {w : World} {b : Nat} {es : List (ByteArray × Bool)} (h : EAt w b encB es) (p : ByteArray) (hp : p.size ≤ maxLen) (x : Bool) :
    (Instr.mapUpdate 103 (.map (some b)) (.string p) (encB x)).run Tryd.prog w = .ok () (setE w b encB (putE es p x)) := by
  have hj := findNow_e encB p es 0 0
  have hk := check_str p hp w
  unfold setE
  cases hi : idxE es p with
  | none =>
    obtain ⟨h1, h2⟩ := putE_none encB x hi 0
    rw [h1, h2]
    rw [hi] at hj
    simp at hj
    simp [Instr.mapUpdate, run_underlying Tryd.underlying103, run_underlying Tryd.underlying9, Go.MapKept.run_getObj_map h, hk, Instr.findKey, Result.andThen, hj, Go.MapKept.run_setObj_map _ h, eEnt]
  | some t =>
    obtain ⟨h1, h2, h3⟩ := putE_some encB x hi 0
    rw [h1, h2]
    rw [hi] at hj
    simp at hj
    have hks : (Instr.keyThatStays (.string p) (.string p)).run Tryd.prog w = .ok (.string p) w := by
      unfold Instr.keyThatStays
      simp [Instr.sameBits, ba_eq]
    simp only [List.getElem?_toArray] at h3
    simp [Instr.mapUpdate, run_underlying Tryd.underlying103, run_underlying Tryd.underlying9, Go.MapKept.run_getObj_map h, hk, Instr.findKey, Result.andThen, hj]
    rw [h3, hks]
    simp [Go.MapKept.run_setObj_map _ h]
end Go.Proofs.YtgenojpdjplccaaDoor.Ms
