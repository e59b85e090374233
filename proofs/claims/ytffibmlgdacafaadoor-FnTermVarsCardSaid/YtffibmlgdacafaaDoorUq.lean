/- The value of a term, plainly; variables with words. -/
import Derived.Test.YtffibmlgdacafaaDoorUl
import Derived.Test.YtffibmlgdacafaaDoorUv
set_option linter.unusedSimpArgs false
set_option linter.unusedVariables false
namespace Go.Proofs.YtffibmlgdacafaaDoor.Um
open Go.RowKit Pl Ft Mm In C2 Im

/-- The word of a variable, the last one of its name. -/
def varIn (l : List Nm) (s : ByteArray) : Int := ((l.reverse.find? fun v => v.text.toList == s.toList).map (·.at_)).getD 0
def mapOf (l : List Nm) : List (ByteArray × Int) := l.foldl (fun es v => Ms.putE es v.text v.at_) []
theorem mapOf_snoc (l : List Nm) (v : Nm) : mapOf (l ++ [v]) = Ms.putE (mapOf l) v.text v.at_ := by simp [mapOf]
theorem same_text {a b : ByteArray} : (a.toList == b.toList) = decide (b = a) := by
  rw [Bool.eq_iff_iff]
  simp only [beq_iff_eq, decide_eq_true_eq]
  constructor
  · intro h
    rw [ByteArray.toList_eq, ByteArray.toList_eq] at h
    exact (ByteArray.ext (Array.ext' h)).symm
  · rintro rfl; rfl
theorem look_map (s : ByteArray) : ∀ (n : Nat) (l : List Nm), l.length = n → (Ms.lookE (mapOf l) s) = (l.reverse.find? fun v => v.text.toList == s.toList).map (·.at_)
  | 0, l, h => by
    obtain rfl : l = [] := by simpa using h
    rfl
  | n + 1, l, h => by
    have hne : l ≠ [] := by intro e; rw [e] at h; simp at h
    obtain ⟨l', v, rfl⟩ : ∃ l' v, l = l' ++ [v] := ⟨l.dropLast, l.getLast hne, (List.dropLast_concat_getLast hne).symm⟩
    have ih := look_map s n l' (by simpa using h)
    rw [mapOf_snoc, Ms.look_put, ih, List.reverse_append, List.reverse_cons, List.reverse_nil, List.nil_append, List.singleton_append, List.find?_cons, same_text]
    by_cases hs : s = v.text
    · rw [if_pos hs, decide_eq_true hs]; rfl
    · rw [if_neg hs, decide_eq_false hs]
theorem look_var (l : List Nm) (s : ByteArray) : (Ms.lookE (mapOf l) s).getD 0 = varIn l s := by rw [look_map s _ l rfl]; rfl
/-- All values, if each has one. -/
def allV (f : Tm → Option Int) : List Tm → Option (List Int)
  | [] => some []
  | t :: l => match f t with | none => none | some x => (allV f l).map (x :: ·)
theorem allV_append (f : Tm → Option Int) (a b : List Tm) : allV f (a ++ b) = (allV f a).bind fun xs => (allV f b).map (xs ++ ·) := by
  induction a with
  | nil => simp [allV]
  | cons t a ih =>
    simp only [List.cons_append, allV]
    cases f t with
    | none => rfl
    | some x =>
      simp only [ih]
      cases allV f a with
      | none => rfl
      | some xs => cases allV f b <;> rfl
theorem allV_snoc {f : Tm → Option Int} {l : List Tm} {k : Nat} (h : k < l.length) {xs : List Int} (hx : allV f (l.take k) = some xs) {x : Int} (hf : f (l.getD k tz) = some x) : allV f (l.take (k + 1)) = some (xs ++ [x]) := by
  rw [take_snoc l k h, allV_append, hx]
  simp only [allV, hf, Option.bind_some, Option.map_some]
theorem allV_none {f : Tm → Option Int} {l : List Tm} {k : Nat} (h : k < l.length) (hf : f (l.getD k tz) = none) : allV f l = none := by
  have e : l = l.take k ++ (l.getD k tz :: l.drop (k + 1)) := by
    have e1 : l.drop k = l[k] :: l.drop (k + 1) := List.drop_eq_getElem_cons h
    have e2 : l.getD k tz = l[k] := by simp [h]
    rw [e2, ← e1, List.take_append_drop]
  rw [e, allV_append]
  cases allV f (l.take k) with
  | none => rfl
  | some xs => simp only [allV, hf, Option.bind_some, Option.map_none]
def combine (vars : List Nm) (mem : List Int) (t : Tm) (xs : List Int) : Option Int :=
  if t.kind = 0 then some t.num
  else if t.kind = 1 then some (varIn vars t.text)
  else if t.kind = 2 then some (opVal t.text (xs.getD 0 0) (xs.getD 1 0))
  else if t.kind = 3 then some (if xs.getD 0 0 = 0 then 1 else 0)
  else memIn mem (xs.getD 0 0) (if t.kind = 4 then 2 else 1)
/-- The value of a term at most so high. -/
def valT (vars : List Nm) (mem : List Int) : Nat → Tm → Option Int
  | 0, _ => none
  | h + 1, t => (allV (valT vars mem h) t.kids).bind (combine vars mem t)
/-- What variables and memory must be. -/
structure EnvOk (vars : List Nm) (mem : List Int) : Prop where
  nm : ∀ v ∈ vars, freeName v.text = true ∧ isW v.at_ = true
  long : vars.length ≤ 60
  ml : mem.length ≤ 64
  mb : mem.all isByte = true
theorem varIn_word {vars : List Nm} {mem : List Int} (h : EnvOk vars mem) (s : ByteArray) : isW (varIn vars s) = true := by
  unfold varIn
  cases hf : vars.reverse.find? fun v => v.text.toList == s.toList with
  | none => rfl
  | some v =>
    have hm := List.mem_of_find?_eq_some hf
    exact (h.nm v (List.mem_reverse.1 hm)).2
theorem isW_of {x : Int} (h : 0 ≤ x ∧ x ≤ 65535) : isW x = true := by unfold isW; exact decide_eq_true h
theorem combine_word {vars : List Nm} {mem : List Int} (h : EnvOk vars mem) {t : Tm} (hf : t.form = true) {xs : List Int} (hx : ∀ j, isW (xs.getD j 0) = true) {x : Int} (hc : combine vars mem t xs = some x) : isW x = true := by
  unfold combine at hc
  split at hc
  · rename_i hk
    cases hc
    have : inR 5 t.num = true := by
      unfold Tm.form formOf at hf
      rw [if_pos hk] at hf
      simp only [Bool.and_eq_true] at hf
      exact hf.1
    exact isW_of (by simpa [inR, lo, hi] using this)
  · split at hc
    · cases hc; exact varIn_word h _
    · split at hc
      · rename_i h0 h1 hk
        cases hc
        have : isOp t.text = true := by
          unfold Tm.form formOf at hf
          rw [if_neg h0, if_neg h1, if_pos hk] at hf
          simp only [Bool.and_eq_true] at hf
          exact hf.2.1
        exact isW_of (opVal_word this (hx 0) (hx 1))
      · split at hc
        · cases hc
          split <;> rfl
        · have := isW_iff.1 (hx 0)
          exact isW_of (memIn_word h.mb (by split <;> omega) this.1 hc)
theorem allV_word {f : Tm → Option Int} (hf : ∀ t x, f t = some x → isW x = true) : ∀ (l : List Tm) (xs : List Int), allV f l = some xs → ∀ j, isW (xs.getD j 0) = true
  | [], xs, h, j => by cases h; rfl
  | t :: l, xs, h, j => by
    unfold allV at h
    cases ht : f t with
    | none => rw [ht] at h; cases h
    | some x =>
      rw [ht] at h
      simp only [Option.map_eq_some_iff] at h
      obtain ⟨ys, hy, rfl⟩ := h
      cases j with
      | zero => exact hf t x ht
      | succ j => exact allV_word hf l ys hy j
theorem allV_len {f : Tm → Option Int} : ∀ (l : List Tm) (xs : List Int), allV f l = some xs → xs.length = l.length
  | [], xs, h => by cases h; rfl
  | t :: l, xs, h => by
    unfold allV at h
    cases ht : f t with
    | none => rw [ht] at h; cases h
    | some x =>
      rw [ht] at h
      simp only [Option.map_eq_some_iff] at h
      obtain ⟨ys, hy, rfl⟩ := h
      simp [allV_len l ys hy]
theorem valT_word {vars : List Nm} {mem : List Int} (he : EnvOk vars mem) : ∀ (h : Nat) (t : Tm), shape h t = true → ∀ x, valT vars mem h t = some x → isW x = true
  | 0, _, hs, _, _ => by simp [shape] at hs
  | h + 1, t, hs, x, hx => by
    obtain ⟨hf, hk⟩ := shape_at hs
    unfold valT at hx
    rw [Option.bind_eq_some_iff] at hx
    obtain ⟨xs, h1, h2⟩ := hx
    refine combine_word he hf (fun j => ?_) h2
    have : ∀ (l : List Tm) (ys : List Int), (∀ j, j < l.length → shape h (l.getD j tz) = true) → allV (valT vars mem h) l = some ys → ∀ j, isW (ys.getD j 0) = true := by
      intro l
      induction l with
      | nil => intro ys _ hy j; cases hy; rfl
      | cons a l ih =>
        intro ys hl hy j
        unfold allV at hy
        cases ha : valT vars mem h a with
        | none => rw [ha] at hy; cases hy
        | some z =>
          rw [ha] at hy
          simp only [Option.map_eq_some_iff] at hy
          obtain ⟨zs, hz, rfl⟩ := hy
          cases j with
          | zero => exact valT_word he h a (by simpa using hl 0 (by simp)) z ha
          | succ j => exact ih zs (fun i hi => by simpa using hl (i + 1) (by simpa using hi)) hz j
    exact this t.kids xs hk h1 j
end Go.Proofs.YtffibmlgdacafaaDoor.Um
