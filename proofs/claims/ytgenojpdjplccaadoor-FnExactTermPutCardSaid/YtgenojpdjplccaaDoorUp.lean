/- Terms, plainly: what one is, when it is a term, how many terms are in it. No call is spoken of here. -/
import Derived.Test.YtgenojpdjplccaaDoorImg
set_option linter.unusedSimpArgs false
set_option linter.unusedVariables false
namespace Go.Proofs.YtgenojpdjplccaaDoor.Um
open Go.RowKit Pl Ft Mm In C2 Im

/-- A term of whatever form. -/
inductive Tm where
  | mk (kind num : Int) (text : ByteArray) (kids : List Tm)
def Tm.kind : Tm → Int | .mk k _ _ _ => k
def Tm.num : Tm → Int | .mk _ n _ _ => n
def Tm.text : Tm → ByteArray | .mk _ _ s _ => s
def Tm.kids : Tm → List Tm | .mk _ _ _ l => l
def tz : Tm := .mk 0 0 ⟨#[]⟩ []
/-- How many terms are in a term, itself among them. -/
def Tm.size : Tm → Nat
  | .mk _ _ _ l => 1 + (l.map Tm.size).sum
def sizes (l : List Tm) : Nat := (l.map Tm.size).sum
theorem sizes_nil : sizes [] = 0 := rfl
theorem sizes_cons (t : Tm) (l : List Tm) : sizes (t :: l) = t.size + sizes l := by simp [sizes]
theorem size_eq (t : Tm) : t.size = 1 + sizes t.kids := by cases t; rw [Tm.size]; rfl
theorem size_pos (t : Tm) : 1 ≤ t.size := by rw [size_eq]; omega
theorem sizes_append (a b : List Tm) : sizes (a ++ b) = sizes a + sizes b := by
  induction a with
  | nil => simp [sizes_nil]
  | cons x a ih => rw [List.cons_append, sizes_cons, sizes_cons, ih]; omega
theorem take_snoc (l : List Tm) (k : Nat) (h : k < l.length) : l.take (k + 1) = l.take k ++ [l.getD k tz] := by
  rw [List.take_succ_eq_append_getElem h]; simp [h]
theorem sizes_snoc (l : List Tm) (k : Nat) (h : k < l.length) : sizes (l.take (k + 1)) = sizes (l.take k) + (l.getD k tz).size := by
  rw [take_snoc l k h, sizes_append, sizes_cons, sizes_nil]; rfl
theorem sizes_take_le (l : List Tm) (k : Nat) : sizes (l.take k) ≤ sizes l := by
  have h : sizes l = sizes (l.take k) + sizes (l.drop k) := by rw [← sizes_append, List.take_append_drop]
  omega
theorem sizes_at (l : List Tm) (k : Nat) (h : k < l.length) : (l.getD k tz).size ≤ sizes l := by
  have h1 := sizes_snoc l k h
  have h2 := sizes_take_le l (k + 1)
  omega
/-- The words that are no names of variables, and the operators. -/
def resWords : List (List UInt8) := [[119, 111, 114, 100], [98, 121, 116, 101], [111, 117, 116], [105, 110], [105, 102], [101, 108, 115, 101], [108, 111, 111, 112], [98, 108, 111, 99, 107], [108, 101, 97, 118, 101], [97, 103, 97, 105, 110], [98, 97, 99, 107], [104, 97, 108, 116], [112, 114, 111, 99]]
def opTexts : List (List UInt8) := [[43], [45], [42], [38], [124], [94], [61, 61], [60], [60, 60]]
def freeName (s : ByteArray) : Bool := !(resWords.contains s.toList) && isName s
def isOp (s : ByteArray) : Bool := opTexts.contains s.toList
def noText (s : ByteArray) : Bool := s.toList.isEmpty
/-- What a term of a kind has; its parts are not looked at. -/
def formOf (k n : Int) (s : ByteArray) (c : Nat) : Bool :=
  if k = 0 then inR 5 n && (noText s && c == 0)
  else if k = 1 then n == 0 && (freeName s && c == 0)
  else if k = 2 then n == 0 && (isOp s && c == 2)
  else if k = 3 ∨ k = 4 ∨ k = 5 then n == 0 && (noText s && c == 1)
  else false
def Tm.form (t : Tm) : Bool := formOf t.kind t.num t.text t.kids.length
/-- Whether all that is in a term has its form, and it is at most so high. -/
def shape : Nat → Tm → Bool
  | 0, _ => false
  | h + 1, t => t.form && t.kids.all (shape h)
def termOk (t : Tm) : Bool := shape 14 t && decide (t.size ≤ 60)
theorem shape_at {h : Nat} {t : Tm} (hs : shape (h + 1) t = true) : t.form = true ∧ ∀ j, j < t.kids.length → shape h (t.kids.getD j tz) = true := by
  simp only [shape, Bool.and_eq_true, List.all_eq_true] at hs
  exact ⟨hs.1, fun j hj => hs.2 _ (by simp [hj])⟩
theorem shape_no {h : Nat} {t : Tm} {j : Nat} (hj : j < t.kids.length) (hs : shape h (t.kids.getD j tz) = false) : shape (h + 1) t = false := by
  have : t.kids.all (shape h) = false := by
    rw [List.all_eq_false]
    exact ⟨t.kids.getD j tz, by simp [hj], by simp only [hs]; simp⟩
  simp only [shape, this, Bool.and_false]
theorem shape_yes {h : Nat} {t : Tm} (hf : t.form = true) (hs : ∀ j, j < t.kids.length → shape h (t.kids.getD j tz) = true) : shape (h + 1) t = true := by
  simp only [shape, hf, Bool.true_and, List.all_eq_true]
  intro x hx
  obtain ⟨j, hj, rfl⟩ := List.mem_iff_getElem.1 hx
  have := hs j hj
  simpa [hj] using this
theorem shape_form {h : Nat} {t : Tm} (hf : t.form = false) : shape (h + 1) t = false := by simp [shape, hf]
theorem form_kids {t : Tm} (h : t.form = true) : t.kids.length ≤ 2 := by
  unfold Tm.form formOf at h
  repeat' split at h
  all_goals simp only [Bool.and_eq_true, beq_iff_eq, reduceCtorEq] at h
  all_goals omega
theorem form_kind {t : Tm} (h : t.form = true) : 0 ≤ t.kind ∧ t.kind ≤ 5 := by
  unfold Tm.form formOf at h
  repeat' split at h
  all_goals simp at h
  all_goals omega
theorem sizes_bound (c : Nat) : ∀ (l : List Tm), (∀ j, j < l.length → (l.getD j tz).size ≤ c) → sizes l ≤ l.length * c
  | [], _ => by simp [sizes_nil]
  | t :: l, h => by
    have h0 := h 0 (by simp)
    have h1 := sizes_bound c l (fun j hj => by have := h (j + 1) (by simpa using hj); simpa using this)
    simp only [List.getD_cons_zero] at h0
    rw [sizes_cons, List.length_cons, Nat.succ_mul]
    omega
theorem shape_size : ∀ (h : Nat) (t : Tm), shape h t = true → t.size < 2 ^ h
  | 0, _, hs => by simp [shape] at hs
  | h + 1, t, hs => by
    obtain ⟨hf, hk⟩ := shape_at hs
    have h1 := sizes_bound (2 ^ h - 1) t.kids (fun j hj => by have := shape_size h _ (hk j hj); omega)
    have h2 := form_kids hf
    have h3 : t.kids.length * (2 ^ h - 1) ≤ 2 * (2 ^ h - 1) := Nat.mul_le_mul_right _ h2
    have h4 : 1 ≤ 2 ^ h := Nat.one_le_two_pow
    rw [size_eq, Nat.pow_succ]
    omega
theorem termOk_bd {t : Tm} (h : termOk t = true) : shape 14 t = true ∧ t.size ≤ 60 := by
  simpa [termOk] using h
/-- How great a term is for the laws: all texts, and all that are parts. -/
def Tm.wide : Tm → Nat
  | .mk _ _ s l => s.size + (l.length + (l.map Tm.wide).sum)
def wides (l : List Tm) : Nat := (l.map Tm.wide).sum
theorem wides_nil : wides [] = 0 := rfl
theorem wides_cons (t : Tm) (l : List Tm) : wides (t :: l) = t.wide + wides l := by simp [wides]
theorem wide_eq (t : Tm) : t.wide = t.text.size + (t.kids.length + wides t.kids) := by cases t; rw [Tm.wide]; rfl
theorem wides_append (a b : List Tm) : wides (a ++ b) = wides a + wides b := by
  induction a with
  | nil => simp [wides_nil]
  | cons x a ih => rw [List.cons_append, wides_cons, wides_cons, ih]; omega
theorem wides_snoc (l : List Tm) (k : Nat) (h : k < l.length) : wides (l.take (k + 1)) = wides (l.take k) + (l.getD k tz).wide := by
  rw [take_snoc l k h, wides_append, wides_cons, wides_nil]; rfl
theorem wides_take_le (l : List Tm) (k : Nat) : wides (l.take k) ≤ wides l := by
  have h : wides l = wides (l.take k) + wides (l.drop k) := by rw [← wides_append, List.take_append_drop]
  omega
theorem wides_at (l : List Tm) (k : Nat) (h : k < l.length) : (l.getD k tz).wide ≤ wides l := by
  have h1 := wides_snoc l k h
  have h2 := wides_take_le l (k + 1)
  omega
theorem sizes_wide : ∀ (n : Nat) (l : List Tm), sizes l ≤ n → sizes l ≤ l.length + wides l
  | _, [], _ => by simp [sizes_nil]
  | n, t :: l, h => by
    have e := size_eq t
    have e2 := wide_eq t
    rw [sizes_cons] at h
    have hp := size_pos t
    have h1 : 1 ≤ n := by omega
    obtain ⟨m, rfl⟩ : ∃ m, n = m + 1 := ⟨n - 1, by omega⟩
    have i1 := sizes_wide m t.kids (by omega)
    have i2 := sizes_wide m l (by omega)
    rw [sizes_cons, wides_cons, List.length_cons]
    omega
theorem size_wide (t : Tm) : t.size ≤ 1 + t.wide := by
  have e := size_eq t
  have e2 := wide_eq t
  have := sizes_wide _ t.kids (Nat.le_refl _)
  omega
end Go.Proofs.YtgenojpdjplccaaDoor.Um
