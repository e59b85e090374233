/- The term of a condition, plainly. -/
import Derived.Test.YtffibmlgdacafaaDoorVq
set_option linter.unusedSimpArgs false
set_option linter.unusedVariables false
namespace Go.Proofs.YtffibmlgdacafaaDoor.Um
open Go.RowKit Pl Ft Mm In C2 Im

def eqS : ByteArray := ⟨#[61, 61]⟩
def ltS : ByteArray := ⟨#[60]⟩
def loS : ByteArray := ⟨#[60, 60]⟩
def condT (c : Int) (a b : Tm) : Option Tm :=
  if c = 0 then some (binT a eqS b) else if c = 1 then some (notT (binT a eqS b))
  else if c = 2 then some (binT a ltS b) else if c = 3 then some (notT (binT a ltS b))
  else if c = 4 then some (binT a loS b) else if c = 5 then some (notT (binT a loS b)) else none
def condOk (c : Int) (a b : Tm) : Bool := match condT c a b with | some t => termOk t | none => false
def condR (c : Int) (a b : Tm) : Tm := match condT c a b with | some t => if termOk t then t else tz | none => tz
theorem bin_parts {a b : Tm} {s : ByteArray} {h : Nat} (hs : shape h (binT a s b) = true) : shape h a = true ∧ shape h b = true := by
  cases h with
  | zero => simp [shape] at hs
  | succ h =>
    obtain ⟨_, hk⟩ := shape_at hs
    exact ⟨shape_up (hk 0 (by simp [binT, Tm.kids])) (by omega), shape_up (hk 1 (by simp [binT, Tm.kids])) (by omega)⟩
theorem not_part {a : Tm} {h : Nat} (hs : shape h (notT a) = true) : shape h a = true := by
  cases h with
  | zero => simp [shape] at hs
  | succ h =>
    obtain ⟨_, hk⟩ := shape_at hs
    exact shape_up (hk 0 (by simp [notT, Tm.kids])) (by omega)
theorem bin_ok {a b : Tm} {s : ByteArray} (h : termOk (binT a s b) = true) : termOk a = true ∧ termOk b = true := by
  obtain ⟨h1, h2⟩ := termOk_bd h
  obtain ⟨h3, h4⟩ := bin_parts h1
  rw [binT_size] at h2
  exact ⟨by simp [termOk, h3]; omega, by simp [termOk, h4]; omega⟩
theorem not_ok {a : Tm} (h : termOk (notT a) = true) : termOk a = true := by
  obtain ⟨h1, h2⟩ := termOk_bd h
  rw [notT_size] at h2
  simp [termOk, not_part h1]; omega
theorem cond_ok {c : Int} {a b : Tm} (h : condOk c a b = true) : 0 ≤ c ∧ c ≤ 5 ∧ termOk a = true ∧ termOk b = true := by
  unfold condOk condT at h
  repeat' split at h
  all_goals rename_i he
  all_goals repeat' split at he
  all_goals first | (cases he; done) | skip
  all_goals first | (exact absurd h (by decide)) | skip
  all_goals
    simp only [Option.some.injEq] at he
    subst he
  all_goals first
    | (have := bin_ok h; exact ⟨by omega, by omega, this.1, this.2⟩)
    | (have := bin_ok (not_ok h); exact ⟨by omega, by omega, this.1, this.2⟩)
theorem binT_wide (a : Tm) (s : ByteArray) (b : Tm) : (binT a s b).wide = s.size + (2 + (a.wide + b.wide)) := by rw [wide_eq, binT]; simp [Tm.kids, Tm.text, wides_cons, wides_nil]
theorem notT_wide (a : Tm) : (notT a).wide = 1 + a.wide := by rw [wide_eq, notT]; simp [Tm.kids, Tm.text, wides_cons, wides_nil, ByteArray.size]
theorem cond_wide (c : Int) (a b : Tm) : ((condT c a b).getD tz).wide ≤ a.wide + b.wide + 10 := by
  have h0 : tz.wide = 0 := by rw [wide_eq]; simp [tz, Tm.kids, Tm.text, wides_nil, ByteArray.size]
  have h1 : eqS.size = 2 := rfl
  have h2 : ltS.size = 1 := rfl
  have h3 : loS.size = 2 := rfl
  unfold condT
  repeat' split
  all_goals simp only [Option.getD_some, Option.getD_none, notT_wide, binT_wide]
  all_goals omega
theorem cond_none {c : Int} {a b : Tm} (h : (condT c a b).isSome = false) : condOk c a b = false ∧ condR c a b = tz := by
  have h2 : condT c a b = none := by simpa using h
  unfold condOk condR
  rw [h2]
  exact ⟨rfl, rfl⟩
theorem cond_some {c : Int} {a b : Tm} (h : (condT c a b).isSome = true) : condOk c a b = termOk ((condT c a b).getD tz) ∧ condR c a b = if termOk ((condT c a b).getD tz) then (condT c a b).getD tz else tz := by
  obtain ⟨t, ht⟩ := Option.isSome_iff_exists.1 h
  unfold condOk condR
  rw [ht]
  exact ⟨rfl, rfl⟩
end Go.Proofs.YtffibmlgdacafaaDoor.Um
