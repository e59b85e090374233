/- The name of a place: the first name that stands there, by the program (IndexFunc) and by the model (nameAt); a number's text by the model (decimal). -/
import Derived.Test.YtgenojpdjplccaaDoorIm4
import Derived.Test.YtgenojpdjplccaaDoorLay
import Derived.Lib.AppendIntMem
import Derived.Laws.Runes
import Derived.Laws.Concat
set_option linter.unusedSimpArgs false
set_option linter.unusedVariables false
namespace Go.Proofs.YtgenojpdjplccaaDoor.Im
open Go.RowKit Pl Ft Mm In C2

def found (l : List Nm) (x : Int) : Option Nm := l.find? fun n => n.at_ == x
def NoAt (l : List Nm) (x : Int) (k : Nat) : Prop := found (l.take k) x = none
theorem NoAt.zero (l : List Nm) (x : Int) : NoAt l x 0 := by simp [NoAt, found]
theorem NoAt.succ {l : List Nm} {x : Int} {k : Nat} (h : NoAt l x k) (hk : k < l.length) (hc : ((l.getD k .none).at_ == x) = false) : NoAt l x (k + 1) := by
  have e : l.getD k .none = l[k] := by simp [hk]
  rw [e] at hc
  unfold NoAt found at h ⊢
  rw [List.take_succ_eq_append_getElem hk, List.find?_append, h]
  simp only [List.find?_singleton, hc]
  rfl
theorem NoAt.found {l : List Nm} {x : Int} {k : Nat} (h : NoAt l x k) (hk : k < l.length) (hc : ((l.getD k .none).at_ == x) = true) : found l x = some (l.getD k .none) := by
  obtain ⟨y, hy⟩ : ∃ y, l.getD k .none = y := ⟨_, rfl⟩
  have e : l[k] = y := by rw [← hy]; simp [hk]
  rw [hy] at hc ⊢
  have hd : l.drop k = y :: l.drop (k + 1) := by rw [← e]; exact List.drop_eq_getElem_cons hk
  unfold NoAt Im.found at h
  unfold Im.found
  have e2 : l.find? (fun n => n.at_ == x) = (l.take k ++ l.drop k).find? (fun n => n.at_ == x) := by rw [List.take_append_drop]
  rw [e2, List.find?_append, h, hd, List.find?_cons, hc]
  rfl
theorem NoAt.all {l : List Nm} {x : Int} (h : NoAt l x l.length) : Im.found l x = none := by rwa [NoAt, List.take_length] at h
def AtPost (l : List Nm) (x : Int) (w : World) (e : Ending) (w' : World) : Prop := ∃ k : Int, e = .returned (.int .i64 k) ∧ -1 ≤ k ∧ k < l.length ∧ ((k = -1 ∧ found l x = none) ∨ (0 ≤ k ∧ found l x = some (l.getD k.toNat .none))) ∧ Below w.heap.size w w'
theorem enc_digit (d : Nat) (h : d < 10) : Utf8.encode (48 + (d : Int)) = ⟨#[UInt8.ofNat (48 + d)]⟩ := by
  have : d = 0 ∨ d = 1 ∨ d = 2 ∨ d = 3 ∨ d = 4 ∨ d = 5 ∨ d = 6 ∨ d = 7 ∨ d = 8 ∨ d = 9 := by omega
  rcases this with rfl | rfl | rfl | rfl | rfl | rfl | rfl | rfl | rfl | rfl <;> rfl
theorem bytes_app (a b : List UInt8) : (⟨a.toArray⟩ : ByteArray) ++ ⟨b.toArray⟩ = ⟨(a ++ b).toArray⟩ := by
  apply ByteArray.ext
  simp
theorem digits_len : ∀ n : Nat, (Lib.decDigits n).length ≤ n + 1 := by
  intro n
  induction n using Nat.strongRecOn with
  | _ n ih =>
    rw [Lib.decDigits]
    split
    · simp
    · have h := ih (n / 10) (by omega)
      rw [List.length_append]
      simp
      omega
set_option maxRecDepth 100000 in
set_option maxHeartbeats 800000 in
theorem decimal_c : ∀ (n : Nat) (w : World), n ≤ 4611686018427387904 →
    Calls Tryd.prog 111 #[.int .i64 n] w fun e w' => e = .returned (.string ⟨(Lib.decDigits n).toArray⟩) ∧ w' = w := by
  intro n
  induction n using Nat.strongRecOn with
  | _ n ih =>
    intro w hn
    have IH := hid ih
    clear ih
    by_cases h : n < 10
    · go_enter Tryd.func111, Tryd.ntmps111
      go_wp2_with fail
      go_ret
      refine ⟨?_, rfl⟩
      rw [Lib.decDigits, dif_pos h]
      show Ending.returned (Value.string (Utf8.encode (48 + (n : Int)))) = _
      rw [enc_digit n h]
    · go_enter Tryd.func111, Tryd.ntmps111
      go_wp2_with fail
      have e : (n : Int) / 10 = ((n / 10 : Nat) : Int) := by omega
      rw [e]
      refine (IH.out (n / 10) (by omega) w (by omega)).mono ?_
      clear e
      rintro e w1 ⟨rfl, rfl⟩
      obtain ⟨s, hs⟩ : ∃ s, (⟨(Lib.decDigits (n / 10)).toArray⟩ : ByteArray) = s := ⟨_, rfl⟩
      have hl : s.size ≤ n + 1 := by
        have h := digits_len (n / 10)
        have e : s.size = (Lib.decDigits (n / 10)).length := by rw [← hs]; simp [ByteArray.size]
        omega
      have hE : (Utf8.encode (48 + (n : Int) % 10)).size = 1 := by
        have e2 : (n : Int) % 10 = ((n % 10 : Nat) : Int) := by omega
        rw [e2, enc_digit _ (by omega)]
        rfl
      rw [hs]
      have HS := hid hs
      clear hs
      go_wp2_with fail
      go_ret
      refine ⟨?_, rfl⟩
      have e2 : (n : Int) % 10 = ((n % 10 : Nat) : Int) := by omega
      rw [Lib.decDigits, dif_neg h, ← bytes_app, HS.out]
      show Ending.returned (Value.string (s ++ Utf8.encode (48 + (n : Int) % 10))) = _
      rw [e2, enc_digit _ (by omega)]
end Go.Proofs.YtgenojpdjplccaaDoor.Im
