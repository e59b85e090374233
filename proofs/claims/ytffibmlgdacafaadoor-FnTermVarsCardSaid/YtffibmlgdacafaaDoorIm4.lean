/- Whether an image is one, by the model · Whether an image is one, by the model: validImage, ImageOk. -/
import Derived.Test.YtffibmlgdacafaaDoorIm1
set_option linter.unusedSimpArgs false
set_option linter.unusedVariables false
namespace Go.Proofs.YtffibmlgdacafaaDoor.Im
open Go.RowKit Pl Ft Mm In C2

theorem inRange_byte (x : Int) : inRange x 0 255 = isByte x := by
  rw [Bool.eq_iff_iff, isByte_iff]
  simp [inRange]
theorem take_all (xs : List Int) (k : Nat) (h : k < xs.length) : xs.take (k + 1) = xs.take k ++ [xs.getD k 0] := by
  rw [List.take_succ_eq_append_getElem h]; simp [h]
def BytesTo (xs : List Int) (k : Nat) : Prop := (xs.take k).all isByte = true
theorem BytesTo.succ {xs : List Int} {k : Nat} (h : BytesTo xs k) (hk : k < xs.length) (hb : isByte (xs.getD k 0) = true) : BytesTo xs (k + 1) := by
  unfold BytesTo at h ⊢
  rw [take_all xs k hk, List.all_append, h]
  simp [-List.getD_eq_getElem?_getD, hb]
theorem bytes_no {xs : List Int} {k : Nat} (hk : k < xs.length) (hb : isByte (xs.getD k 0) = false) : xs.all isByte = false := by
  rw [List.all_eq_false]
  exact ⟨xs.getD k 0, by simp [hk], by rw [hb]; simp⟩
theorem sIsName_q {s : ByteArray} {b : Bool} (h : isName s = b) (w : World) (hs : s.size ≤ 4611686018427387904) : Calls Tryd.prog 115 #[.string s] w fun e w' => e = .returned (.bool b) ∧ w' = w := by
  subst h
  exact (sIsName_c s w hs).mono fun e w' h => ⟨h.1, h.2.symm⟩
theorem inR_q {n l h : Int} {b : Bool} (hb : inRange n l h = b) (w : World) : Calls Tryd.prog 53 #[.int .i64 n, .int .i64 l, .int .i64 h] w fun e w' => e = .returned (.bool b) ∧ w' = w := by
  subst hb
  exact (inR_c n l h w).mono fun e w' h => ⟨h.1, h.2.symm⟩
theorem inRange_place (x : Int) (n : Nat) : inRange x 0 ((n : Int) - 1) = (decide (0 ≤ x) && decide (x < n)) := by
  rw [Bool.eq_iff_iff]
  simp [inRange]
  omega
structure SNamesRel (l : List Nm) (long : Nat) (w : World) (k : Nat) (wr : World) : Prop where
  le : k ≤ l.length
  ok : ∀ j, j < k → nmOk l long j = true
  wd : ∃ m, wr = w.drewN m
theorem SNamesRel.later {l : List Nm} {long : Nat} {w wr w1 : World} {k : Nat} (h : SNamesRel l long w k wr) (hk : k < l.length) (ht : nmOk l long k = true) (hw : ∃ m, w1 = w.drewN m) : SNamesRel l long w (k + 1) w1 := by
  refine ⟨by omega, fun j hj => ?_, hw⟩
  by_cases e : j = k
  · subst e; exact ht
  · exact h.ok j (by omega)
def NamesPost (b : Bool) (w : World) (e : Ending) (w' : World) : Prop := e = .returned (.bool b) ∧ Below w.heap.size w w'
theorem namesPost {b b' : Bool} {w wr : World} (hw : ∃ m, wr = w.drewN m) (h : b = b') : NamesPost b w (.returned (.bool b')) wr := by
  obtain ⟨m, rfl⟩ := hw
  exact ⟨bool_eq h.symm, below_drewN w m⟩
theorem wd_more {w wr : World} (hw : ∃ m, wr = w.drewN m) (n : Nat) : ∃ m, wr.drewN n = w.drewN m := by
  obtain ⟨m, rfl⟩ := hw
  exact ⟨m + n, World.drewN_drewN _ _ _⟩
theorem cell_wd {w wr : World} (hw : ∃ m, wr = w.drewN m) : ∀ p, wr.cell? p = w.cell? p := by
  obtain ⟨m, rfl⟩ := hw
  exact fun p => rfl
theorem take_getD (l : List Nm) {j k : Nat} (h : j < k) : ((l.take k).getD j .none).text = (l.getD j .none).text := by
  rw [List.getD_eq_getElem?_getD, List.getD_eq_getElem?_getD, List.getElem?_take_of_lt h]
end Go.Proofs.YtffibmlgdacafaaDoor.Im
namespace Go.Proofs.YtffibmlgdacafaaDoor.Im
open Go.RowKit Pl Ft Mm In C2

theorem imageOk_eq (m : Img) : imageOk m = (isCode m.code && (inRange m.entry 0 ((m.code.length : Int) - 1) && (inRange m.room 0 64 && (decide ((m.data.length : Int) ≤ m.room) && (m.data.all isByte && namesOk m.names m.code.length))))) := by
  unfold imageOk codeOk memOk
  rw [inRange_place]
  have e : inRange m.room 0 64 = (decide (0 ≤ m.room) && decide (m.room ≤ 64)) := by simp [inRange]
  rw [e]
  by_cases h : 0 < m.code.length
  · rw [decide_eq_true h]
    simp only [Bool.true_and, Bool.and_assoc]
  · have h0 : m.code.length = 0 := by omega
    rw [decide_eq_false h, h0]
    have : (decide (0 ≤ m.entry) && decide (m.entry < ((0 : Nat) : Int))) = false := by
      rw [Bool.and_eq_false_iff, decide_eq_false_iff_not, decide_eq_false_iff_not]
      omega
    rw [this]
    simp
end Go.Proofs.YtffibmlgdacafaaDoor.Im
