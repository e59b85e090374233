/- The form of a name: isName of the program and of the model. -/
import Derived.Test.YtcpkkedhgmnonaaDoorImg
import Derived.Test.YtcpkkedhgmnonaaDoorC2t
set_option linter.unusedSimpArgs false
set_option linter.unusedVariables false
namespace Go.Proofs.YtcpkkedhgmnonaaDoor.Im
open Go.RowKit Pl Ft Mm In C2

def AllTo (s : ByteArray) (k : Nat) : Prop := ∀ j (h : j < s.size), j < k → letterOk (s[j].toNat) = true
theorem AllTo.zero (s : ByteArray) : AllTo s 0 := fun j _ hj => by omega
theorem AllTo.succ {s : ByteArray} {k : Nat} (h : AllTo s k) (hk : k < s.size) (hc : letterOk (s[k].toNat) = true) : AllTo s (k + 1) := by
  intro j hj hlt
  by_cases e : j = k
  · subst e; exact hc
  · exact h j hj (by omega)
theorem u8_lt (u : UInt8) : u.toNat < 256 := u.toNat_lt
/-- The model goes through the letters first. -/
def SomeTo (s : ByteArray) (k : Nat) : Prop := AllTo s k ∧ (0 < k → ∀ h : 0 < s.size, small (s[0].toNat) = true)
theorem small_iff {c : Nat} : small c = true ↔ 97 ≤ c ∧ c ≤ 122 := by simp [small]
theorem digit_iff {c : Nat} : digit c = true ↔ 48 ≤ c ∧ c ≤ 57 := by simp [digit]
theorem SomeTo.succ {s : ByteArray} {k : Nat} (h : SomeTo s k) (hk : k < s.size) (hc : letterOk (s[k].toNat) = true) (hf : small (s[k].toNat) = true ∨ 0 < k) : SomeTo s (k + 1) := by
  refine ⟨h.1.succ hk hc, fun _ h0 => ?_⟩
  by_cases e : k = 0
  · subst e
    rcases hf with hf | hf
    · exact hf
    · omega
  · exact h.2 (by omega) h0
theorem isName_no {s : ByteArray} {k : Nat} (hk : k < s.size) (h1 : small (s[k].toNat) = false) (h2 : k = 0 ∨ digit (s[k].toNat) = false) : isName s = false := by
  rcases h2 with rfl | h2
  · exact isName_first hk h1
  · exact isName_at k hk (by rw [letterOk, h1, h2]; rfl)
theorem isName_end {s : ByteArray} (h : SomeTo s s.size) : inRange s.size 1 8 = isName s := by
  by_cases h1 : 1 ≤ s.size
  · by_cases h8 : s.size ≤ 8
    · rw [isName_yes h1 h8 (h.2 (by omega) (by omega)) (fun j hj => h.1 j hj hj)]
      simp [inRange]; omega
    · rw [isName_size (.inr (by omega))]
      simp [inRange]; omega
  · rw [isName_size (.inl (by omega))]
    simp [inRange]; omega
end Go.Proofs.YtcpkkedhgmnonaaDoor.Im
