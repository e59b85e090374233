/- What InsAt reads of what was put behind zeros. No call is spoken of here. -/
import Derived.Test.YtjfjcppabbifhaaBack
import Derived.Test.YtjfjcppabbifhaaFormLem3
set_option linter.unusedSimpArgs false
set_option linter.unusedVariables false
namespace Go.Proofs.Ytjfjcppabbifhaa.C2
open Go.RowKit Pl Ft Mm In

theorem byte_iff {x : Int} : isByte x = true ↔ 0 ≤ x ∧ x ≤ 255 := by simp [isByte, inR, lo, hi]
theorem first_bd : ∀ k, k < 33 → 0 ≤ (tab.getD k .none).first + lo (addRange (tab.getD k .none)) ∧ (tab.getD k .none).first + hi (addRange (tab.getD k .none)) ≤ 255 := by decide +kernel
theorem first_byte {f : IForm} {i : IIns} (hf : f ∈ tab) (ht : takes f i = true) : isByte (firstByte f i) = true := by
  obtain ⟨k, hk, ek⟩ := tab_at hf
  have ht' := takes_iff.1 ht
  have hb := first_bd k hk
  rw [ek] at hb
  have hr2 : lo (addRange f) ≤ addOf f i ∧ addOf f i ≤ hi (addRange f) := by
    unfold addRange addOf
    by_cases h1 : f.added = 1
    · rw [if_pos h1, if_pos h1]; exact ht'.2.1
    · rw [if_neg h1, if_neg h1]
      by_cases h2 : f.added = 2
      · rw [if_pos h2, if_pos h2]; exact ht'.2.2.1
      · rw [if_neg h2, if_neg h2]; decide
  rw [byte_iff, firstByte_eq]
  omega
theorem put_bytes {i : IIns} {at_ : Int} {l : List Int} (h : insPut i at_ = some l) : l.all isByte = true := by
  unfold insPut at h
  cases hf : formOf i with
  | none => rw [hf] at h; cases h
  | some f =>
    rw [hf] at h
    simp only at h
    split at h
    · split at h
      · simp only [Option.some.injEq] at h
        obtain ⟨hm, ht⟩ := formOf_mem hf
        rw [← h, List.all_cons, first_byte hm ht, Bool.true_and, List.all_eq_true]
        intro y hy
        obtain ⟨c, _, hy⟩ := List.mem_flatMap.1 hy
        obtain ⟨j, _, rfl⟩ := List.mem_map.1 hy
        exact byte_iff.2 (by omega)
      · cases h
    · cases h
theorem insAt_put {i : IIns} {at_ : Nat} {l : List Int} (h : insPut i at_ = some l) (hl0 : 0 < l.length) (hlen : at_ + l.length ≤ 2000) : insAt (List.replicate at_ 0 ++ l) at_ = some i := by
  have hp : (List.replicate at_ (0 : Int)).length = at_ := List.length_replicate
  have hz : (List.replicate at_ (0 : Int)).all isByte = true := by
    rw [List.all_eq_true]
    intro x hx
    rw [(List.mem_replicate.1 hx).2]
    rfl
  have hc : isCode (List.replicate at_ 0 ++ l) = true := by
    unfold isCode
    rw [List.all_append, hz, put_bytes h, decide_eq_true (by rw [List.length_append, hp]; omega)]
    rfl
  have hlt : ((at_ : Int)) < ((List.replicate at_ (0 : Int) ++ l).length : Nat) := by rw [List.length_append, hp]; omega
  unfold insAt
  rw [hc, decide_eq_true (by omega : (0 : Int) ≤ at_), decide_eq_true hlt, if_pos (by decide), Int.toNat_natCast]
  exact put_back h hp
theorem jump_near {i : IIns} {f : IForm} (hf : formOf i = some f) (hj : isJump i = true) : ∀ c ∈ letters f.follows, letterFit c i (i.n + longOf (letters f.follows)) = true := by
  obtain ⟨hm, ht⟩ := formOf_mem hf
  intro c hc
  have hs := (tab_letters f hm).2
  have hb := longOf_bd (letters f.follows)
  rw [letters_len] at hb
  unfold letterFit
  split
  · simp [inR, lo, hi]; omega
  · rfl
theorem tab_near : ∀ k, k < 33 → ∀ c ∈ letters (tab.getD k .none).follows, c = 110 → (tab.getD k .none).op = 27 ∨ (tab.getD k .none).op = 28 := by decide +kernel
theorem put_exists {i : IIns} {at_ : Int} (hv : validIns i = true) (h0 : 0 ≤ at_) (h1 : at_ ≤ 1999) (hj : isJump i = true → at_ = i.n) : ∃ l, insPut i at_ = some l := by
  have hs := some_valid i
  rw [hv] at hs
  obtain ⟨f, hf⟩ := Option.isSome_iff_exists.1 hs
  obtain ⟨hm, ht⟩ := formOf_mem hf
  have hop := (takes_iff.1 ht).1
  have hfit : (letters f.follows).all (fun c => letterFit c i (at_ + longOf (letters f.follows))) = true := by
    rw [List.all_eq_true]
    intro c hc
    by_cases h110 : c = 110
    · obtain ⟨k, hk, ek⟩ := tab_at hm
      have hk2 := tab_near k hk c (by rw [ek]; exact hc) h110
      rw [ek, ← hop] at hk2
      have hjj : isJump i = true := by
        unfold isJump
        rcases hk2 with e | e <;> rw [e] <;> rfl
      rw [hj hjj]
      exact jump_near hf hjj c hc
    · unfold letterFit; rw [if_neg h110]
  have hin : inR 8 at_ = true := by simp [inR, lo, hi]; omega
  refine ⟨firstByte f i :: putList (letters f.follows) i (at_ + longOf (letters f.follows)), ?_⟩
  unfold insPut
  rw [hf]
  simp only
  rw [if_pos hin, if_pos hfit]
theorem jump_n {i : IIns} (hv : validIns i = true) (hj : isJump i = true) : 0 ≤ i.n ∧ i.n ≤ 1999 := by
  obtain ⟨op, a, b, n⟩ := i
  have : op = 27 ∨ op = 28 := by simpa [isJump] using hj
  rcases this with rfl | rfl
  all_goals
    simp [validIns, validAt, inRange, stab] at hv
    simp only
    omega
end Go.Proofs.Ytjfjcppabbifhaa.C2
