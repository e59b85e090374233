/- The text of an instruction tells its number: plain facts. -/
import Derived.Test.YtcpkkedhgmnonaaDoorTx5
set_option linter.unusedSimpArgs false
set_option linter.unusedVariables false
namespace Go.Proofs.YtcpkkedhgmnonaaDoor.Tx
open Go.RowKit Pl Ft Mm In C2 Im

def valOf (l : List UInt8) : Nat := l.foldl (fun a c => 10 * a + (c.toNat - 48)) 0
theorem val_app (a : List UInt8) (c : UInt8) : valOf (a ++ [c]) = 10 * valOf a + (c.toNat - 48) := by simp [valOf]
theorem digit_nat (k : Nat) (h : k < 10) : (UInt8.ofNat (48 + k)).toNat = 48 + k := by
  rw [UInt8.toNat_ofNat']
  omega
theorem val_dec (u : Nat) : valOf (Lib.decDigits u) = u := by
  induction u using Nat.strongRecOn with
  | _ u ih =>
    rw [Lib.decDigits]
    split
    · rename_i h
      have e := val_app [] (UInt8.ofNat (48 + u))
      rw [List.nil_append] at e
      rw [e, digit_nat u h]
      simp [valOf]
    · rename_i h
      rw [val_app, ih (u / 10) (by omega), digit_nat _ (by omega)]
      omega
theorem dec_ge (u : Nat) : ∀ c ∈ Lib.decDigits u, 48 ≤ c.toNat := by
  induction u using Nat.strongRecOn with
  | _ u ih =>
    rw [Lib.decDigits]
    split
    · rename_i h
      intro c hc
      simp only [List.mem_singleton] at hc
      rw [hc, digit_nat u h]
      omega
    · rename_i h
      intro c hc
      rw [List.mem_append] at hc
      rcases hc with hc | hc
      · exact ih (u / 10) (by omega) c hc
      · simp only [List.mem_singleton] at hc
        rw [hc, digit_nat _ (by omega)]
        omega
theorem dec_ne45 (u : Nat) (r : List UInt8) : Lib.decDigits u ≠ 45 :: r := by
  intro h
  have := dec_ge u 45 (by rw [h]; exact List.mem_cons_self)
  revert this
  decide
theorem itoa_inj {x y : Int} (h : Lib.itoa x = Lib.itoa y) : x = y := by
  unfold Lib.itoa at h
  split at h
  · split at h
    · have h2 := congrArg valOf (List.cons.inj h).2
      rw [val_dec, val_dec] at h2
      omega
    · exact absurd h.symm (dec_ne45 _ _)
  · split at h
    · exact absurd h (dec_ne45 _ _)
    · have h2 := congrArg valOf h
      rw [val_dec, val_dec] at h2
      omega
theorem txt_inj {x y : Int} (h : txt x = txt y) : x = y := by
  unfold txt at h
  have h2 := congrArg (fun b : ByteArray => b.data.toList) h
  simp only at h2
  exact itoa_inj h2
theorem app_cancel {s t u : ByteArray} (h : s ++ t = s ++ u) : t = u := by
  have h2 := congrArg (fun b : ByteArray => b.data.toList) h
  simp only [data_app] at h2
  exact bytes_ext (List.append_cancel_left h2)
theorem text_next {op a b n : Int} (hv : validIns ⟨op, a, b, n⟩ = true) (hv2 : validIns ⟨op, a, b, n + 1⟩ = true) : sText ⟨op, a, b, n⟩ ≠ sText ⟨op, a, b, n + 1⟩ := by
  intro h
  have hj : isJump ⟨op, a, b, n + 1⟩ = isJump ⟨op, a, b, n⟩ := rfl
  unfold sText at h
  rw [hj] at h
  split at h
  · have h3 : ∀ m, farOf (headOf ⟨op, a, b, m⟩) ⟨op, a, b, m⟩ = ((if a = 1 then headOf ⟨op, a, b, 0⟩ ++ ⟨#[32, 102, 97, 114]⟩ else headOf ⟨op, a, b, 0⟩) ++ ⟨#[32]⟩) ++ txt m := fun m => rfl
    rw [h3, h3] at h
    have := txt_inj (app_cancel h)
    omega
  · obtain ⟨f, hf⟩ : ∃ f, stab.getD op.toNat .none = f := ⟨_, rfl⟩
    have h3 : ∀ m, withN f (withB f (withA f (headOf ⟨op, a, b, m⟩) ⟨op, a, b, m⟩) ⟨op, a, b, m⟩) ⟨op, a, b, m⟩ = if f.low < f.high then (withB f (withA f (headOf ⟨op, a, b, 0⟩) ⟨op, a, b, 0⟩) ⟨op, a, b, 0⟩ ++ ⟨#[32]⟩) ++ txt m else withB f (withA f (headOf ⟨op, a, b, 0⟩) ⟨op, a, b, 0⟩) ⟨op, a, b, 0⟩ := fun m => rfl
    simp only at h
    rw [hf, h3, h3] at h
    simp only [validIns, validAt, inRange, Bool.and_eq_true, decide_eq_true_eq] at hv hv2
    rw [hf] at hv hv2
    split at h
    · have := txt_inj (app_cancel h)
      omega
    · omega
end Go.Proofs.YtcpkkedhgmnonaaDoor.Tx
