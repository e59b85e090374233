/- The tails' with, and begun: what they return. -/
import Derived.Test.YtihhpgklpichgaaGreatC2h
set_option linter.unusedSimpArgs false
set_option linter.unusedVariables false
namespace Go.Proofs.YtihhpgklpichgaaGreat.C2
open Go.RowKit Pl Ft Mm In

/-- An instruction with what was read for a letter. -/
def letterWith (c : Nat) (i : IIns) (num next : Int) : IIns :=
  if c = 114 then { i with a := num / 16, b := num % 16 } else if c = 115 then { i with n := sgn num } else if c = 116 then { i with b := num } else if c = 110 then { i with n := next + sgn num } else { i with n := num }
theorem sgn_bd (x : Int) (h0 : 0 ≤ x) (h1 : x ≤ 255) : -128 ≤ sgn x ∧ sgn x ≤ 127 := by
  have e : inR 6 x = (decide (-128 ≤ x) && decide (x ≤ 127)) := rfl
  unfold sgn
  cases h : inR 6 x
  · rw [if_neg (by simp)]
    rw [e] at h
    simp at h
    omega
  · rw [if_pos rfl]
    rw [e] at h
    simp at h
    omega
theorem rWith_c (i : IIns) (num next : Int) (h0 : 0 ≤ num) (h1 : num ≤ 255) (w : World) : Calls Tryz.prog 215 #[.agg #[], i.val, .int .i64 num, .int .i64 next] w fun e w' => e = .returned (letterWith 114 i num next).val ∧ Below w.heap.size w w' := by
  obtain ⟨iop, ia, ib, n⟩ := i
  unfold IIns.val
  simp only [letterWith, if_true]
  go_enter Tryz.func215, Tryz.ntmps215
  go_wp2
  refine bodyPost_ret (v := .agg #[.int .i64 iop, .int .i64 (num / 16), .int .i64 (num % 16), .int .i64 n]) (by simp [results, Tryz.results215, go_sem]) rfl ⟨rfl, ?_⟩
  repeat' first | exact Below.refl _ _ | (refine Below.setCell ?_ (by simp; try omega) _) | (refine Below.alloc ?_ (by simp; try omega) _)
theorem nWith_c (c : Nat) (hc : c = 98 ∨ c = 119) (x : Int) (i : IIns) (num next : Int) (w : World) : Calls Tryz.prog 218 #[.agg #[.int .i64 x, .bool false], i.val, .int .i64 num, .int .i64 next] w fun e w' => e = .returned (letterWith c i num next).val ∧ Below w.heap.size w w' := by
  obtain ⟨iop, ia, ib, n⟩ := i
  have e1 : letterWith c ⟨iop, ia, ib, n⟩ num next = ⟨iop, ia, ib, num⟩ := by rcases hc with rfl | rfl <;> rfl
  rw [e1]
  clear e1
  unfold IIns.val
  simp only
  go_enter Tryz.func218, Tryz.ntmps218
  go_wp2
  refine bodyPost_ret (v := .agg #[.int .i64 iop, .int .i64 ia, .int .i64 ib, .int .i64 num]) (by simp [results, Tryz.results218, go_sem]) rfl ⟨rfl, ?_⟩
  repeat' first | exact Below.refl _ _ | (refine Below.setCell ?_ (by simp; try omega) _) | (refine Below.alloc ?_ (by simp; try omega) _)
theorem sWith_c (x : Int) (i : IIns) (num next : Int) (h0 : 0 ≤ num) (h1 : num ≤ 255) (w : World) : Calls Tryz.prog 218 #[.agg #[.int .i64 x, .bool true], i.val, .int .i64 num, .int .i64 next] w fun e w' => e = .returned (letterWith 115 i num next).val ∧ Below w.heap.size w w' := by
  obtain ⟨iop, ia, ib, n⟩ := i
  have e1 : letterWith 115 ⟨iop, ia, ib, n⟩ num next = ⟨iop, ia, ib, sgn num⟩ := rfl
  rw [e1]
  clear e1
  unfold IIns.val
  simp only
  go_enter Tryz.func218, Tryz.ntmps218
  go_wp2_with (go_at_call 219; refine (signedByte_c _ (by omega) (by omega) _).mono ?_; rintro e w' ⟨rfl, rfl⟩)
  refine bodyPost_ret (v := .agg #[.int .i64 iop, .int .i64 ia, .int .i64 ib, .int .i64 (sgn num)]) (by simp [results, Tryz.results218, go_sem]) rfl ⟨rfl, ?_⟩
  repeat' first | exact Below.refl _ _ | (refine Below.setCell ?_ (by simp; try omega) _) | (refine Below.alloc ?_ (by simp; try omega) _)
theorem cWith_c (i : IIns) (num next : Int) (w : World) : Calls Tryz.prog 222 #[.agg #[], i.val, .int .i64 num, .int .i64 next] w fun e w' => e = .returned (letterWith 116 i num next).val ∧ Below w.heap.size w w' := by
  obtain ⟨iop, ia, ib, n⟩ := i
  have e1 : letterWith 116 ⟨iop, ia, ib, n⟩ num next = ⟨iop, ia, num, n⟩ := rfl
  rw [e1]
  clear e1
  unfold IIns.val
  simp only
  go_enter Tryz.func222, Tryz.ntmps222
  go_wp2
  refine bodyPost_ret (v := .agg #[.int .i64 iop, .int .i64 ia, .int .i64 num, .int .i64 n]) (by simp [results, Tryz.results222, go_sem]) rfl ⟨rfl, ?_⟩
  repeat' first | exact Below.refl _ _ | (refine Below.setCell ?_ (by simp; try omega) _) | (refine Below.alloc ?_ (by simp; try omega) _)
theorem jWith_c (i : IIns) (num next : Int) (h0 : 0 ≤ num) (h1 : num ≤ 255) (h2 : 0 ≤ next) (h3 : next ≤ 100000) (w : World) : Calls Tryz.prog 225 #[.agg #[], i.val, .int .i64 num, .int .i64 next] w fun e w' => e = .returned (letterWith 110 i num next).val ∧ Below w.heap.size w w' := by
  obtain ⟨iop, ia, ib, n⟩ := i
  have e1 : letterWith 110 ⟨iop, ia, ib, n⟩ num next = ⟨iop, ia, ib, next + sgn num⟩ := rfl
  rw [e1]
  clear e1
  have hs := sgn_bd num h0 h1
  obtain ⟨s0, s1⟩ := hs
  unfold IIns.val
  simp only
  go_enter Tryz.func225, Tryz.ntmps225
  go_wp2_with (go_at_call 219; refine (signedByte_c _ (by omega) (by omega) _).mono ?_; rintro e w' ⟨rfl, rfl⟩)
  refine bodyPost_ret (v := .agg #[.int .i64 iop, .int .i64 ia, .int .i64 ib, .int .i64 (next + sgn num)]) (by simp [results, Tryz.results225, go_sem]) rfl ⟨rfl, ?_⟩
  repeat' first | exact Below.refl _ _ | (refine Below.setCell ?_ (by simp; try omega) _) | (refine Below.alloc ?_ (by simp; try omega) _)
end Go.Proofs.YtihhpgklpichgaaGreat.C2
