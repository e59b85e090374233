/- begun: what a first byte tells of an instruction. -/
import Derived.Test.YtihhpgklpichgaaGreatC2i
import Derived.Deep.RegionWith
import Derived.Deep.DeepCutAuto
set_option linter.unusedSimpArgs false
set_option linter.unusedVariables false
namespace Go.Proofs.YtihhpgklpichgaaGreat.C2
open Go.RowKit Pl Ft Mm In

def begunIns (f : IForm) (first : Int) : IIns := if f.added = 1 then ⟨f.op, first - f.first, 0, 0⟩ else if f.added = 2 then ⟨f.op, lo f.a, first - f.first, 0⟩ else ⟨f.op, lo f.a, 0, 0⟩
def begunOk (f : IForm) (first : Int) : Bool := if f.added = 1 then inR f.a (first - f.first) else if f.added = 2 then inR f.b (first - f.first) else first - f.first == 0
set_option maxHeartbeats 1000000 in
theorem begun_c (f : IForm) (x : Int) (h0 : 0 ≤ f.first) (h1 : f.first ≤ 255) (h2 : -1000 ≤ x) (h3 : x ≤ 1000) (w : World) :
    Calls Tryz.prog 189 #[f.val, .int .i64 x] w fun e w' => e = .returned (.tuple #[(begunIns f x).val, .bool (begunOk f x)]) ∧ Below w.heap.size w w' := by
  obtain ⟨op, first, added, fa, fb, fn, fol, txt⟩ := f
  simp only at h0 h1
  obtain ⟨la, hla⟩ : ∃ y, lo fa = y := ⟨_, rfl⟩
  have HLa := hid hla
  clear hla
  unfold IForm.val
  simp only
  by_cases e1 : added = 1
  · have hi1 : begunIns ⟨op, first, added, fa, fb, fn, fol, txt⟩ x = ⟨op, x - first, 0, 0⟩ := by simp [begunIns, e1]
    have hi2 : begunOk ⟨op, first, added, fa, fb, fn, fol, txt⟩ x = inR fa (x - first) := by simp [begunOk, e1]
    rw [hi1, hi2]
    clear hi1 hi2
    subst e1
    have wx : IntKind.i64.wrap (x - first) = x - first := IntWalk.i64_in _ (by omega)
    unfold IIns.val
    simp only
    go_enter Tryz.func189, Tryz.ntmps189
    go_wp2_with (go_at_call 187; refine (ends_c _ _).mono ?_; rw [HLa.out]; rintro e w' ⟨rfl, rfl⟩)
    go_region_with (go_at_call 170; refine (has_c _ _ _).mono ?_; rintro e w' ⟨rfl, rfl⟩)
    all_goals
      go_wp2_with fail
      refine bodyPost_ret (v := .tuple #[.agg #[.int .i64 op, .int .i64 (x - first), .int .i64 0, .int .i64 0], .bool (inR fa (x - first))]) (by simp [results, Tryz.results189, go_sem]) rfl ⟨rfl, ?_⟩
      repeat' first | exact Below.refl _ _ | (refine Below.setCell ?_ (by simp; try omega) _) | (refine Below.alloc ?_ (by simp; try omega) _) | refine Below.drew ?_
  · have e1' : (added == 1) = false := by simpa using e1
    by_cases e2 : added = 2
    · have hi1 : begunIns ⟨op, first, added, fa, fb, fn, fol, txt⟩ x = ⟨op, la, x - first, 0⟩ := by simp [begunIns, e2, HLa.out]
      have hi2 : begunOk ⟨op, first, added, fa, fb, fn, fol, txt⟩ x = inR fb (x - first) := by simp [begunOk, e2]
      rw [hi1, hi2]
      clear hi1 hi2 e1 e1'
      subst e2
      have wx : IntKind.i64.wrap (x - first) = x - first := IntWalk.i64_in _ (by omega)
      unfold IIns.val
      simp only
      go_enter Tryz.func189, Tryz.ntmps189
      go_wp2_with (go_at_call 187; refine (ends_c _ _).mono ?_; rw [HLa.out]; rintro e w' ⟨rfl, rfl⟩)
      go_region_with (go_at_call 170; refine (has_c _ _ _).mono ?_; rintro e w' ⟨rfl, rfl⟩)
      all_goals
        go_wp2_with fail
        refine bodyPost_ret (v := .tuple #[.agg #[.int .i64 op, .int .i64 la, .int .i64 (x - first), .int .i64 0], .bool (inR fb (x - first))]) (by simp [results, Tryz.results189, go_sem]) rfl ⟨rfl, ?_⟩
        repeat' first | exact Below.refl _ _ | (refine Below.setCell ?_ (by simp; try omega) _) | (refine Below.alloc ?_ (by simp; try omega) _) | refine Below.drew ?_
    · have e2' : (added == 2) = false := by simpa using e2
      have hi1 : begunIns ⟨op, first, added, fa, fb, fn, fol, txt⟩ x = ⟨op, la, 0, 0⟩ := by simp [begunIns, e1, e2, HLa.out]
      have hi2 : begunOk ⟨op, first, added, fa, fb, fn, fol, txt⟩ x = (x - first == 0) := by simp [begunOk, e1, e2]
      rw [hi1, hi2]
      clear hi1 hi2 e1 e2
      unfold IIns.val
      simp only
      go_enter Tryz.func189, Tryz.ntmps189
      go_wp2_with (go_at_call 187; refine (ends_c _ _).mono ?_; rw [HLa.out]; rintro e w' ⟨rfl, rfl⟩)
      refine bodyPost_ret (v := .tuple #[.agg #[.int .i64 op, .int .i64 la, .int .i64 0, .int .i64 0], .bool (x - first == 0)]) (by simp [results, Tryz.results189, go_sem]) rfl ⟨rfl, ?_⟩
      repeat' first | exact Below.refl _ _ | (refine Below.setCell ?_ (by simp; try omega) _) | (refine Below.alloc ?_ (by simp; try omega) _) | refine Below.drew ?_
end Go.Proofs.YtihhpgklpichgaaGreat.C2
