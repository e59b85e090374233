/- The table of instructions: what the program's functions over it return (ends, has, takes, insForms, formOf). -/
import Derived.Test.YtihhpgklpichgaaGreatRows
import Derived.Test.YtihhpgklpichgaaGreatFormTab
import Derived.Test.YtihhpgklpichgaaGreatRun
import Derived.WalkKit
import Derived.Outline
import Derived.Handy
import Derived.BigQuiet
import Derived.Deep.QuietTactic
import Derived.Deep.LoopGhost
import Derived.WalkLawsBesides
import Derived.Laws.Rows
import Derived.Great.Walk
import Derived.Great.BuildSlice
import Derived.Deep.WholeRow
set_option linter.unusedSimpArgs false
set_option linter.unusedVariables false
namespace Go.Proofs.YtihhpgklpichgaaGreat.C2
open Go.RowKit Pl Ft

theorem rng_of (r : Int) : (r = 1 ∨ r = 2 ∨ r = 3 ∨ r = 4 ∨ r = 5 ∨ r = 6 ∨ r = 7 ∨ r = 8) ∨ ((r == 1) = false ∧ (r == 2) = false ∧ (r == 3) = false ∧ (r == 4) = false ∧ (r == 5) = false ∧ (r == 6) = false ∧ (r == 7) = false ∧ (r == 8) = false) := by
  simp; omega
theorem ends_c (r : Int) (w : World) :
    Calls Tryz.prog 187 #[.int .i64 r] w fun e w' => e = .returned (.tuple #[.int .i64 (lo r), .int .i64 (hi r)]) ∧ w = w' := by
  rcases rng_of r with (rfl | rfl | rfl | rfl | rfl | rfl | rfl | rfl) | ⟨h1, h2, h3, h4, h5, h6, h7, h8⟩
  case inr =>
    have H1 := hid h1; have H2 := hid h2; have H3 := hid h3; have H4 := hid h4; have H5 := hid h5; have H6 := hid h6; have H7 := hid h7; have H8 := hid h8
    go_enter Tryz.func187, Tryz.ntmps187
    go_wp2
    go_ret2
    have := H1.out; have := H2.out; have := H3.out; have := H4.out; have := H5.out; have := H6.out; have := H7.out; have := H8.out
    simp_all [lo, hi]
  all_goals
    go_enter Tryz.func187, Tryz.ntmps187
    go_wp2
    go_ret2
    exact ⟨rfl, rfl⟩
theorem has_c (r n : Int) (w : World) :
    Calls Tryz.prog 170 #[.int .i64 r, .int .i64 n] w fun e w' => e = .returned (.bool (inR r n)) ∧ w = w' := by
  cases h : decide (lo r ≤ n)
  all_goals
    go_enter Tryz.func170, Tryz.ntmps170
    go_wp2_with (go_at_call 187; refine (ends_c _ _).mono ?_; rintro e w' ⟨rfl, rfl⟩)
    go_ret
    exact ⟨bool_eq (by simp [inR, h]), rfl⟩
theorem takes_c (f : IForm) (i : IIns) (w : World) :
    Calls Tryz.prog 177 #[f.val, i.val] w fun e w' => e = .returned (.bool (takes f i)) ∧ Below w.heap.size w w' := by
  obtain ⟨op, first, added, fa, fb, fn, fol, txt⟩ := f
  obtain ⟨iop, ia, ib, n⟩ := i
  unfold IForm.val IIns.val takes
  simp only
  have c2 := (Below.refl w.heap.size w).alloc (Nat.le_refl _) (.cells #[.int .i64 op, .int .i64 first, .int .i64 added, .int .i64 fa, .int .i64 fb, .int .i64 fn, .string fol, .string txt] 196) |>.alloc (by simp) (.cells #[.int .i64 iop, .int .i64 ia, .int .i64 ib, .int .i64 n] 70)
  cases h1 : iop == op
  · go_enter Tryz.func177, Tryz.ntmps177
    go_wp2_with fail
    go_ret
    exact ⟨bool_eq (by simp), c2⟩
  · obtain rfl : iop = op := by simpa using h1
    clear h1
    cases h2 : inR fa ia
    · go_enter Tryz.func177, Tryz.ntmps177
      go_wp2_with (go_at_call 170; refine (has_c _ _ _).mono ?_; rintro e w' ⟨rfl, rfl⟩)
      go_ret
      exact ⟨bool_eq (by simp), c2⟩
    · cases h3 : inR fb ib
      all_goals
        go_enter Tryz.func177, Tryz.ntmps177
        go_wp2_with (go_at_call 170; refine (has_c _ _ _).mono ?_; rintro e w' ⟨rfl, rfl⟩)
        go_ret
        exact ⟨bool_eq (by simp), c2⟩
theorem tab_size : (Tryz.prog.info? 217).map (·.size) = some tabCells.size := by kernel_rfl
theorem tab_zsize : tabZero.size = tabCells.size := by kernel_rfl
theorem tab_one : tabCells.all (·.oneCell') = true := by kernel_rfl
theorem forms_c (w : World) :
    Calls Tryz.prog 188 #[] w fun e w' => e = .returned (.agg tabCells) ∧ Below w.heap.size w w' := by
  go_enter Tryz.func188, Tryz.ntmps188
  go_step
  go_step
  go_step
  refine Great.wpList_runTo rfl _ rfl (.pointer (some ⟨w.heap.size, 0, none⟩)) (w.alloc (.cells tabZero 217)) (by kernel_rfl) ?_
  go_step
  go_step
  go_step
  go_step
  go_step
  refine Rn.wpList_builds2 34 _ _ (.tmp 0) (.tmp 34) (.pointer (some ⟨w.heap.size, 0, none⟩)) (.agg tabCells) [] (by kernel_rfl) ?_
  intro a' h0 h34 hd
  refine wpList_store_rowTo rfl 217 (.tmp 0) (.tmp 34) rfl rfl w.heap.size tabCells h0 h34 217 tabZero (heap_alloc_last w _) tab_size tab_zsize tab_one ?_
  go_step
  go_step
  rw [World.setRow_alloc_new]
  go_step
  go_step
  exact bodyPost_ret (v := .agg tabCells) (results_cell_row rfl _ _ w.heap.size 217 tabCells (0, 0) _ h0 (heap_alloc_last w _) Tryz.underlying217 rfl tab_size) hd ⟨rfl, (Below.refl _ _).alloc (Nat.le_refl _) _⟩
theorem tab_index : ∀ k : Nat, k < 33 → ∀ w : World, (Instr.index 217 (.agg tabCells) (.int .i64 k)).run Tryz.prog w = .ok (tab.getD k .none).val w := by
  intro k hk
  match k, hk with
  | 0, _ => intro w; kernel_rfl
  | 1, _ => intro w; kernel_rfl
  | 2, _ => intro w; kernel_rfl
  | 3, _ => intro w; kernel_rfl
  | 4, _ => intro w; kernel_rfl
  | 5, _ => intro w; kernel_rfl
  | 6, _ => intro w; kernel_rfl
  | 7, _ => intro w; kernel_rfl
  | 8, _ => intro w; kernel_rfl
  | 9, _ => intro w; kernel_rfl
  | 10, _ => intro w; kernel_rfl
  | 11, _ => intro w; kernel_rfl
  | 12, _ => intro w; kernel_rfl
  | 13, _ => intro w; kernel_rfl
  | 14, _ => intro w; kernel_rfl
  | 15, _ => intro w; kernel_rfl
  | 16, _ => intro w; kernel_rfl
  | 17, _ => intro w; kernel_rfl
  | 18, _ => intro w; kernel_rfl
  | 19, _ => intro w; kernel_rfl
  | 20, _ => intro w; kernel_rfl
  | 21, _ => intro w; kernel_rfl
  | 22, _ => intro w; kernel_rfl
  | 23, _ => intro w; kernel_rfl
  | 24, _ => intro w; kernel_rfl
  | 25, _ => intro w; kernel_rfl
  | 26, _ => intro w; kernel_rfl
  | 27, _ => intro w; kernel_rfl
  | 28, _ => intro w; kernel_rfl
  | 29, _ => intro w; kernel_rfl
  | 30, _ => intro w; kernel_rfl
  | 31, _ => intro w; kernel_rfl
  | 32, _ => intro w; kernel_rfl
  | k + 33, h => omega
end Go.Proofs.YtihhpgklpichgaaGreat.C2
