/- The model's table of instructions (forms) and validIns: what they return. -/
import Derived.Test.YtihhpgklpichgaaGreatRows
import Derived.Test.YtihhpgklpichgaaGreatFormTab
import Derived.Test.YtihhpgklpichgaaGreatRun
import Derived.Test.YtihhpgklpichgaaGreatMem
import Derived.WalkKit
import Derived.Outline
import Derived.Handy
import Derived.BigQuiet
import Derived.Deep.QuietTactic
import Derived.Deep.LoopGhost
import Derived.WalkLawsBesides
import Derived.Laws.Rows
import Derived.Laws.OwnMore
import Derived.OwnWalk
import Derived.Great.Walk
import Derived.Great.BuildSlice
set_option linter.unusedSimpArgs false
set_option linter.unusedVariables false
namespace Go.Proofs.YtihhpgklpichgaaGreat.C2
open Go.RowKit Pl Ft Mm

theorem info_form : (Tryz.prog.info? 124).map (fun i => (i.zero, i.size, i.bytes)) = some (some (.agg SForm.none.cells.toArray), 7, 64) := by kernel_rfl
def twos (k : Nat) : List Value := (List.range k).flatMap fun j => (stwo j).cells
theorem twos_succ (k : Nat) : twos (k + 1) = twos k ++ (stwo k).cells := by simp [twos, List.range_succ]
theorem sform_one (f : SForm) : ∀ u ∈ f.cells, u.oneCell' = true := by
  intro u hu
  simp only [SForm.cells, List.mem_cons, List.not_mem_nil, or_false] at hu
  rcases hu with rfl | rfl | rfl | rfl | rfl | rfl | rfl <;> rfl
theorem sforms_one (l : List SForm) : ∀ u ∈ l.flatMap SForm.cells, u.oneCell' = true := by
  intro u hu
  obtain ⟨f, _, h⟩ := List.mem_flatMap.1 hu
  exact sform_one f u h
theorem twos_one (k : Nat) : ∀ u ∈ twos k, u.oneCell' = true := by
  intro u hu
  obtain ⟨j, _, h⟩ := List.mem_flatMap.1 hu
  exact sform_one _ u h
set_option maxRecDepth 100000 in
set_option maxHeartbeats 1000000 in
theorem sforms_c (w : World) :
    Calls Tryz.prog 106 #[] w fun e w' => ∃ g cap, e = .returned (.slice (some ⟨g, 0, none⟩) 31 cap) ∧ w'.ownsRow w.heap.size 124 7 (.slice (some ⟨g, 0, none⟩) 31 cap) 31 (stab.flatMap SForm.cells) ∧ Below w.heap.size w w' := by
  obtain ⟨i0, hi, hz0, hz1, hz2⟩ := info_parts info_form
  have H0 := hid hz0
  have H1 := hid hz1
  have H2 := hid hz2
  have HI := hid hi
  clear hz0 hz1 hz2 hi
  go_enter Tryz.func106, Tryz.ntmps106
  go_wp2_with fail
  go_loopw [3, 4] (fun v c wr => ∃ k : Nat, k ≤ 9 ∧ c = .int .i64 k ∧ wr.ownsRow w.heap.size 124 7 v k (twos k) ∧ Below w.heap.size w wr) (fun _ c _ => 9 - (intOf c).toNat)
  case atStart => exact ⟨0, by omega, rfl, World.ownsRow_lit (base := w.heap.size) w #[] 0 (Nat.le_refl _) (by decide) rfl, (Below.refl _ _).alloc (Nat.le_refl _) _⟩
  case round =>
    obtain ⟨k, hk, rfl, hown, hbel⟩ := hrel
    have HO := hid hown
    have HB := hid hbel
    have hsz := hbel.size
    clear hown hbel
    by_cases hlt : k < 9
    · go_wp2_with (at_builtin; refine wpList_append_own _ rfl _ _ 125 rfl w.heap.size 124 i0 (.agg SForm.none.cells.toArray) 7 64 Tryz.underlying125 HI.out H0.out H1.out H2.out rfl (by decide) _ k (twos k) rfl (HO.out.alloc _) ⟨wr.heap.size, 0, none⟩ 1 1 (stwo k).cells rfl rfl ?c1 ?c2 ?c3 ?c4 ?c5 ?_)
      case c1 => exact new_cells wr _ _ _ rfl
      case c2 => exact sform_one _
      case c3 => simp only [maxLen]; omega
      case c4 => omega
      case c5 => simp; omega
      intro v' w1 hown' hgrow _
      rw [← twos_succ] at hown'
      have HO' := hid hown'
      have HB' := hid ((HB.out.alloc hsz _).grown hgrow (by simp; omega) (fun g hg => (HO.out.lt g hg).1))
      clear hown' hgrow
      go_wp2
      go_roundw
      case rel => exact ⟨k + 1, by omega, by go_num, HO'.out, HB'.out⟩
      case measure => simp [intOf]; omega
    · obtain rfl : k = 9 := by omega
      obtain ⟨g, cap, hv⟩ : ∃ g cap, u3 = .slice (some ⟨g, 0, none⟩) 9 cap := by
        rcases HO.out.2 with ⟨_, h⟩ | ⟨g, cap, _, h, _⟩
        · omega
        · exact ⟨g, cap, h⟩
      subst hv
      have hcl := hid (HO.out.cells (g := g) rfl)
      have hg2 := (HO.out.lt g rfl).2
      go_wp2_with (at_builtin; refine wpList_append_own _ rfl (.tmp 31) (.tmp 32) 125 rfl w.heap.size 124 i0 (.agg SForm.none.cells.toArray) 7 64 Tryz.underlying125 HI.out H0.out H1.out H2.out rfl (by decide) _ 7 ((stab.take 7).flatMap SForm.cells) rfl ?c0 ⟨g, 0, none⟩ 9 cap (twos 9) rfl rfl ?c1 ?c2 ?c3 ?c4 ?c5 ?_)
      case c0 => exact World.ownsRow_lit (base := w.heap.size) wr _ 7 hsz (by decide) rfl
      case c1 =>
        intro j u hu
        have e : (⟨g, 0, none⟩ : Addr).add j = ⟨g, j, none⟩ := by unfold Addr.add; split <;> simp_all
        have := hcl.out j u hu
        rw [e] at this ⊢
        rw [World.cell?_of_block (w := wr) (Below.heap_alloc wr _ g hg2)]
        exact this
      case c2 => exact twos_one 9
      case c3 => decide
      case c4 => decide
      case c5 => simp; omega
      intro v' w1 hown' hgrow _
      have hsz1 : w.heap.size ≤ w1.heap.size := by have := hgrow.size; simp at this; omega
      have HB' := hid ((HB.out.alloc hsz (.cells ((stab.take 7).flatMap SForm.cells).toArray 124)).grown hgrow (by simp; omega) (fun g hg => by simp [Value.ownBlock] at hg; omega))
      have HO' := hid hown'
      clear hown' hgrow
      refine Rn.wpList_runsTo (fun a' => (Tryz.prog.builtSlice 124 15 ((#[(0, .tmp 35), (1, .tmp 37), (2, .tmp 39), (3, .tmp 42), (4, .tmp 45), (5, .tmp 48), (6, .tmp 51), (7, .tmp 53), (8, .tmp 55), (9, .tmp 56), (10, .tmp 57), (11, .tmp 59), (12, .tmp 61), (13, .tmp 63), (14, .tmp 66)] : Array (Nat × Operand)).map fun (i, x) => (i, a'.eval x)).toList, a'.eval (.tmp 33), a'.defers, a'.tmps.size)) (some ((stab.drop 16).flatMap SForm.cells).toArray, v', [], 70) 33 _ _ (by kernel_rfl) ?_
      intro a' ha'
      simp only [Prod.mk.injEq] at ha'
      obtain ⟨hb, h33, hd, hs⟩ := ha'
      simp only [List.drop_succ_cons, List.drop_zero]
      refine Great.wpList_buildSliceTo rfl 125 124 15 #[(0, .tmp 35), (1, .tmp 37), (2, .tmp 39), (3, .tmp 42), (4, .tmp 45), (5, .tmp 48), (6, .tmp 51), (7, .tmp 53), (8, .tmp 55), (9, .tmp 56), (10, .tmp 57), (11, .tmp 59), (12, .tmp 61), (13, .tmp 63), (14, .tmp 66)] rfl w1.heap.size rfl (some 67) rfl Tryz.underlying125 _ hb ?_
      refine wpList_append_own _ rfl (.tmp 33) (.tmp 67) 125 rfl w.heap.size 124 i0 (.agg SForm.none.cells.toArray) 7 64 Tryz.underlying125 HI.out H0.out H1.out H2.out rfl (by decide) v' 16 _ ((Rn.eval_put_ne (by decide)).trans h33) (HO'.out.alloc _) ⟨w1.heap.size, 0, none⟩ 15 15 ((stab.drop 16).flatMap SForm.cells) (Rn.eval_put (by omega)) rfl (new_cells w1 _ _ _ rfl) (sforms_one _) (by decide) (by decide) (by simp; omega) ?_
      intro v2 w2 hown2 hgrow2 _
      have HB2 := hid ((HB'.out.alloc hsz1 _).grown hgrow2 (by simp; omega) (fun g hg => (HO'.out.lt g hg).1))
      obtain ⟨g2, cap2, hv2⟩ : ∃ g cap, v2 = .slice (some ⟨g, 0, none⟩) 31 cap := by
        rcases hown2.2 with ⟨_, h⟩ | ⟨g, cap, _, h, _⟩
        · omega
        · exact ⟨g, cap, h⟩
      subst hv2
      have HO2 := hid hown2
      clear hown2 hgrow2
      obtain ⟨a2, ea2⟩ : ∃ a2, (a'.put (some 67) (.slice (some ⟨w1.heap.size, 0, none⟩) 15 15)).put (some 68) (.slice (some ⟨g2, 0, none⟩) 31 cap2) = a2 := ⟨_, rfl⟩
      have h68 : a2.eval (.tmp 68) = .slice (some ⟨g2, 0, none⟩) 31 cap2 := by
        rw [← ea2]; exact Rn.eval_put (by rw [Rn.size_put]; omega)
      have hd2 : a2.defers = [] := by rw [← ea2]; exact hd
      have hs2 : a2.tmps.size = 70 := by rw [← ea2, Rn.size_put, Rn.size_put]; exact hs
      rw [ea2]
      refine Rn.wpList_quietOp (v := .slice (some ⟨g2, 0, none⟩) 31 cap2) (congrArg some h68) ?_
      go_step
      go_step
      go_step
      go_step
      go_step
      obtain ⟨a3, ea3⟩ : ∃ a3, a2.put (some 5) (.slice (some ⟨g2, 0, none⟩) 31 cap2) = a3 := ⟨_, rfl⟩
      have h5 : a3.eval (.tmp 5) = .slice (some ⟨g2, 0, none⟩) 31 cap2 := by rw [← ea3]; exact Rn.eval_put (by omega)
      have hd3 : a3.defers = [] := by rw [← ea3]; exact hd2
      have hs3 : a3.tmps.size = 70 := by rw [← ea3, Rn.size_put]; exact hs2
      rw [ea3]
      refine Rn.wpList_quietOp (v := .slice (some ⟨g2, 0, none⟩) 31 cap2) (congrArg some h5) ?_
      refine Rn.wpList_quietOp (v := .slice (some ⟨g2, 0, none⟩) 31 cap2) (congrArg some (Rn.eval_put (by omega))) ?_
      go_step
      go_step
      go_step
      go_step
      refine bodyPost_ret (results_tmp rfl _ _ _) hd3 ⟨g2, cap2, ?_, ?_, HB2.out⟩
      · congr 1
        exact Rn.eval_put (by rw [Rn.size_put]; omega)
      · exact HO2.out
end Go.Proofs.YtihhpgklpichgaaGreat.C2
