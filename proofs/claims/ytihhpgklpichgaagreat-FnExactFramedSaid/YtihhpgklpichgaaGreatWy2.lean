/- The places to which one may go on: ways and leave of the program. -/
import Derived.Test.YtihhpgklpichgaaGreatWy
import Derived.Test.YtihhpgklpichgaaGreatMp
import Derived.RegionTactic
import Derived.BigRegion
import Derived.WalkSpells
set_option linter.unusedSimpArgs false
set_option linter.unusedVariables false
namespace Go.Proofs.YtihhpgklpichgaaGreat.Wk
open Go.RowKit Pl Ft Mm In C2 Im Sw

theorem nextWays_c (x : Int) (w : World) : Calls Tryz.prog 151 #[.agg #[.int .i64 x]] w (WaysPost [x] w) := by
  have hb := (Below.refl w.heap.size w).alloc (Nat.le_refl _) (.cells #[.int .i64 x] 147)
  go_enter Tryz.func151, Tryz.ntmps151
  go_wp2_with fail
  go_ret
  exact ⟨_, rfl, by simpa using one_lit (w.alloc (.cells #[.int .i64 x] 147)) [x] #[.int .i64 x] rfl (by simp) 1 rfl hb.size, hb.alloc hb.size _⟩
theorem jumpWays_c (x : Int) (w : World) : Calls Tryz.prog 208 #[.agg #[.int .i64 x]] w (WaysPost [x] w) := by
  have hb := (Below.refl w.heap.size w).alloc (Nat.le_refl _) (.cells #[.int .i64 x] 143)
  go_enter Tryz.func208, Tryz.ntmps208
  go_wp2_with fail
  go_ret
  exact ⟨_, rfl, by simpa using one_lit (w.alloc (.cells #[.int .i64 x] 143)) [x] #[.int .i64 x] rfl (by simp) 1 rfl hb.size, hb.alloc hb.size _⟩
theorem ifWays_c (x y : Int) (w : World) : Calls Tryz.prog 209 #[.agg #[.int .i64 x, .int .i64 y]] w (WaysPost [x, y] w) := by
  have hb := (Below.refl w.heap.size w).alloc (Nat.le_refl _) (.cells #[.int .i64 x, .int .i64 y] 145)
  go_enter Tryz.func209, Tryz.ntmps209
  go_wp2_with fail
  go_ret
  exact ⟨_, rfl, by simpa using one_lit (w.alloc (.cells #[.int .i64 x, .int .i64 y] 145)) [x, y] #[.int .i64 x, .int .i64 y] rfl (by simp) 2 rfl hb.size, hb.alloc hb.size _⟩
theorem stopWays_c (w : World) : Calls Tryz.prog 207 #[.agg #[]] w (WaysPost [] w) := by
  have hb := (Below.refl w.heap.size w).alloc (Nat.le_refl _) (.cells #[] 141)
  go_enter Tryz.func207, Tryz.ntmps207
  go_wp2_with fail
  go_ret
  exact ⟨_, rfl, World.ownsRow_nil _ _ _ _, hb⟩
set_option maxRecDepth 100000 in
set_option maxHeartbeats 2000000 in
theorem tableWays_c (xs : List Int) (B : Nat) (v : Value) (wh : Bool) (x : Int) (w : World) (h : w.ownsRow B 3 1 v xs.length (ints xs)) (hl : xs.length ≤ 1000000) :
    Calls Tryz.prog 210 #[.agg #[v, .bool wh, .int .i64 x]] w (WaysPost (xs ++ [x]) w) := by
  have HO := hid h
  obtain ⟨s, c, rfl⟩ := own_slice h
  clear h
  have HX0 := hid (Row.new w 151 #[.slice s xs.length c, .bool wh, .int .i64 x])
  have HB0 := hid ((Below.refl w.heap.size w).alloc (Nat.le_refl _) (.cells #[.slice s xs.length c, .bool wh, .int .i64 x] 151))
  have HO0 := hid (HO.out.alloc (.cells #[.slice s xs.length c, .bool wh, .int .i64 x] 151))
  go_enter Tryz.func210, Tryz.ntmps210
  go_wp2_with fail
  have hz0 : w.heap.size < (w.alloc (.cells #[.slice s xs.length c, .bool wh, .int .i64 x] 151)).heap.size := by simp
  obtain ⟨g, hg⟩ : ∃ g, w.heap.size = g := ⟨_, rfl⟩
  rw [hg] at HX0 hz0
  try rw [hg]
  have HGe := hid hg
  clear hg
  generalize w.alloc (.cells #[.slice s xs.length c, .bool wh, .int .i64 x] 151) = w0 at HX0 HB0 HO0 hz0 ⊢
  have x0 := HX0.out.cell 0
  have x2 := HX0.out.cell 2
  simp at x0 x2
  have hal := (Below.refl w0.heap.size w0.drew).alloc (Nat.le_refl _) (.cells #[.int .i64 x] 3)
  have HAl := hid hal
  have HSl := hid (SrcAt.at_ w0.drew [x] #[.int .i64 x] _ 1 rfl rfl rfl)
  clear hal
  go_region_law (first
    | (refine stp_ints _ rfl _ _ rfl g xs [x] _ (by rfl) (by first | exact HV1.out.alloc _ | exact HV1.out) _ _ _ rfl rfl (by first | exact HSx.out | exact SrcAt.at_ _ [x] #[.int .i64 x] _ 1 rfl (by simp) rfl) (by simp; omega) (by first | (simp; omega) | omega) ?_; intro v2 w2 hg2; obtain ⟨s2, c2, rfl⟩ := own_slice hg2.own; have HG2 := hid hg2; clear hg2)
    | (go_simp; go_at_call 211; refine (clone_c xs B _ w0.drew (show w0.drew.ownsRow B 3 1 _ xs.length (ints xs) from HO0.out) hl).mono ?_; rintro e w1 ⟨v1, rfl, hv1, hb1⟩; obtain ⟨s1, c1, rfl⟩ := own_slice hv1; have HV1 := hid (own_mono hv1 (show g ≤ w0.drew.heap.size from (by have := HB0.out.size; have := HGe.out; simp only [World.drew]; omega))); have HB1 := hid (HB0.out.drew.trans (hb1.mono HB0.out.drew.size)); have HX1 := hid (HX0.out.drew.on hb1); have y2 := HX1.out.cell 2; simp at y2; have hz1 : g ≤ w1.heap.size := (by have := HB1.out.size; have := HGe.out; omega); clear hv1 hb1)
    | (go_simp; go_at_call 211; refine (clone_c xs B _ (w0.drew.alloc (.cells #[.int .i64 x] 3)) ((show w0.drew.ownsRow B 3 1 _ xs.length (ints xs) from HO0.out).alloc _) hl).mono ?_; rintro e w1 ⟨v1, rfl, hv1, hb1⟩; obtain ⟨s1, c1, rfl⟩ := own_slice hv1; have HV1 := hid (own_mono hv1 (show g ≤ (w0.drew.alloc (.cells #[.int .i64 x] 3)).heap.size from (by have := HB0.out.size; have := HGe.out; simp only [World.drew, World.size_alloc]; omega))); have HB1 := hid ((HB0.out.drew.alloc HB0.out.drew.size (.cells #[.int .i64 x] 3)).trans (hb1.mono (HB0.out.drew.alloc HB0.out.drew.size (.cells #[.int .i64 x] 3)).size)); have HSx := hid (HSl.out.on (fun p hp => hb1.cell hp)); have hz1 : g ≤ w1.heap.size := (by have := HB1.out.size; have := HGe.out; omega); clear hv1 hb1))
  all_goals
    have hown2 := HG2.out.own
    have hb2 := HG2.out.bel
    rw [← HGe.out] at hown2 hb2
    have HO2 := hid hown2
    have HB2 := hid hb2
    clear hown2 hb2
    go_wp2_with fail
    go_ret
    exact ⟨_, rfl, by have h := HO2.out; rw [show (xs ++ [x]).length = xs.length + 1 by simp] at h ⊢; exact h, by first | exact HB1.out.trans HB2.out | exact (HB1.out.alloc HB1.out.size _).trans HB2.out⟩
end Go.Proofs.YtihhpgklpichgaaGreat.Wk
