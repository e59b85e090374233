/- validIns, InsOk of the model: what they return. -/
import Derived.Test.YtihhpgklpichgaaGreatC2s
import Derived.Test.YtihhpgklpichgaaGreatC1
import Derived.Deep.RegionHeld3
import Derived.Deep.RegionWith
import Derived.Deep.DeepCutAuto
set_option linter.unusedSimpArgs false
set_option linter.unusedVariables false
namespace Go.Proofs.YtihhpgklpichgaaGreat.C2
open Go.RowKit Pl Ft Mm

/-- What holds while the model's form of an instruction is fetched. -/
structure VS (w : World) (i : IIns) (w' : World) : Prop where
  row : Row w' w.heap.size 70 #[.int .i64 i.op, .int .i64 i.a, .int .i64 i.b, .int .i64 i.n]
  bel : Below w.heap.size w w'
theorem VS.start (w : World) (i : IIns) : VS w i (w.alloc (.cells #[.int .i64 i.op, .int .i64 i.a, .int .i64 i.b, .int .i64 i.n] 70)) := ⟨Row.new _ _ _, (Below.refl _ _).alloc (Nat.le_refl _) _⟩
theorem VS.drew {w : World} {i : IIns} {w' : World} (h : VS w i w') : VS w i w'.drew := ⟨h.row, h.bel.drew⟩
theorem VS.alloc {w : World} {i : IIns} {w' : World} (h : VS w i w') (o : Obj) : VS w i (w'.alloc o) := ⟨h.row.alloc o, h.bel.alloc h.bel.size o⟩
theorem VS.on {w : World} {i : IIns} {w' w'' : World} (h : VS w i w') (hb : Below w'.heap.size w' w'') : VS w i w'' := ⟨h.row.on hb, h.bel.trans (hb.mono h.bel.size)⟩
theorem VS.cell {w : World} {i : IIns} {w' : World} (h : VS w i w') : w'.cell? ⟨w.heap.size, 0, none⟩ = some (.int .i64 i.op) := h.row.cell 0
theorem VS.lt {w : World} {i : IIns} {w' : World} (h : VS w i w') : w.heap.size < w'.heap.size := h.row.lt
/-- The cells of row k of the model's table. -/
structure Forms (w : World) (g : Nat) (k : Nat) (f : SForm) : Prop where
  c0 : w.cell? ⟨g, k * 7, none⟩ = some (.int .i64 f.first)
  c1 : w.cell? ⟨g, k * 7 + 1, none⟩ = some (.int .u8 f.plus)
  c2 : w.cell? ⟨g, k * 7 + 2, none⟩ = some (.int .i64 f.a)
  c3 : w.cell? ⟨g, k * 7 + 3, none⟩ = some (.int .i64 f.b)
  c4 : w.cell? ⟨g, k * 7 + 4, none⟩ = some (.int .i64 f.low)
  c5 : w.cell? ⟨g, k * 7 + 5, none⟩ = some (.int .i64 f.high)
  c6 : w.cell? ⟨g, k * 7 + 6, none⟩ = some (.string f.rest)
  lt : g < w.heap.size
theorem stab_len : stab.length = 31 := by decide +kernel
theorem sforms_at {w : World} {base g cap : Nat} {k : Nat} (hk : k ≤ 30) (h : w.ownsRow base 124 7 (.slice (some ⟨g, 0, none⟩) 31 cap) 31 (stab.flatMap SForm.cells)) : Forms w g k (stab.getD k .none) := by
  have key : ∀ j, j < 7 → w.cell? ⟨g, k * 7 + j, none⟩ = (stab.getD k .none).cells[j]? := fun j hj => by
    rw [h.cellAt (k * 7 + j) (by omega), flat_get SForm.cells 7 (fun _ => rfl) .none stab k j (by rw [stab_len]; omega) hj]
  exact ⟨key 0 (by omega), key 1 (by omega), key 2 (by omega), key 3 (by omega), key 4 (by omega), key 5 (by omega), key 6 (by omega), (h.lt g rfl).2⟩
/-- A row of the model's table has been copied into block g. -/
structure Got (W0 : World) (f : SForm) (g : Nat) (wx : World) : Prop where
  lt : W0.heap.size ≤ g
  row : Row wx g 124 f.cells.toArray
  bel : Below W0.heap.size W0 wx
theorem Got.way1 {W0 w1 : World} {f : SForm} (hb : Below W0.drew.heap.size W0.drew w1) : Got W0 f w1.heap.size (w1.alloc (.cells #[.int .i64 f.first, .int .u8 f.plus, .int .i64 f.a, .int .i64 f.b, .int .i64 f.low, .int .i64 f.high, .string f.rest] 124)) :=
  ⟨hb.size, Row.new _ _ _, (((Below.refl _ _).drew).trans hb).alloc hb.size _⟩
theorem Got.way2 {W0 w1 : World} {f : SForm} {g : Nat} (hg : W0.heap.size = g) (hb : Below (W0.alloc (.cells #[.int .i64 0, .int .u8 0, .int .i64 0, .int .i64 0, .int .i64 0, .int .i64 0, .string ⟨#[]⟩] 124)).drew.heap.size (W0.alloc (.cells #[.int .i64 0, .int .u8 0, .int .i64 0, .int .i64 0, .int .i64 0, .int .i64 0, .string ⟨#[]⟩] 124)).drew w1) :
    Got W0 f g (((((((w1.setCell ⟨g, 0, none⟩ (.int .i64 f.first)).setCell ⟨g, 1, none⟩ (.int .u8 f.plus)).setCell ⟨g, 2, none⟩ (.int .i64 f.a)).setCell ⟨g, 3, none⟩ (.int .i64 f.b)).setCell ⟨g, 4, none⟩ (.int .i64 f.low)).setCell ⟨g, 5, none⟩ (.int .i64 f.high)).setCell ⟨g, 6, none⟩ (.string f.rest)) := by
  subst hg
  have h0 : Row w1 W0.heap.size 124 #[.int .i64 0, .int .u8 0, .int .i64 0, .int .i64 0, .int .i64 0, .int .i64 0, .string ⟨#[]⟩] := Row.on (w := (W0.alloc _).drew) (Row.new W0 _ _) hb
  have hB : Below W0.heap.size W0 w1 := (((Below.refl _ _).alloc (Nat.le_refl _) _).drew).trans (hb.mono (by simp))
  refine ⟨Nat.le_refl _, ?_, ((((((hB.setCell (Nat.le_refl _) _).setCell (Nat.le_refl _) _).setCell (Nat.le_refl _) _).setCell (Nat.le_refl _) _).setCell (Nat.le_refl _) _).setCell (Nat.le_refl _) _).setCell (Nat.le_refl _) _⟩
  exact ((((((h0.set 0 (.int .i64 f.first)).set 1 (.int .u8 f.plus)).set 2 (.int .i64 f.a)).set 3 (.int .i64 f.b)).set 4 (.int .i64 f.low)).set 5 (.int .i64 f.high)).set 6 (.string f.rest)
theorem decB {p q : Prop} [Decidable p] [Decidable q] (h : p ↔ q) : decide p = decide q := by simp [h]
theorem inR_c (n l h : Int) (w : World) : Calls Tryz.prog 83 #[.int .i64 n, .int .i64 l, .int .i64 h] w fun e w' => e = .returned (.bool (inRange n l h)) ∧ w = w' := C1.inRange_c n l h w
set_option maxHeartbeats 1000000 in
theorem validIns_c (i : IIns) (w : World) :
    Calls Tryz.prog 107 #[i.val] w fun e w' => e = .returned (.bool (validIns i)) ∧ Below w.heap.size w w' := by
  obtain ⟨op, a, b, n⟩ := i
  unfold IIns.val
  simp only
  have c1 := (Below.refl w.heap.size w).alloc (Nat.le_refl _) (.cells #[.int .i64 op, .int .i64 a, .int .i64 b, .int .i64 n] 70)
  have HC1 := hid c1
  clear c1
  cases hr : inRange op 0 30
  · have h1 : decide (0 ≤ op ∧ op ≤ 30) = false := hr
    have HR := hid hr
    clear hr
    go_enter Tryz.func107, Tryz.ntmps107
    go_wp2_with (go_at_call 83; refine (C1.inRange_c _ _ _ _).mono ?_; rintro e w' ⟨rfl, rfl⟩)
    go_ret
    exact ⟨bool_eq (by simp [validIns, HR.out]), HC1.out⟩
  · have h1 : decide (0 ≤ op ∧ op ≤ 30) = true := hr
    have HR := hid hr
    have hr' : 0 ≤ op ∧ op ≤ 30 := by simpa using h1
    obtain ⟨hop1, hop2⟩ := hr'
    clear hr
    obtain ⟨k, rfl⟩ := Int.eq_ofNat_of_zero_le hop1
    obtain ⟨f, hf⟩ : ∃ f, stab.getD k .none = f := ⟨_, rfl⟩
    have HF := hid hf
    clear hf
    go_enter Tryz.func107, Tryz.ntmps107
    go_upto_region 3 with (go_at_call 83; refine (C1.inRange_c _ _ _ _).mono ?_; rintro e w' ⟨rfl, rfl⟩)
    go_cut [3] (fun s3 wx => ∃ g : Nat, s3 = .pointer (some ⟨g, 0, none⟩) ∧ Got (w.alloc (.cells #[.int .i64 k, .int .i64 a, .int .i64 b, .int .i64 n] 70)) f g wx)
    case first =>
      have hk30 : k ≤ 30 := by omega
      go_region_with (go_at_call 106; refine (sforms_c _).mono ?_; rintro e w1 ⟨g, cap, rfl, hown, hb⟩; have hff := sforms_at hk30 hown; rw [HF.out] at hff; obtain ⟨f0, f1, f2, f3, f4, f5, f6, fl⟩ := hff; obtain ⟨hc, hf⟩ := bcell hb; have hz : w.heap.size < w1.heap.size := (by have := hb.size; simp at this; omega); have HB := hid hb; clear hown hb)
      all_goals
        go_wp2_with fail
        go_meet
        first | exact ⟨_, rfl, .way1 HB.out⟩ | exact ⟨_, rfl, .way2 (by simp) HB.out⟩
    case rest =>
      obtain ⟨g, rfl, hg, hrow, hbel⟩ := hcut
      have hins := ((Row.new w 70 #[.int .i64 k, .int .i64 a, .int .i64 b, .int .i64 n]).on hbel)
      have HB := hid (HC1.out.trans (hbel.mono (by simp)))
      have i1 := hins.cell 1
      have i2 := hins.cell 2
      have i3 := hins.cell 3
      have i0 := hins.cell 0
      have f2 := hrow.cell 2
      have f3 := hrow.cell 3
      have f4 := hrow.cell 4
      have f5 := hrow.cell 5
      simp [SForm.cells] at f2 f3 f4 f5 i0 i1 i2 i3
      clear hins hrow hbel hg h1
      have hv : validIns ⟨k, a, b, n⟩ = validAt f ⟨k, a, b, n⟩ := by
        have h := HF.out
        simp only [List.getD_eq_getElem?_getD] at h
        simp [validIns, HR.out, h]
      have HV := hid hv
      clear hv
      cases h2 : inRange a 0 f.a
      · go_wp2_with (go_at_call 83; refine (inR_c _ _ _ _).mono ?_; rintro e w' ⟨rfl, rfl⟩)
        go_ret
        exact ⟨bool_eq (by rw [HV.out]; simp [validAt, h2]), HB.out⟩
      · cases h3 : inRange b 0 f.b
        · go_wp2_with (go_at_call 83; refine (inR_c _ _ _ _).mono ?_; rintro e w' ⟨rfl, rfl⟩)
          go_ret
          exact ⟨bool_eq (by rw [HV.out]; simp [validAt, h2, h3]), HB.out⟩
        · cases h4 : inRange n f.low f.high
          · go_wp2_with (go_at_call 83; refine (inR_c _ _ _ _).mono ?_; rintro e w' ⟨rfl, rfl⟩)
            go_ret
            exact ⟨bool_eq (by rw [HV.out]; simp [validAt, h2, h3, h4]), HB.out⟩
          · by_cases h5 : k = 30
            · subst h5
              go_wp2_with (go_at_call 83; refine (inR_c _ _ _ _).mono ?_; rintro e w' ⟨rfl, rfl⟩)
              go_ret
              exact ⟨bool_eq (by rw [HV.out]; simp [validAt, h2, h3, h4]), HB.out⟩
            · have h6 : ((k : Int) != 30) = true := by simp; omega
              have h7 : ((k : Int) == 30) = false := by simp; omega
              clear h5
              go_wp2_with (go_at_call 83; refine (inR_c _ _ _ _).mono ?_; rintro e w' ⟨rfl, rfl⟩)
              go_ret
              exact ⟨bool_eq (by rw [HV.out]; simp [validAt, h2, h3, h4, h7]), HB.out⟩
end Go.Proofs.YtihhpgklpichgaaGreat.C2
