/- InsText, by the model. -/
import Derived.Test.YtcpkkedhgmnonaaDoorTx
import Derived.Test.YtcpkkedhgmnonaaDoorC2u
set_option linter.unusedSimpArgs false
set_option linter.unusedVariables false
namespace Go.Proofs.YtcpkkedhgmnonaaDoor.Tx
open Go.RowKit Pl Ft Mm In C2 Im

def opWords : List ByteArray := [⟨#[104, 97, 108, 116]⟩, ⟨#[114, 101, 116]⟩, ⟨#[110, 111, 112]⟩, ⟨#[112, 117, 115, 104]⟩, ⟨#[112, 111, 112]⟩, ⟨#[111, 117, 116]⟩, ⟨#[105, 110]⟩, ⟨#[109, 111, 118, 101]⟩, ⟨#[108, 111, 119]⟩, ⟨#[97, 100, 100]⟩, ⟨#[115, 117, 98]⟩, ⟨#[109, 117, 108]⟩, ⟨#[97, 110, 100]⟩, ⟨#[111, 114]⟩, ⟨#[120, 111, 114]⟩, ⟨#[99, 109, 112]⟩, ⟨#[115, 101, 116]⟩, ⟨#[97, 100, 100, 110]⟩, ⟨#[99, 109, 112, 110]⟩, ⟨#[108, 111, 97, 100]⟩, ⟨#[115, 116, 111, 114, 101]⟩, ⟨#[108, 111, 97, 100, 98]⟩, ⟨#[115, 116, 111, 114, 101, 98]⟩, ⟨#[108, 111, 99, 97, 108]⟩, ⟨#[107, 101, 101, 112]⟩, ⟨#[103, 114, 111, 119]⟩, ⟨#[100, 114, 111, 112]⟩, ⟨#[106, 117, 109, 112]⟩, ⟨#[105, 102]⟩, ⟨#[99, 97, 108, 108]⟩, ⟨#[116, 97, 98, 108, 101]⟩]
set_option maxRecDepth 100000 in
theorem opNames_c (w : World) : Calls Tryd.prog 31 #[] w fun e w' => ∃ g, e = .returned (.slice (some ⟨g, 0, none⟩) 31 31) ∧ Row w' g 9 (opWords.map Value.string).toArray ∧ Below w.heap.size w w' := by
  go_enter Tryd.func31, Tryd.ntmps31
  go_wp2_with fail
  go_ret
  exact ⟨_, rfl, Row.new _ _ _, (Below.refl _ _).alloc (Nat.le_refl _) _⟩
set_option maxRecDepth 100000 in
theorem condNames_c (w : World) : Calls Tryd.prog 32 #[] w fun e w' => ∃ g, e = .returned (.slice (some ⟨g, 0, none⟩) 6 6) ∧ Row w' g 9 (condWords.map Value.string).toArray ∧ Below w.heap.size w w' := by
  go_enter Tryd.func32, Tryd.ntmps32
  go_wp2_with fail
  go_ret
  exact ⟨_, rfl, Row.new _ _ _, (Below.refl _ _).alloc (Nat.le_refl _) _⟩
def farOf (s : ByteArray) (i : IIns) : ByteArray := (if i.a = 1 then s ++ ⟨#[32, 102, 97, 114]⟩ else s) ++ ⟨#[32]⟩ ++ txt i.n
def withA (f : SForm) (s : ByteArray) (i : IIns) : ByteArray := if 0 < f.a then s ++ ⟨#[32, 114]⟩ ++ txt i.a else s
def withB (f : SForm) (s : ByteArray) (i : IIns) : ByteArray := if i.op = 30 then s ++ ⟨#[32]⟩ ++ txt i.b else if 0 < f.b then s ++ ⟨#[32, 114]⟩ ++ txt i.b else s
def withN (f : SForm) (s : ByteArray) (i : IIns) : ByteArray := if f.low < f.high then s ++ ⟨#[32]⟩ ++ txt i.n else s
def headOf (i : IIns) : ByteArray := if i.op = 28 then opWords.getD i.op.toNat ⟨#[]⟩ ++ ⟨#[32]⟩ ++ condWords.getD i.b.toNat ⟨#[]⟩ else opWords.getD i.op.toNat ⟨#[]⟩
/-- The text of an instruction, as the model makes it. -/
def sText (i : IIns) : ByteArray :=
  if isJump i then farOf (headOf i) i else withN (stab.getD i.op.toNat .none) (withB (stab.getD i.op.toNat .none) (withA (stab.getD i.op.toNat .none) (headOf i) i) i) i
set_option maxRecDepth 100000 in
set_option maxHeartbeats 4000000 in
theorem sInsText_c (i : IIns) (w : World) (h0 : 0 ≤ i.op) (h30 : i.op ≤ 30) (ha : -1000000 ≤ i.a ∧ i.a ≤ 1000000) (hb : -1000000 ≤ i.b ∧ i.b ≤ 1000000) (hn : -1000000 ≤ i.n ∧ i.n ≤ 1000000) (hcb : i.op = 28 → 0 ≤ i.b ∧ i.b < 6) :
    Calls Tryd.prog 17 #[i.val] w fun e w' => e = .returned (.string (sText i)) ∧ Below w.heap.size w w' := by
  obtain ⟨op, a, b, n⟩ := i
  obtain ⟨r, hr⟩ : ∃ r, sText ⟨op, a, b, n⟩ = r := ⟨_, rfl⟩
  rw [hr]
  have HR := hid hr
  clear hr
  have hV : (IIns.mk op a b n).val = .agg #[.int .i64 op, .int .i64 a, .int .i64 b, .int .i64 n] := rfl
  rw [hV]
  clear hV
  obtain ⟨k, rfl⟩ := Int.eq_ofNat_of_zero_le h0
  have hk30 : k ≤ 30 := by simp only at h30; omega
  have hki : (k : Int) ≤ 30 := by omega
  have hki0 : (0 : Int) ≤ k := by omega
  have hkl : k < 31 := by omega
  have hkl2 : (k : Int) < 31 := by omega
  have HCB := hid hcb
  have HAll := hid (And.intro ha (And.intro hb hn))
  clear h0 h30 hcb ha hb hn
  have HX0 := hid (Row.new w 24 #[.int .i64 k, .int .i64 a, .int .i64 b, .int .i64 n])
  have HB0 := hid ((Below.refl w.heap.size w).alloc (Nat.le_refl _) (.cells #[.int .i64 k, .int .i64 a, .int .i64 b, .int .i64 n] 24))
  obtain ⟨t0, ht0⟩ : ∃ t, opWords.getD k ⟨#[]⟩ = t := ⟨_, rfl⟩
  have HT0 := hid ht0
  have ho : (opWords.map Value.string)[k]? = some (.string t0) := by
    rw [← ht0]
    have : k < opWords.length := by simp [opWords]; omega
    rw [List.getElem?_map, List.getD_eq_getElem?_getD, List.getElem?_eq_getElem this]
    rfl
  have HO := hid ho
  clear ht0 ho
  go_enter Tryd.func17, Tryd.ntmps17
  go_upto_region 1 with fail
  go_cut [3] (fun s3 wx => s3 = .string t0 ∧ Below (w.alloc (.cells #[.int .i64 k, .int .i64 a, .int .i64 b, .int .i64 n] 24)).heap.size (w.alloc (.cells #[.int .i64 k, .int .i64 a, .int .i64 b, .int .i64 n] 24)) wx)
  case first =>
    go_region_with (go_at_call 31; refine (opNames_c _).mono ?_; rintro e w1 ⟨g, rfl, hrow, hb⟩; have hk := hrow.cell k; rw [List.getElem?_toArray, HO.out] at hk; obtain ⟨hc, hf⟩ := bcell hb; have HB := hid hb; clear hrow hb)
    all_goals
      go_wp2_with fail
      go_meet
      exact ⟨rfl, ((Below.refl _ _).drew).trans HB.out⟩
  case rest =>
    obtain ⟨rfl, hb1⟩ := hcut
    have HX1 := hid (HX0.out.on hb1)
    have HB1 := hid (HB0.out.trans (hb1.mono HB0.out.size))
    obtain ⟨f, hf⟩ : ∃ f, stab.getD k .none = f := ⟨_, rfl⟩
    have HF := hid hf
    have i0 := HX1.out.cell 0
    have i1 := HX1.out.cell 1
    have i2 := HX1.out.cell 2
    have i3 := HX1.out.cell 3
    simp at i0 i1 i2 i3
    have hw1 := HX1.out.lt
    clear hb1 HX0 hf
    generalize wc = w1 at HX1 HB1 i0 i1 i2 i3 hw1 ⊢
    have hw1b : w.heap.size < w1.heap.size + 1 := by omega
    have hw1c : w1.heap.size ≠ w.heap.size := by omega
    have hw1d : w.heap.size ≠ w1.heap.size := by omega
    have q0 : ∀ o, (w1.alloc o).cell? ⟨w.heap.size, 0, none⟩ = some (.int .i64 k) := fun o => (HX1.out.alloc o).cell 0
    go_upto_region 2 with fail
    go_cut [4] (fun s4 wx => ∃ g : Nat, s4 = .pointer (some ⟨g, 0, none⟩) ∧ Got w1 f g wx)
    case first =>
      go_region_with (go_at_call 30; refine (sforms_c _).mono ?_; rintro e w2 ⟨g, cap, rfl, hown, hb⟩; have hff := sforms_at hk30 hown; rw [HF.out] at hff; obtain ⟨f0, f1, f2, f3, f4, f5, f6, fl⟩ := hff; obtain ⟨hc, hf⟩ := bcell hb; have hz : w.heap.size < w2.heap.size := (by have := hb.size; simp at this; omega); have j0 : w2.cell? ⟨w.heap.size, 0, none⟩ = some (.int .i64 k) := (by first | exact (HX1.out.drew.on hb).cell 0 | exact ((HX1.out.alloc _).drew.on hb).cell 0); have HB := hid hb; clear hown hb)
      all_goals
        go_wp2_with fail
        go_meet
        first | (with_reducible exact ⟨_, rfl, .way1 HB.out⟩) | (with_reducible exact ⟨_, rfl, .way2 rfl HB.out⟩) | (trace_state; sorry)
    case rest =>
      obtain ⟨g, rfl, hg, hrow, hbel⟩ := hcut
      generalize wc = w2 at hrow hbel ⊢
      have HX2 := hid (HX1.out.on hbel)
      have HB2 := hid (HB1.out.trans (hbel.mono HB1.out.size))
      have HRow := hid hrow
      clear q0 i0 i1 i2 i3 hw1 hw1b hw1c hw1d hrow hbel hg
      have hs0 : t0.size ≤ 100 := by
        have hall : opWords.all (fun t => decide (t.size ≤ 100)) = true := by decide
        rw [← HT0.out, List.getD_eq_getElem?_getD]
        have hk : k < opWords.length := by simp [opWords]; omega
        rw [List.getElem?_eq_getElem hk, Option.getD_some]
        simpa using (List.all_eq_true.1 hall) _ (List.getElem_mem hk)
      have i0 := HX2.out.cell 0
      have i1 := HX2.out.cell 1
      have i2 := HX2.out.cell 2
      have i3 := HX2.out.cell 3
      simp at i0 i1 i2 i3
      have y2 := HRow.out.cell 2
      have y3 := HRow.out.cell 3
      have y4 := HRow.out.cell 4
      have y5 := HRow.out.cell 5
      simp [SForm.cells] at y2 y3 y4 y5
      have hwl := HX2.out.lt
      have hgl := HRow.out.lt
      have ha := HAll.out.1
      have hb := HAll.out.2.1
      have hn := HAll.out.2.2
      have hla := itoa_len ha.1 ha.2
      have hlb := itoa_len hb.1 hb.2
      have hln := itoa_len hn.1 hn.2
      by_cases hk28 : (k : Int) = 28
      · obtain rfl : k = 28 := by omega
        obtain ⟨hb0, hb6⟩ := HCB.out hk28
        obtain ⟨j, rfl⟩ : ∃ j : Nat, b = j := Int.eq_ofNat_of_zero_le hb0
        have hj6 : j < 6 := by have h : (j : Int) < 6 := hb6; omega
        obtain ⟨c, hc⟩ : ∃ c, condWords.getD j ⟨#[]⟩ = c := ⟨_, rfl⟩
        have hsc : c.size ≤ 100 := by
          have hall : condWords.all (fun t => decide (t.size ≤ 100)) = true := by decide
          rw [← hc, List.getD_eq_getElem?_getD]
          have hk : j < condWords.length := by simp [condWords]; omega
          rw [List.getElem?_eq_getElem hk, Option.getD_some]
          simpa using (List.all_eq_true.1 hall) _ (List.getElem_mem hk)
        have hcc : (condWords.map Value.string)[j]? = some (.string c) := by
          rw [← hc]
          have : j < condWords.length := by simp [condWords]; omega
          rw [List.getElem?_map, List.getD_eq_getElem?_getD, List.getElem?_eq_getElem this]
          rfl
        have hh : headOf ⟨(28 : Nat), a, j, n⟩ = t0 ++ ⟨#[32]⟩ ++ c := by
          unfold headOf
          refine (if_pos (c := (IIns.mk ((28 : Nat) : Int) a j n).op = 28) rfl).trans ?_
          show opWords.getD 28 ⟨#[]⟩ ++ ⟨#[32]⟩ ++ condWords.getD ((j : Int)).toNat ⟨#[]⟩ = _
          rw [HT0.out, Int.toNat_natCast, hc]
        have hr2 := HR.out
        unfold sText at hr2
        have hJ1 : isJump ⟨(28 : Nat), a, j, n⟩ = true := rfl
        rw [hJ1, if_pos rfl, hh] at hr2
        have HR1 := hid hr2
        have HCC := hid hcc
        clear hr2 hh hcc hc hb0 hb6 hJ1
        go_wp2_with fail
        go_region_with (go_at_call 32; refine (condNames_c _).mono ?_; rintro e w3 ⟨g3, rfl, hrow, hb3⟩; have hk3 := hrow.cell j; rw [List.getElem?_toArray, HCC.out] at hk3; have j0 := (HX2.out.drew.on hb3).cell 0; have j1 := (HX2.out.drew.on hb3).cell 1; have j2 := (HX2.out.drew.on hb3).cell 2; have j3 := (HX2.out.drew.on hb3).cell 3; simp at j0 j1 j2 j3; have hl3 := (HX2.out.drew.on hb3).lt; have HX3 := hid (HX2.out.drew.on hb3); have HB3 := hid (HB2.out.drew.trans (hb3.mono HB2.out.drew.size)); clear hrow hb3)
        all_goals
          go_wp2_with fail
          refine (isJump_c ⟨(28 : Nat), a, j, n⟩ w3).mono ?_
          rintro e w4 ⟨rfl, hb4⟩
          have HX4 := hid (HX3.out.on hb4)
          have HB4 := hid (HB3.out.trans (hb4.mono HB3.out.size))
          have hJ : isJump ⟨(28 : Nat), a, j, n⟩ = true := rfl
          rw [hJ]
          clear hb4 i0 i1 i2 i3 j0 j1 j2 j3 y2 y3 y4 y5 hwl hgl hl3 hJ
          have i0 := HX4.out.cell 0
          have i1 := HX4.out.cell 1
          have i2 := HX4.out.cell 2
          have i3 := HX4.out.cell 3
          simp at i0 i1 i2 i3
          by_cases q1 : a = 1
          all_goals
            have hr2 := HR1.out
            simp only [farOf, q1, if_true, if_false] at hr2
            have HR2 := hid hr2
            clear hr2
            go_wp2_with (go_at_call 34; refine (decimalAll_c _ _ (by omega) (by omega)).mono ?_; rintro e w9 ⟨rfl, rfl⟩)
            go_ret
            exact ⟨by rw [← HR2.out]; rfl, HB4.out⟩
      · have hh : headOf ⟨k, a, b, n⟩ = t0 := by unfold headOf; rw [if_neg hk28]; exact HT0.out
        have HH := hid hh
        clear hh
        go_wp2_with fail
        refine (isJump_c ⟨k, a, b, n⟩ w2).mono ?_
        rintro e w3 ⟨rfl, hb3⟩
        have HX3 := hid (HX2.out.on hb3)
        have HR3 := hid (HRow.out.on hb3)
        have HB3 := hid (HB2.out.trans (hb3.mono HB2.out.size))
        clear hb3 i0 i1 i2 i3 y2 y3 y4 y5 hwl hgl
        have i0 := HX3.out.cell 0
        have i1 := HX3.out.cell 1
        have i2 := HX3.out.cell 2
        have i3 := HX3.out.cell 3
        simp at i0 i1 i2 i3
        have y2 := HR3.out.cell 2
        have y3 := HR3.out.cell 3
        have y4 := HR3.out.cell 4
        have y5 := HR3.out.cell 5
        simp [SForm.cells] at y2 y3 y4 y5
        cases hj : isJump ⟨k, a, b, n⟩
        · have HJ := hid hj
          clear hj
          have hr2 := HR.out
          have e1 : stab.getD (IIns.mk k a b n).op.toNat SForm.none = f := by show stab.getD ((k : Int)).toNat SForm.none = f; rw [Int.toNat_natCast]; exact HF.out
          unfold sText at hr2
          rw [HJ.out, if_neg (by decide), HH.out, e1] at hr2
          clear e1
          have HR1 := hid hr2
          clear hr2
          rcases (by omega : 0 < f.a ∨ (f.a ≤ 0 ∧ ¬ 0 < f.a)) with q1 | ⟨p1, q1⟩ <;> by_cases q2 : (k : Int) = 30 <;> rcases (by omega : 0 < f.b ∨ (f.b ≤ 0 ∧ ¬ 0 < f.b)) with q3 | ⟨p3, q3⟩ <;> rcases (by omega : f.low < f.high ∨ (f.high ≤ f.low ∧ ¬ f.low < f.high)) with q4 | ⟨p4, q4⟩
          all_goals
            have hr2 := HR1.out
            simp only [withN, withB, withA, q1, q2, q3, q4, if_true, if_false] at hr2
            have HR2 := hid hr2
            clear hr2
            go_wp2_with (go_at_call 34; refine (decimalAll_c _ _ (by omega) (by omega)).mono ?_; rintro e w9 ⟨rfl, rfl⟩)
            go_ret
            exact ⟨by rw [← HR2.out]; rfl, HB3.out⟩
        · have HJ := hid hj
          clear hj
          have hr2 := HR.out
          unfold sText at hr2
          rw [HJ.out, if_pos rfl, HH.out] at hr2
          have HR1 := hid hr2
          clear hr2
          by_cases q1 : a = 1
          all_goals
            have hr2 := HR1.out
            simp only [farOf, q1, if_true, if_false] at hr2
            have HR2 := hid hr2
            clear hr2
            go_wp2_with (go_at_call 34; refine (decimalAll_c _ _ (by omega) (by omega)).mono ?_; rintro e w9 ⟨rfl, rfl⟩)
            go_ret
            exact ⟨by rw [← HR2.out]; rfl, HB3.out⟩
end Go.Proofs.YtcpkkedhgmnonaaDoor.Tx
