/- FnInsText: the walk. -/
import Derived.Test.YtcpkkedhgmnonaaDoorDraw3
import Derived.Test.YtcpkkedhgmnonaaDoorTx7
import Derived.Test.YtcpkkedhgmnonaaDoorL2
set_option linter.unusedSimpArgs false
set_option linter.unusedVariables false
namespace Go.Proofs.YtcpkkedhgmnonaaDoor.Tx
open Go.RowKit Pl Ft Mm In C2 Im Src

set_option maxRecDepth 100000 in
set_option maxHeartbeats 1000000 in
theorem drawInsText_c (a : Option Addr) (len cap : Nat) (zs : List Int) (w : World) (hB : Bytes w a len zs) :
    Calls Tryd.prog 5 #[.slice a len cap] w fun e w' => ∃ i : IIns, e = .returned i.val ∧ Small i ∧ Below w.heap.size w w' := by
  have H := hid hB
  clear hB
  go_enter Tryd.func5, Tryd.ntmps5
  go_wp2_with fail
  refine (from_c a len cap zs _ (H.out.alloc _)).mono ?_
  rintro e w1 ⟨sb, rfl, hsb, s1, b1⟩
  have S1 := hid s1
  have hr1 := (Row.new w 24 #[.int .i64 0, .int .i64 0, .int .i64 0, .int .i64 0]).on b1
  have R1 := hid hr1
  have B1 := hid (((Below.refl _ _).alloc (Nat.le_refl _) (.cells #[.int .i64 0, .int .i64 0, .int .i64 0, .int .i64 0] 24)).trans (b1.mono (by simp)))
  simp at hsb
  clear s1 b1 hr1
  go_wp2_with fail
  refine (anyIns_c 20 (by omega) (by omega) sb a len cap zs 0 _ S1.out (by omega)).mono ?_
  rintro e w2 ⟨i, k2, rfl, ⟨hsm, _⟩, hk2, hk2', s2, m2⟩
  obtain ⟨iop, ia, ib, n⟩ := i
  have HSm := hid hsm
  have R2 := hid (R1.out.moved m2 (by omega))
  have hBe := m2.below B1.out (by omega) B1.out.size
  have B2 := hid hBe
  clear s2 m2 hsm hBe
  have o0 := R2.out.cell 0
  have o1 := R2.out.cell 1
  have o2 := R2.out.cell 2
  have o3 := R2.out.cell 3
  simp at o0 o1 o2 o3
  have oz := R2.out.free
  unfold IIns.val
  simp only
  go_wp2_with fail
  refine bodyPost_ret (v := .agg #[.int .i64 iop, .int .i64 ia, .int .i64 ib, .int .i64 n]) (results_cell_row rfl _ _ w.heap.size 24 _ (0, 0) _ rfl (ins_row R2.out iop ia ib n) Tryd.underlying24 rfl rfl) rfl ?_
  exact ⟨⟨iop, ia, ib, n⟩, rfl, HSm.out, (((B2.out.setCell (Nat.le_refl _) _).setCell (Nat.le_refl _) _).setCell (Nat.le_refl _) _).setCell (Nat.le_refl _) _⟩
theorem textOf_ne {i : IIns} (h : textOf i ≠ ⟨#[]⟩) : validIns i = true ∧ textOf i = sText i := by
  unfold textOf at h ⊢
  cases hv : validIns i
  · rw [hv] at h
    exact absurd rfl h
  · exact ⟨rfl, rfl⟩
theorem beq_ne {x y : ByteArray} (h : x ≠ y) : (x.toList == y.toList) = false := by
  rw [beq_eq_false_iff_ne]
  intro e
  apply h
  rw [ByteArray.toList_eq, ByteArray.toList_eq] at e
  exact bytes_ext e
theorem empty_ne {x : ByteArray} (h : x ≠ ⟨#[]⟩) : x.toList.isEmpty = false := by
  rw [List.isEmpty_eq_false_iff]
  intro e
  apply h
  rw [ByteArray.toList_eq] at e
  exact bytes_ext e
set_option maxRecDepth 100000 in
set_option maxHeartbeats 2000000 in
theorem insText_w (a : Option Addr) (len cap : Nat) (zs : List Int) (w : World) (hB : Bytes w a len zs) (ht : Tab w) (hc : Conds w) (m : Int) (hm : w.cell? ⟨1, 0, none⟩ = some (.int .i64 m)) (hg1 : 1 < w.heap.size) :
    Calls Tryd.prog 3 #[.slice a len cap] w fun e w' => e = .returned (.bool true) ∧ Below w.heap.size w w' := by
  have hs := hB.small
  have H := hid hB
  have HT := hid ht
  have HC := hid hc
  have HM := hid hm
  clear hB ht hc hm
  go_enter Tryd.func3, Tryd.ntmps3
  go_wp2_with fail
  refine (drawInsText_c a len cap zs w H.out).mono ?_
  rintro e w1 ⟨⟨op, ia, ib, n⟩, rfl, hsm, b1⟩
  have hn0 := hsm.n0
  have hn1 := hsm.n1
  simp only at hn0 hn1
  have HB1 := hid b1
  clear b1 hsm
  obtain ⟨s, hs2⟩ : ∃ s, textOf ⟨op, ia, ib, n⟩ = s := ⟨_, rfl⟩
  have HS := hid hs2
  have hss : (s.toList == s.toList) = true := by simp
  clear hs2
  unfold IIns.val
  simp only
  go_wp2_with fail
  have HX2 := hid (Row.new w1 24 #[.int .i64 op, .int .i64 ia, .int .i64 ib, .int .i64 n])
  have HB2 := hid (HB1.out.alloc HB1.out.size (.cells #[.int .i64 op, .int .i64 ia, .int .i64 ib, .int .i64 n] 24))
  have hz2 : w1.heap.size < (w1.alloc (.cells #[.int .i64 op, .int .i64 ia, .int .i64 ib, .int .i64 n] 24)).heap.size := by simp
  obtain ⟨g, hg⟩ : ∃ g, w1.heap.size = g := ⟨_, rfl⟩
  rw [hg] at HX2 hz2
  try rw [hg]
  clear hg
  generalize w1.alloc (.cells #[.int .i64 op, .int .i64 ia, .int .i64 ib, .int .i64 n] 24) = w2 at HX2 HB2 hz2 ⊢
  refine (insTextAll_c ⟨op, ia, ib, n⟩ w2 (HT.out.on HB2.out) (HC.out.on HB2.out) m ((HB2.out.cell (p := ⟨1, 0, none⟩) hg1).trans HM.out) (Nat.lt_of_lt_of_le hg1 HB2.out.size)).mono ?_
  rw [HS.out]
  rintro e w3 ⟨rfl, hb3⟩
  have HX3 := hid (HX2.out.on hb3)
  have HB3 := hid (HB2.out.trans (hb3.mono HB2.out.size))
  clear hb3
  have i0 := HX3.out.cell 0
  have i1 := HX3.out.cell 1
  have i2 := HX3.out.cell 2
  have i3 := HX3.out.cell 3
  simp at i0 i1 i2 i3
  go_wp2_with fail
  refine (sInsTextAll_c ⟨op, ia, ib, n⟩ _).mono ?_
  rw [HS.out]
  rintro e w4 ⟨rfl, hb4⟩
  have HX4 := hid (HX3.out.on hb4)
  have HB4 := hid (HB3.out.trans (hb4.mono HB3.out.size))
  have hz4 := HX4.out.lt
  clear hb4 i0 i1 i2 i3
  by_cases hse : s = ⟨#[]⟩
  · subst hse
    go_wp2_with fail
    go_ret
    exact ⟨rfl, HB4.out⟩
  have hne := empty_ne hse
  have i0 := HX4.out.cell 0
  have i1 := HX4.out.cell 1
  have i2 := HX4.out.cell 2
  have i3 := HX4.out.cell 3
  simp at i0 i1 i2 i3
  have HNe := hid hse
  clear hse
  go_wp2_with fail
  have HY5 := hid (Row.new w4 24 #[.int .i64 op, .int .i64 ia, .int .i64 ib, .int .i64 (n + 1)])
  refine (insOk_c ⟨op, ia, ib, n + 1⟩ _).mono ?_
  rintro e w6 ⟨rfl, hb6⟩
  have HB6 := hid ((HB4.out.alloc HB4.out.size (.cells #[.int .i64 op, .int .i64 ia, .int .i64 ib, .int .i64 (n + 1)] 24)).trans (hb6.mono (HB4.out.alloc HB4.out.size _).size))
  have HY6 := hid (HY5.out.on hb6)
  clear hb6 i0 i1 i2 i3
  cases hv2 : validIns ⟨op, ia, ib, n + 1⟩
  · clear hv2
    go_wp2_with fail
    go_ret
    exact ⟨rfl, HB6.out⟩
  have hv1 := textOf_ne (i := ⟨op, ia, ib, n⟩) (by rw [HS.out]; exact HNe.out)
  have ht2 : textOf ⟨op, ia, ib, n + 1⟩ = sText ⟨op, ia, ib, n + 1⟩ := by unfold textOf; rw [hv2]; rfl
  obtain ⟨t, ht⟩ : ∃ t, textOf ⟨op, ia, ib, n + 1⟩ = t := ⟨_, rfl⟩
  have HTx := hid ht
  have hts : t ≠ s := by
    rw [← ht, ht2, ← HS.out, hv1.2]
    exact fun e => text_next hv1.1 hv2 e.symm
  have hne2 := beq_ne hts
  clear hv1 hv2 ht2 ht hts
  have j0 := HY6.out.cell 0
  have j1 := HY6.out.cell 1
  have j2 := HY6.out.cell 2
  have j3 := HY6.out.cell 3
  simp at j0 j1 j2 j3
  go_wp2_with fail
  refine (insTextAll_c ⟨op, ia, ib, n + 1⟩ _ (HT.out.on HB6.out) (HC.out.on HB6.out) m ((HB6.out.cell (p := ⟨1, 0, none⟩) hg1).trans HM.out) (Nat.lt_of_lt_of_le hg1 HB6.out.size)).mono ?_
  rw [HTx.out]
  rintro e w7 ⟨rfl, hb7⟩
  have HB7 := hid (HB6.out.trans (hb7.mono HB6.out.size))
  clear hb7
  go_wp2_with fail
  go_ret
  exact ⟨rfl, HB7.out⟩
end Go.Proofs.YtcpkkedhgmnonaaDoor.Tx
