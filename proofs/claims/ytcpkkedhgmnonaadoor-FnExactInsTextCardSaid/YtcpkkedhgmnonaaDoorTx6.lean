/- FnExactInsText: the walk. -/
import Derived.Test.YtcpkkedhgmnonaaDoorTx5
import Derived.Test.YtcpkkedhgmnonaaDoorL2
set_option linter.unusedSimpArgs false
set_option linter.unusedVariables false
namespace Go.Proofs.YtcpkkedhgmnonaaDoor.Tx
open Go.RowKit Pl Ft Mm In C2 Im

set_option maxRecDepth 100000 in
theorem exactInsText_w (i : IIns) (w : World) (ht : Tab w) (hc : Conds w) (m : Int) (hm : w.cell? ⟨1, 0, none⟩ = some (.int .i64 m)) (hg1 : 1 < w.heap.size) :
    Calls Tryd.prog 4 #[i.val] w fun e w' => e = .returned (.bool true) ∧ Below w.heap.size w w' := by
  obtain ⟨s, hs⟩ : ∃ s, textOf i = s := ⟨_, rfl⟩
  have HS := hid hs
  have HT := hid ht
  have HC := hid hc
  have HM := hid hm
  have hss : (s.toList == s.toList) = true := by simp
  clear hs ht hc hm
  obtain ⟨op, a, b, n⟩ := i
  unfold IIns.val
  simp only
  have HX0 := hid (Row.new w 29 #[.int .i64 op, .int .i64 a, .int .i64 b, .int .i64 n])
  have HB0 := hid ((Below.refl w.heap.size w).alloc (Nat.le_refl _) (.cells #[.int .i64 op, .int .i64 a, .int .i64 b, .int .i64 n] 29))
  go_enter Tryd.func4, Tryd.ntmps4
  go_wp2_with fail
  refine (toIns_c ⟨op, a, b, n⟩ _).mono ?_
  rintro e w1 ⟨rfl, hb1⟩
  have HX1 := hid (HX0.out.on hb1)
  have HB1 := hid (HB0.out.trans (hb1.mono HB0.out.size))
  clear hb1
  unfold IIns.val
  simp only
  go_wp2_with fail
  refine (sInsTextAll_c ⟨op, a, b, n⟩ _).mono ?_
  rw [HS.out]
  rintro e w2 ⟨rfl, hb2⟩
  have HX2 := hid (HX1.out.on hb2)
  have HB2 := hid (HB1.out.trans (hb2.mono HB1.out.size))
  clear hb2
  have i0 := HX2.out.cell 0
  have i1 := HX2.out.cell 1
  have i2 := HX2.out.cell 2
  have i3 := HX2.out.cell 3
  simp at i0 i1 i2 i3
  go_wp2_with fail
  clear i0 i1 i2 i3
  refine (toIns_c ⟨op, a, b, n⟩ _).mono ?_
  rintro e w3 ⟨rfl, hb3⟩
  have HB3 := hid (HB2.out.trans (hb3.mono HB2.out.size))
  clear hb3
  unfold IIns.val
  simp only
  go_wp2_with fail
  refine (insTextAll_c ⟨op, a, b, n⟩ w3 (HT.out.on HB3.out) (HC.out.on HB3.out) m ((HB3.out.cell (p := ⟨1, 0, none⟩) hg1).trans HM.out) (Nat.lt_of_lt_of_le hg1 HB3.out.size)).mono ?_
  rw [HS.out]
  rintro e w4 ⟨rfl, hb4⟩
  have HB4 := hid (HB3.out.trans (hb4.mono HB3.out.size))
  clear hb4
  go_wp2_with fail
  go_ret
  exact ⟨rfl, HB4.out⟩
end Go.Proofs.YtcpkkedhgmnonaaDoor.Tx
