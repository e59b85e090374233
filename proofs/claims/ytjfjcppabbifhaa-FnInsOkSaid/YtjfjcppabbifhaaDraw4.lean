/- The draws of InsOk and InsPut. -/
import Derived.Test.YtjfjcppabbifhaaDraw3
set_option linter.unusedSimpArgs false
set_option linter.unusedVariables false
namespace Go.Proofs.Ytjfjcppabbifhaa.Src
open Go.RowKit Pl Ft Mm C2

theorem results_cell_tmp2 {fn : Func} {p r : Tmp} {t : TypeId} (h : fn.results = #[.cell p t, .tmp r]) (tmps : Array Value) (w : World) (g : Nat) (cs : Array Value) (fs : Array Field)
    (hp : tmps.getD p undef = .pointer (some ⟨g, 0, none⟩)) (h1 : Row w g t cs) (hu : Try.prog.underlying t = some (.struct fs)) (hi : (Try.prog.info? t).map (·.size) = some cs.size) :
    (results fn tmps).run Try.prog w = .ok (.tuple #[.agg cs, tmps.getD r undef]) w := by
  have hp' : tmps[p]?.getD undef = .pointer (some ⟨g, 0, none⟩) := by simpa using hp
  simp [results, h, hp', asAddr, run_loadVar_row w g t t cs (0, 0) _ h1 hu rfl hi]
set_option maxRecDepth 100000 in
theorem drawInsOk_c (a : Option Addr) (len cap : Nat) (zs : List Int) (w : World) (hB : Bytes w a len zs) :
    Calls Try.prog 19 #[.slice a len cap] w fun e w' => ∃ i : IIns, e = .returned i.val ∧ Small i ∧ Below w.heap.size w w' := by
  have H := hid hB
  clear hB
  go_enter Try.func19, Try.ntmps19
  go_wp2_with fail
  refine (from_c a len cap zs _ (H.out.alloc _)).mono ?_
  rintro e w1 ⟨sb, rfl, hsb, s1, b1⟩
  have S1 := hid s1
  have hr1 := (Row.new w 24 #[.int .i64 0, .int .i64 0, .int .i64 0, .int .i64 0]).on b1
  have R1 := hid hr1
  have B1 := hid (((Below.refl _ _).alloc (Nat.le_refl _) (.cells #[.int .i64 0, .int .i64 0, .int .i64 0, .int .i64 0] 24)).trans (b1.mono (by simp)))
  simp at hsb
  clear s1 b1 hr1
  go_wp2_with fail
  refine (anyIns_c 20 (by omega) (by omega) sb a len cap zs 0 _ S1.out (by omega)).mono ?_
  rintro e w2 ⟨i, k2, rfl, hsm, hk2, hk2', s2, m2⟩
  obtain ⟨iop, ia, ib, n⟩ := i
  have HSm := hid hsm
  have R2 := hid (R1.out.moved m2 (by omega))
  have hBe := m2.below B1.out (by omega) B1.out.size
  have B2 := hid hBe
  clear s2 m2 hsm hBe
  have o0 := R2.out.cell 0
  have o1 := R2.out.cell 1
  have o2 := R2.out.cell 2
  have o3 := R2.out.cell 3
  simp at o0 o1 o2 o3
  have oz := R2.out.free
  unfold IIns.val
  simp only
  go_wp2_with fail
  refine bodyPost_ret (v := .agg #[.int .i64 iop, .int .i64 ia, .int .i64 ib, .int .i64 n]) (results_cell_row rfl _ _ w.heap.size 24 _ (0, 0) _ rfl (ins_row R2.out iop ia ib n) Try.underlying24 rfl rfl) rfl ?_
  exact ⟨⟨iop, ia, ib, n⟩, rfl, HSm.out, (((B2.out.setCell (Nat.le_refl _) _).setCell (Nat.le_refl _) _).setCell (Nat.le_refl _) _).setCell (Nat.le_refl _) _⟩
set_option maxRecDepth 100000 in
theorem drawInsPut_c (a : Option Addr) (len cap : Nat) (zs : List Int) (w : World) (hB : Bytes w a len zs) :
    Calls Try.prog 22 #[.slice a len cap] w fun e w' => ∃ (i : IIns) (at_ : Int), e = .returned (.tuple #[i.val, .int .i64 at_]) ∧ 0 ≤ at_ ∧ at_ ≤ 200 ∧ Below w.heap.size w w' := by
  have H := hid hB
  clear hB
  go_enter Try.func22, Try.ntmps22
  go_wp2_with fail
  refine (from_c a len cap zs _ (H.out.alloc _)).mono ?_
  rintro e w1 ⟨sb, rfl, hsb, s1, b1⟩
  have S1 := hid s1
  have hr1 := (Row.new w 24 #[.int .i64 0, .int .i64 0, .int .i64 0, .int .i64 0]).on b1
  have R1 := hid hr1
  have B1 := hid (((Below.refl _ _).alloc (Nat.le_refl _) (.cells #[.int .i64 0, .int .i64 0, .int .i64 0, .int .i64 0] 24)).trans (b1.mono (by simp)))
  simp at hsb
  clear s1 b1 hr1
  go_wp2_with fail
  refine (pick_c 200 sb a len cap zs 0 _ S1.out (by omega) (by omega)).mono ?_
  rintro e w2 ⟨at_, k1, rfl, ⟨hv1, hv1'⟩, hk1, hk1', s2, m2⟩
  have S2 := hid s2
  have R2 := hid (R1.out.moved m2 (by omega))
  have hBe := m2.below B1.out (by omega) B1.out.size
  have B2 := hid hBe
  clear s2 m2 hBe
  go_wp2_with fail
  refine (anyIns_c at_ (by omega) (by omega) sb a len cap zs k1 _ S2.out (by omega)).mono ?_
  rintro e w3 ⟨i, k2, rfl, hsm, hk2, hk2', s3, m3⟩
  obtain ⟨iop, ia, ib, n⟩ := i
  have R3 := hid (R2.out.moved m3 (by omega))
  have hBe := m3.below B2.out (by omega) B2.out.size
  have B3 := hid hBe
  clear s3 m3 hsm hBe
  have o0 := R3.out.cell 0
  have o1 := R3.out.cell 1
  have o2 := R3.out.cell 2
  have o3 := R3.out.cell 3
  simp at o0 o1 o2 o3
  have oz := R3.out.free
  unfold IIns.val
  simp only
  go_wp2_with fail
  have hrow := (((R3.out.set 0 (.int .i64 iop)).set 1 (.int .i64 ia)).set 2 (.int .i64 ib)).set 3 (.int .i64 n)
  refine bodyPost_ret (v := .tuple #[.agg #[.int .i64 iop, .int .i64 ia, .int .i64 ib, .int .i64 n], .int .i64 at_]) ?_ rfl ?_
  · exact results_cell_tmp2 Try.results22 _ _ w.heap.size #[.int .i64 iop, .int .i64 ia, .int .i64 ib, .int .i64 n] _ rfl hrow Try.underlying24 (by kernel_rfl)
  exact ⟨⟨iop, ia, ib, n⟩, at_, rfl, by omega, by omega, (((B3.out.setCell (p := ⟨w.heap.size, 0, none⟩) (Nat.le_refl _) _).setCell (p := ⟨w.heap.size, 1, none⟩) (Nat.le_refl _) _).setCell (p := ⟨w.heap.size, 2, none⟩) (Nat.le_refl _) _).setCell (p := ⟨w.heap.size, 3, none⟩) (Nat.le_refl _) _⟩
end Go.Proofs.Ytjfjcppabbifhaa.Src
