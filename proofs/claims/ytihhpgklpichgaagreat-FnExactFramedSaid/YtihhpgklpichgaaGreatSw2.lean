/- readAt of the program · lineAt and SweepOf of the program. -/
import Derived.Test.YtihhpgklpichgaaGreatSw
import Derived.Test.YtihhpgklpichgaaGreatC2p
import Derived.Test.YtihhpgklpichgaaGreatL2
import Derived.Test.YtihhpgklpichgaaGreatHarn
import Derived.Test.YtihhpgklpichgaaGreatApp
import Derived.Test.YtihhpgklpichgaaGreatMark
set_option linter.unusedSimpArgs false
set_option linter.unusedVariables false
namespace Go.Proofs.YtihhpgklpichgaaGreat.Sw
open Go.RowKit Pl Ft Mm In C2 Im

def z5 : Array Value := #[.int .i64 0, .int .i64 0, .int .i64 0, .int .i64 0, .int .i64 0]
def rdArr (i : IIns) (x : Int) : Array Value := #[.int .i64 i.op, .int .i64 i.a, .int .i64 i.b, .int .i64 i.n, .int .i64 x]
theorem size_rd : (Tryz.prog.info? 112).map (·.size) = some 5 := by kernel_rfl
def rdVal (code : List Int) (at_ : Nat) : Value := .tuple #[.agg (rdArr ((readP code at_).getD insZero) (nextP code at_)), .bool (readP code at_).isSome]
def RdPost (code : List Int) (at_ : Nat) (w : World) (e : Ending) (w' : World) : Prop := e = .returned (rdVal code at_) ∧ Below w.heap.size w w'
theorem rdVal_no {code : List Int} {at_ : Nat} (h : readP code at_ = none) : rdVal code at_ = .tuple #[.agg z5, .bool false] := by
  unfold rdVal nextP
  rw [h]
  rfl
theorem rdVal_some {code : List Int} {at_ : Nat} {i : IIns} (h : readP code at_ = some i) : rdVal code at_ = .tuple #[.agg (rdArr i (at_ + slong i)), .bool true] := by
  unfold rdVal nextP
  rw [h]
  rfl
set_option maxHeartbeats 1000000 in
theorem readAt_c (code : List Int) (v : Value) (at_ : Nat) (w : World) (hr : Rd w v code) (hcap : ∀ a n c, v = .slice a n c → n ≤ c) (hb : code.all isByte = true) (hlen : code.length ≤ 2000) (hat : at_ ≤ 100000000) :
    Calls Tryz.prog 125 #[v, .int .i64 at_] w (RdPost code at_ w) := by
  have HRd := hid hr
  have HCap := hid hcap
  have HBy := hid hb
  obtain ⟨a, cap, rfl, _⟩ := hr
  clear hcap hb
  have HB0 := hid ((Below.refl w.heap.size w).alloc (Nat.le_refl _) (.cells #[.int .i64 0, .int .i64 0, .int .i64 0, .int .i64 0, .int .i64 0] 112))
  have HO0 := hid (Row.new w 112 #[.int .i64 0, .int .i64 0, .int .i64 0, .int .i64 0, .int .i64 0])
  have HRd0 := hid (HRd.out.on HB0.out)
  by_cases hlt : at_ < code.length
  case neg =>
    have HNo := hid (rdVal_no (readP_out hlt))
    go_enter Tryz.func125, Tryz.ntmps125
    go_wp2_with fail
    refine bodyPost_ret (v := .tuple #[.agg z5, .bool false]) ?_ rfl ?_
    · exact C2.results_cell_tmp Tryz.results125 _ _ w.heap.size z5 _ rfl HO0.out Tryz.underlying112 size_rd
    exact ⟨by rw [HNo.out], HB0.out⟩
  have HP := hid (readP_in hlt)
  go_enter Tryz.func125, Tryz.ntmps125
  go_wp2_with fail
  refine (insIn_c code _ at_ _ HRd0.out HCap.out HBy.out hlen hlt).mono ?_
  rintro e w1 ⟨rfl, hb1⟩
  have HB1 := hid (HB0.out.trans (hb1.mono HB0.out.size))
  have HO1 := hid (HO0.out.on hb1)
  have hz1 := hb1.size
  simp only [World.size_alloc] at hz1
  clear hb1
  cases ho : insIn code at_ with
  | none =>
    have HNo := hid (rdVal_no (HP.out.trans ho))
    clear ho
    unfold insVal IIns.val insZero
    simp only [Option.getD_none, Option.isSome_none]
    have HB2 := hid (HB1.out.alloc HB1.out.size (.cells #[.int .i64 0, .int .i64 0, .int .i64 0, .int .i64 0] 70))
    have HO2 := hid (HO1.out.alloc (.cells #[.int .i64 0, .int .i64 0, .int .i64 0, .int .i64 0] 70))
    have o0 := HO2.out.cell 0
    have o1 := HO2.out.cell 1
    have o2 := HO2.out.cell 2
    have o3 := HO2.out.cell 3
    have o4 := HO2.out.cell 4
    simp at o0 o1 o2 o3 o4
    have hfo := HO2.out.free
    go_wp2_with fail
    clear o0 o1 o2 o3 o4 hfo
    refine bodyPost_ret (v := .tuple #[.agg z5, .bool false]) ?_ rfl ?_
    · exact C2.results_cell_tmp Tryz.results125 _ _ w.heap.size z5 _ rfl (five_row HO2.out (.int .i64 0) 0 0 (.int .i64 0) (.int .i64 0)) Tryz.underlying112 size_rd
    exact ⟨by rw [HNo.out], five_bel HB2.out (Nat.le_refl _) _ _ _ _ _⟩
  | some i =>
    have HSo := hid (rdVal_some (HP.out.trans ho))
    have hf := ins_facts ho
    obtain ⟨op, ia, ib, n⟩ := i
    have HV := hid hf.1
    obtain ⟨s, hs⟩ : ∃ s, slong ⟨op, ia, ib, n⟩ = s := ⟨_, rfl⟩
    have HSl := hid hs
    rw [hs] at hf
    have hs1 := hf.2.1
    have hs5 := hf.2.2.1
    clear ho hf hs
    unfold insVal IIns.val
    simp only [Option.getD_some, Option.isSome_some]
    have HB2 := hid (HB1.out.alloc HB1.out.size (.cells #[.int .i64 op, .int .i64 ia, .int .i64 ib, .int .i64 n] 70))
    have HO2 := hid (HO1.out.alloc (.cells #[.int .i64 op, .int .i64 ia, .int .i64 ib, .int .i64 n] 70))
    have HI2 := hid (Row.new w1 70 #[.int .i64 op, .int .i64 ia, .int .i64 ib, .int .i64 n])
    have hz2 : w1.heap.size < (w1.alloc (.cells #[.int .i64 op, .int .i64 ia, .int .i64 ib, .int .i64 n] 70)).heap.size := by simp
    obtain ⟨gi, hgi⟩ : ∃ g, w1.heap.size = g := ⟨_, rfl⟩
    rw [hgi] at HI2 hz2 hz1
    have i0 := HI2.out.cell 0
    have i1 := HI2.out.cell 1
    have i2 := HI2.out.cell 2
    have i3 := HI2.out.cell 3
    have o0 := HO2.out.cell 0
    have o1 := HO2.out.cell 1
    have o2 := HO2.out.cell 2
    have o3 := HO2.out.cell 3
    have o4 := HO2.out.cell 4
    simp at i0 i1 i2 i3 o0 o1 o2 o3 o4
    have hfo := HO2.out.free
    have hwg : w.heap.size < gi := by omega
    have hgne : w.heap.size ≠ gi := by omega
    have hwr : IntKind.i64.wrap ((at_ : Int) + s) = at_ + s := by rw [IntKind.wrap_i64]; omega
    go_upto_region 6 with fail
    generalize w1.alloc (.cells #[.int .i64 op, .int .i64 ia, .int .i64 ib, .int .i64 n] 70) = w2 at HB2 HO2 HI2 hz2 i0 i1 i2 i3 o0 o1 o2 o3 o4 hfo ⊢
    go_region_with (go_at_call 150; (refine (insLong_c ⟨op, ia, ib, n⟩ _).mono ?_; rw [HV.out, if_pos rfl, HSl.out]; rintro e w3 ⟨rfl, hb3⟩; have HB3 := hid (HB2.out.drew.trans (hb3.mono HB2.out.drew.size)); have HO3 := hid (HO2.out.drew.on hb3); have HI3 := hid (HI2.out.drew.on hb3); have j0 := HI3.out.cell 0; have j1 := HI3.out.cell 1; have j2 := HI3.out.cell 2; have j3 := HI3.out.cell 3; have p0 := HO3.out.cell 0; have p1 := HO3.out.cell 1; have p2 := HO3.out.cell 2; have p3 := HO3.out.cell 3; have p4 := HO3.out.cell 4; simp at j0 j1 j2 j3 p0 p1 p2 p3 p4; have hfp := HO3.out.free; have hz3 := hb3.size; simp only [World.drew] at hz3; have hw3 : w.heap.size < w3.heap.size := (by omega); clear hb3))
    all_goals
      go_wp2_with fail
      try rw [hwr]
      refine bodyPost_ret (v := .tuple #[.agg (rdArr ⟨op, ia, ib, n⟩ (at_ + s)), .bool true]) ?_ rfl ?_
      · exact C2.results_cell_tmp Tryz.results125 _ _ w.heap.size (rdArr ⟨op, ia, ib, n⟩ (at_ + s)) _ rfl (five_row HO3.out (.int .i64 op) ia ib (.int .i64 n) (.int .i64 (at_ + s))) Tryz.underlying112 size_rd
      exact ⟨by rw [HSo.out, HSl.out], five_bel HB3.out (Nat.le_refl _) _ _ _ _ _⟩
end Go.Proofs.YtihhpgklpichgaaGreat.Sw
namespace Go.Proofs.YtihhpgklpichgaaGreat.Sw
open Go.RowKit Pl Ft Mm In C2 Im

def lnArr (l : ILine) : Array Value := #[.int .i64 l.at_, .bool l.is, .int .i64 l.ins.op, .int .i64 l.ins.a, .int .i64 l.ins.b, .int .i64 l.ins.n, .int .i64 l.byte]
theorem seven_row {w : World} {g : Nat} {t : TypeId} {x0 x1 x2 x3 x4 x5 x6 : Value} (h : Row w g t #[x0, x1, x2, x3, x4, x5, x6]) (l : ILine) :
    Row (((((((w.setCell ⟨g, 0, none⟩ (.int .i64 l.at_)).setCell ⟨g, 1, none⟩ (.bool l.is)).setCell ⟨g, 2, none⟩ (.int .i64 l.ins.op)).setCell ⟨g, 3, none⟩ (.int .i64 l.ins.a)).setCell ⟨g, 4, none⟩ (.int .i64 l.ins.b)).setCell ⟨g, 5, none⟩ (.int .i64 l.ins.n)).setCell ⟨g, 6, none⟩ (.int .i64 l.byte)) g t (lnArr l) := by
  have h0 : Row _ g t #[.int .i64 l.at_, x1, x2, x3, x4, x5, x6] := h.set 0 (.int .i64 l.at_)
  have h1 : Row _ g t #[.int .i64 l.at_, .bool l.is, x2, x3, x4, x5, x6] := h0.set 1 (.bool l.is)
  have h2 : Row _ g t #[.int .i64 l.at_, .bool l.is, .int .i64 l.ins.op, x3, x4, x5, x6] := h1.set 2 (.int .i64 l.ins.op)
  have h3 : Row _ g t #[.int .i64 l.at_, .bool l.is, .int .i64 l.ins.op, .int .i64 l.ins.a, x4, x5, x6] := h2.set 3 (.int .i64 l.ins.a)
  have h4 : Row _ g t #[.int .i64 l.at_, .bool l.is, .int .i64 l.ins.op, .int .i64 l.ins.a, .int .i64 l.ins.b, x5, x6] := h3.set 4 (.int .i64 l.ins.b)
  have h5 : Row _ g t #[.int .i64 l.at_, .bool l.is, .int .i64 l.ins.op, .int .i64 l.ins.a, .int .i64 l.ins.b, .int .i64 l.ins.n, x6] := h4.set 5 (.int .i64 l.ins.n)
  exact h5.set 6 (.int .i64 l.byte)
theorem seven_bel {B : Nat} {w w' : World} {g : Nat} (h : Below B w w') (hg : B ≤ g) (y0 y1 y2 y3 y4 y5 y6 : Value) : Below B w (((((((w'.setCell ⟨g, 0, none⟩ y0).setCell ⟨g, 1, none⟩ y1).setCell ⟨g, 2, none⟩ y2).setCell ⟨g, 3, none⟩ y3).setCell ⟨g, 4, none⟩ y4).setCell ⟨g, 5, none⟩ y5).setCell ⟨g, 6, none⟩ y6) := by
  have h4 := five_bel h hg y0 y1 y2 y3 y4
  exact (h4.setCell (p := ⟨g, 5, none⟩) hg y5).setCell (p := ⟨g, 6, none⟩) hg y6
def LnPost (code : List Int) (at_ : Nat) (w : World) (e : Ending) (w' : World) : Prop := e = .returned (.tuple #[.agg (lnArr (lineP code at_)), .int .i64 (stepP code at_)]) ∧ Below w.heap.size w w'
theorem lineP_no {code : List Int} {at_ : Nat} (h : insIn code at_ = none) : lineP code at_ = ⟨at_, false, ⟨0, 0, 0, 0⟩, code.getD at_ 0⟩ := by unfold lineP; rw [h]; rfl
theorem lineP_some {code : List Int} {at_ : Nat} {i : IIns} (h : insIn code at_ = some i) : lineP code at_ = ⟨at_, true, i, 0⟩ := by unfold lineP; rw [h]
end Go.Proofs.YtihhpgklpichgaaGreat.Sw
