/- readAt of the program · lineAt and SweepOf of the program. -/
import Derived.Test.YtihhpgklpichgabSw
import Derived.Test.YtihhpgklpichgabC2p
import Derived.Test.YtihhpgklpichgabL2
import Derived.Test.YtihhpgklpichgabHarn
import Derived.Test.YtihhpgklpichgabApp
import Derived.Test.YtihhpgklpichgabMark
set_option linter.unusedSimpArgs false
set_option linter.unusedVariables false
namespace Go.Proofs.Ytihhpgklpichgab.Sw
open Go.RowKit Pl Ft Mm In C2 Im

def z5 : Array Value := #[.int .i64 0, .int .i64 0, .int .i64 0, .int .i64 0, .int .i64 0]
def rdArr (i : IIns) (x : Int) : Array Value := #[.int .i64 i.op, .int .i64 i.a, .int .i64 i.b, .int .i64 i.n, .int .i64 x]
theorem size_rd : (Try.prog.info? 150).map (·.size) = some 5 := by kernel_rfl
def rdVal (code : List Int) (at_ : Nat) : Value := .tuple #[.agg (rdArr ((readP code at_).getD insZero) (nextP code at_)), .bool (readP code at_).isSome]
def RdPost (code : List Int) (at_ : Nat) (w : World) (e : Ending) (w' : World) : Prop := e = .returned (rdVal code at_) ∧ Below w.heap.size w w'
theorem rdVal_no {code : List Int} {at_ : Nat} (h : readP code at_ = none) : rdVal code at_ = .tuple #[.agg z5, .bool false] := by
  unfold rdVal nextP
  rw [h]
  rfl
theorem rdVal_some {code : List Int} {at_ : Nat} {i : IIns} (h : readP code at_ = some i) : rdVal code at_ = .tuple #[.agg (rdArr i (at_ + slong i)), .bool true] := by
  unfold rdVal nextP
  rw [h]
  rfl
set_option maxHeartbeats 1000000 in
theorem readAt_c (code : List Int) (v : Value) (at_ : Nat) (w : World) (hr : Rd w v code) (hcap : ∀ a n c, v = .slice a n c → n ≤ c) (hb : code.all isByte = true) (hlen : code.length ≤ 2000) (hat : at_ ≤ 100000000) :
    Calls Try.prog 130 #[v, .int .i64 at_] w (RdPost code at_ w) := by
  have HRd := hid hr
  have HCap := hid hcap
  have HBy := hid hb
  obtain ⟨a, cap, rfl, _⟩ := hr
  clear hcap hb
  have HB0 := hid ((Below.refl w.heap.size w).alloc (Nat.le_refl _) (.cells #[.int .i64 0, .int .i64 0, .int .i64 0, .int .i64 0, .int .i64 0] 150))
  have HO0 := hid (Row.new w 150 #[.int .i64 0, .int .i64 0, .int .i64 0, .int .i64 0, .int .i64 0])
  have HRd0 := hid (HRd.out.on HB0.out)
  by_cases hlt : at_ < code.length
  case neg =>
    have HNo := hid (rdVal_no (readP_out hlt))
    go_enter Try.func130, Try.ntmps130
    go_wp2_with fail
    refine bodyPost_ret (v := .tuple #[.agg z5, .bool false]) ?_ rfl ?_
    · exact C2.results_cell_tmp Try.results130 _ _ w.heap.size z5 _ rfl HO0.out Try.underlying150 size_rd
    exact ⟨by rw [HNo.out], HB0.out⟩
  have HP := hid (readP_in hlt)
  go_enter Try.func130, Try.ntmps130
  go_wp2_with fail
  refine (insIn_c code _ at_ _ HRd0.out HCap.out HBy.out hlen hlt).mono ?_
  rintro e w1 ⟨rfl, hb1⟩
  have HB1 := hid (HB0.out.trans (hb1.mono HB0.out.size))
  have HO1 := hid (HO0.out.on hb1)
  have hz1 := hb1.size
  simp only [World.size_alloc] at hz1
  clear hb1
  cases ho : insIn code at_ with
  | none =>
    have HNo := hid (rdVal_no (HP.out.trans ho))
    clear ho
    unfold insVal IIns.val insZero
    simp only [Option.getD_none, Option.isSome_none]
    have HB2 := hid (HB1.out.alloc HB1.out.size (.cells #[.int .i64 0, .int .i64 0, .int .i64 0, .int .i64 0] 24))
    have HO2 := hid (HO1.out.alloc (.cells #[.int .i64 0, .int .i64 0, .int .i64 0, .int .i64 0] 24))
    have o0 := HO2.out.cell 0
    have o1 := HO2.out.cell 1
    have o2 := HO2.out.cell 2
    have o3 := HO2.out.cell 3
    have o4 := HO2.out.cell 4
    simp at o0 o1 o2 o3 o4
    have hfo := HO2.out.free
    go_wp2_with fail
    clear o0 o1 o2 o3 o4 hfo
    refine bodyPost_ret (v := .tuple #[.agg z5, .bool false]) ?_ rfl ?_
    · exact C2.results_cell_tmp Try.results130 _ _ w.heap.size z5 _ rfl (five_row HO2.out (.int .i64 0) 0 0 (.int .i64 0) (.int .i64 0)) Try.underlying150 size_rd
    exact ⟨by rw [HNo.out], five_bel HB2.out (Nat.le_refl _) _ _ _ _ _⟩
  | some i =>
    have HSo := hid (rdVal_some (HP.out.trans ho))
    have hf := ins_facts ho
    obtain ⟨op, ia, ib, n⟩ := i
    have HV := hid hf.1
    obtain ⟨s, hs⟩ : ∃ s, slong ⟨op, ia, ib, n⟩ = s := ⟨_, rfl⟩
    have HSl := hid hs
    rw [hs] at hf
    have hs1 := hf.2.1
    have hs5 := hf.2.2.1
    clear ho hf hs
    unfold insVal IIns.val
    simp only [Option.getD_some, Option.isSome_some]
    have HB2 := hid (HB1.out.alloc HB1.out.size (.cells #[.int .i64 op, .int .i64 ia, .int .i64 ib, .int .i64 n] 24))
    have HO2 := hid (HO1.out.alloc (.cells #[.int .i64 op, .int .i64 ia, .int .i64 ib, .int .i64 n] 24))
    have HI2 := hid (Row.new w1 24 #[.int .i64 op, .int .i64 ia, .int .i64 ib, .int .i64 n])
    have hz2 : w1.heap.size < (w1.alloc (.cells #[.int .i64 op, .int .i64 ia, .int .i64 ib, .int .i64 n] 24)).heap.size := by simp
    obtain ⟨gi, hgi⟩ : ∃ g, w1.heap.size = g := ⟨_, rfl⟩
    rw [hgi] at HI2 hz2 hz1
    have i0 := HI2.out.cell 0
    have i1 := HI2.out.cell 1
    have i2 := HI2.out.cell 2
    have i3 := HI2.out.cell 3
    have o0 := HO2.out.cell 0
    have o1 := HO2.out.cell 1
    have o2 := HO2.out.cell 2
    have o3 := HO2.out.cell 3
    have o4 := HO2.out.cell 4
    simp at i0 i1 i2 i3 o0 o1 o2 o3 o4
    have hfo := HO2.out.free
    have hwg : w.heap.size < gi := by omega
    have hgne : w.heap.size ≠ gi := by omega
    have hwr : IntKind.i64.wrap ((at_ : Int) + s) = at_ + s := by rw [IntKind.wrap_i64]; omega
    go_upto_region 6 with fail
    generalize w1.alloc (.cells #[.int .i64 op, .int .i64 ia, .int .i64 ib, .int .i64 n] 24) = w2 at HB2 HO2 HI2 hz2 i0 i1 i2 i3 o0 o1 o2 o3 o4 hfo ⊢
    go_region_with (go_at_call 138; (refine (insLong_c ⟨op, ia, ib, n⟩ _).mono ?_; rw [HV.out, if_pos rfl, HSl.out]; rintro e w3 ⟨rfl, hb3⟩; have HB3 := hid (HB2.out.drew.trans (hb3.mono HB2.out.drew.size)); have HO3 := hid (HO2.out.drew.on hb3); have HI3 := hid (HI2.out.drew.on hb3); have j0 := HI3.out.cell 0; have j1 := HI3.out.cell 1; have j2 := HI3.out.cell 2; have j3 := HI3.out.cell 3; have p0 := HO3.out.cell 0; have p1 := HO3.out.cell 1; have p2 := HO3.out.cell 2; have p3 := HO3.out.cell 3; have p4 := HO3.out.cell 4; simp at j0 j1 j2 j3 p0 p1 p2 p3 p4; have hfp := HO3.out.free; have hz3 := hb3.size; simp only [World.drew] at hz3; have hw3 : w.heap.size < w3.heap.size := (by omega); clear hb3))
    all_goals
      go_wp2_with fail
      try rw [hwr]
      refine bodyPost_ret (v := .tuple #[.agg (rdArr ⟨op, ia, ib, n⟩ (at_ + s)), .bool true]) ?_ rfl ?_
      · exact C2.results_cell_tmp Try.results130 _ _ w.heap.size (rdArr ⟨op, ia, ib, n⟩ (at_ + s)) _ rfl (five_row HO3.out (.int .i64 op) ia ib (.int .i64 n) (.int .i64 (at_ + s))) Try.underlying150 size_rd
      exact ⟨by rw [HSo.out, HSl.out], five_bel HB3.out (Nat.le_refl _) _ _ _ _ _⟩
end Go.Proofs.Ytihhpgklpichgab.Sw
namespace Go.Proofs.Ytihhpgklpichgab.Sw
open Go.RowKit Pl Ft Mm In C2 Im

theorem info_line : (Try.prog.info? 110).map (fun i => (i.zero, i.size, i.bytes)) = some (some (.agg #[.int .i64 0, .bool false, .int .i64 0, .int .i64 0, .int .i64 0, .int .i64 0, .int .i64 0]), 7, 56) := by kernel_rfl
theorem size_line : (Try.prog.info? 110).map (·.size) = some 7 := by kernel_rfl
def lnArr (l : ILine) : Array Value := #[.int .i64 l.at_, .bool l.is, .int .i64 l.ins.op, .int .i64 l.ins.a, .int .i64 l.ins.b, .int .i64 l.ins.n, .int .i64 l.byte]
theorem SrcAt.ln (w : World) (l : ILine) (H : Nat) (hH : w.heap.size = H) : SrcAt (w.alloc (.cells (lnArr l) 110)) (some ⟨H, 0, none⟩) 1 7 l.cells := by
  subst hH
  exact ⟨rfl, .inr ⟨_, rfl, new_cells w (lnArr l) _ _ rfl⟩⟩
/-- A row of lines with one more behind it: of what there was just its own block may have turned. -/
theorem app_lines {ops : Array Oper} {rest : List Oper} {o : Oper} {a : Act} {Q : Exit → Act → World → Prop} (w : World) (hgd : o.guard = none) (s x : Operand)
    (ho : o.op = .call { callee := .builtin .append, args := #[s, x], argTypes := #[59, 59] })
    (B : Nat) (xs : List ILine) (n : ILine) (v : Value) (hs : a.eval s = v) (hown : w.ownsRow B 110 7 v xs.length (lnCells xs))
    (A : Option Addr) (m c : Nat) (hx : a.eval x = .slice A m c) (hm : m = 1) (hsrc : SrcAt w A 1 7 n.cells)
    (hl : xs.length ≤ 1000000000) (hB : B ≤ w.heap.size)
    (h : ∀ v' w', w'.ownsRow B 110 7 v' (xs ++ [n]).length (lnCells (xs ++ [n])) → Only (fun g => v.ownBlock = some g) w w' → wpList Try.prog ops Q rest (a.put o.dst v') w') : wpList Try.prog ops Q (o :: rest) a w := by
  obtain ⟨i0, hi, hz0, hz1, hz2⟩ := info_parts info_line
  subst hm
  refine wpList_app w hgd s x 59 ho B 110 i0 (.agg #[.int .i64 0, .bool false, .int .i64 0, .int .i64 0, .int .i64 0, .int .i64 0, .int .i64 0]) 7 56 Try.underlying59 hi hz0 hz1 hz2 rfl (by decide) v xs.length (lnCells xs) hs hown A 1 c n.cells hx hsrc ?_ (by simp only [maxLen]; omega) (by omega) hB
    (fun v' w' h1 h2 h3 => h v' w' ?_ ⟨h2.os, h2.tape, h2.output, h2.size, fun k hk hne => h2.block k hk (fun e => hne e.symm)⟩)
  · intro u hu
    exact lnCells_one [n] u (by simpa [lnCells] using hu)
  · rw [List.length_append]
    have e : lnCells (xs ++ [n]) = lnCells xs ++ n.cells := by simp [lnCells]
    rw [e]
    exact h1
theorem seven_row {w : World} {g : Nat} {t : TypeId} {x0 x1 x2 x3 x4 x5 x6 : Value} (h : Row w g t #[x0, x1, x2, x3, x4, x5, x6]) (l : ILine) :
    Row (((((((w.setCell ⟨g, 0, none⟩ (.int .i64 l.at_)).setCell ⟨g, 1, none⟩ (.bool l.is)).setCell ⟨g, 2, none⟩ (.int .i64 l.ins.op)).setCell ⟨g, 3, none⟩ (.int .i64 l.ins.a)).setCell ⟨g, 4, none⟩ (.int .i64 l.ins.b)).setCell ⟨g, 5, none⟩ (.int .i64 l.ins.n)).setCell ⟨g, 6, none⟩ (.int .i64 l.byte)) g t (lnArr l) := by
  have h0 : Row _ g t #[.int .i64 l.at_, x1, x2, x3, x4, x5, x6] := h.set 0 (.int .i64 l.at_)
  have h1 : Row _ g t #[.int .i64 l.at_, .bool l.is, x2, x3, x4, x5, x6] := h0.set 1 (.bool l.is)
  have h2 : Row _ g t #[.int .i64 l.at_, .bool l.is, .int .i64 l.ins.op, x3, x4, x5, x6] := h1.set 2 (.int .i64 l.ins.op)
  have h3 : Row _ g t #[.int .i64 l.at_, .bool l.is, .int .i64 l.ins.op, .int .i64 l.ins.a, x4, x5, x6] := h2.set 3 (.int .i64 l.ins.a)
  have h4 : Row _ g t #[.int .i64 l.at_, .bool l.is, .int .i64 l.ins.op, .int .i64 l.ins.a, .int .i64 l.ins.b, x5, x6] := h3.set 4 (.int .i64 l.ins.b)
  have h5 : Row _ g t #[.int .i64 l.at_, .bool l.is, .int .i64 l.ins.op, .int .i64 l.ins.a, .int .i64 l.ins.b, .int .i64 l.ins.n, x6] := h4.set 5 (.int .i64 l.ins.n)
  exact h5.set 6 (.int .i64 l.byte)
theorem seven_bel {B : Nat} {w w' : World} {g : Nat} (h : Below B w w') (hg : B ≤ g) (y0 y1 y2 y3 y4 y5 y6 : Value) : Below B w (((((((w'.setCell ⟨g, 0, none⟩ y0).setCell ⟨g, 1, none⟩ y1).setCell ⟨g, 2, none⟩ y2).setCell ⟨g, 3, none⟩ y3).setCell ⟨g, 4, none⟩ y4).setCell ⟨g, 5, none⟩ y5).setCell ⟨g, 6, none⟩ y6) := by
  have h4 := five_bel h hg y0 y1 y2 y3 y4
  exact (h4.setCell (p := ⟨g, 5, none⟩) hg y5).setCell (p := ⟨g, 6, none⟩) hg y6
def LnPost (code : List Int) (at_ : Nat) (w : World) (e : Ending) (w' : World) : Prop := e = .returned (.tuple #[.agg (lnArr (lineP code at_)), .int .i64 (stepP code at_)]) ∧ Below w.heap.size w w'
theorem lineP_no {code : List Int} {at_ : Nat} (h : insIn code at_ = none) : lineP code at_ = ⟨at_, false, ⟨0, 0, 0, 0⟩, code.getD at_ 0⟩ := by unfold lineP; rw [h]; rfl
theorem lineP_some {code : List Int} {at_ : Nat} {i : IIns} (h : insIn code at_ = some i) : lineP code at_ = ⟨at_, true, i, 0⟩ := by unfold lineP; rw [h]
set_option maxHeartbeats 1000000 in
theorem lineAt_c (code : List Int) (v : Value) (at_ : Nat) (w : World) (hr : Rd w v code) (hcap : ∀ a n c, v = .slice a n c → n ≤ c) (hb : code.all isByte = true) (hlen : code.length ≤ 2000) (hat : at_ < code.length) :
    Calls Try.prog 96 #[v, .int .i64 at_] w (LnPost code at_ w) := by
  have HRd := hid hr
  have HCap := hid hcap
  have HBy := hid hb
  obtain ⟨a, cap, rfl, hrd⟩ := hr
  rcases hrd with h | ⟨g, o, rfl, hg, hcs⟩
  · subst h; simp at hat
  have q0 := hcs at_ hat
  obtain ⟨x, hx⟩ : ∃ x, code.getD at_ 0 = x := ⟨_, rfl⟩
  rw [hx] at q0
  have HX := hid hx
  clear hcap hb hcs hx
  have HB0 := hid ((Below.refl w.heap.size w).alloc (Nat.le_refl _) (.cells #[.int .i64 0, .bool false, .int .i64 0, .int .i64 0, .int .i64 0, .int .i64 0, .int .i64 0] 110))
  have HO0 := hid (Row.new w 110 #[.int .i64 0, .bool false, .int .i64 0, .int .i64 0, .int .i64 0, .int .i64 0, .int .i64 0])
  have HRd0 := hid (HRd.out.on HB0.out)
  have HP := hid (readP_in hat)
  have at0 : 0 ≤ (at_ : Int) := by omega
  have at1 : (at_ : Int) < code.length := by omega
  go_enter Try.func96, Try.ntmps96
  go_wp2_with fail
  refine (readAt_c code _ at_ _ HRd0.out HCap.out HBy.out hlen (by omega)).mono ?_
  rintro e w1 ⟨rfl, hb1⟩
  have HB1 := hid (HB0.out.trans (hb1.mono HB0.out.size))
  have HO1 := hid (HO0.out.on hb1)
  have hz1 := hb1.size
  simp only [World.size_alloc] at hz1
  clear hb1
  cases ho : insIn code at_ with
  | none =>
    rw [rdVal_no (HP.out.trans ho)]
    have HLn := hid (lineP_no ho)
    have HSt := hid (stepP_none ho)
    clear ho
    unfold z5
    have HB2 := hid (HB1.out.alloc HB1.out.size (.cells #[.int .i64 0, .int .i64 0, .int .i64 0, .int .i64 0, .int .i64 0] 150))
    have HO2 := hid (HO1.out.alloc (.cells #[.int .i64 0, .int .i64 0, .int .i64 0, .int .i64 0, .int .i64 0] 150))
    have hal := HB2.out
    have q2 := (hal.cell (p := ⟨g, o + at_, none⟩) hg).trans q0
    have o0 := HO2.out.cell 0
    have o1 := HO2.out.cell 1
    have o2 := HO2.out.cell 2
    have o3 := HO2.out.cell 3
    have o4 := HO2.out.cell 4
    have o5 := HO2.out.cell 5
    have o6 := HO2.out.cell 6
    simp at o0 o1 o2 o3 o4 o5 o6
    have hfo := HO2.out.free
    clear hal q0
    go_wp2_with fail
    clear o0 o1 o2 o3 o4 o5 o6 hfo q2
    refine bodyPost_ret (v := .tuple #[.agg (lnArr ⟨at_, false, ⟨0, 0, 0, 0⟩, x⟩), .int .i64 (at_ + 1)]) ?_ rfl ?_
    · exact C2.results_cell_tmp Try.results96 _ _ w.heap.size (lnArr ⟨at_, false, ⟨0, 0, 0, 0⟩, x⟩) _ rfl (seven_row HO2.out ⟨at_, false, ⟨0, 0, 0, 0⟩, x⟩) Try.underlying110 size_line
    exact ⟨by rw [HLn.out, HSt.out, HX.out]; rfl, seven_bel HB2.out (Nat.le_refl _) _ _ _ _ _ _ _⟩
  | some i =>
    rw [rdVal_some (HP.out.trans ho)]
    have HLn := hid (lineP_some ho)
    have HSt := hid (stepP_some ho)
    clear ho
    obtain ⟨op, ia, ib, n⟩ := i
    obtain ⟨s, hs⟩ : ∃ s, (at_ : Int) + slong ⟨op, ia, ib, n⟩ = s := ⟨_, rfl⟩
    have HSl := hid hs
    rw [hs]
    unfold rdArr
    simp only
    have HB2 := hid (HB1.out.alloc HB1.out.size (.cells #[.int .i64 op, .int .i64 ia, .int .i64 ib, .int .i64 n, .int .i64 s] 150))
    have HO2 := hid (HO1.out.alloc (.cells #[.int .i64 op, .int .i64 ia, .int .i64 ib, .int .i64 n, .int .i64 s] 150))
    have HI2 := hid (Row.new w1 150 #[.int .i64 op, .int .i64 ia, .int .i64 ib, .int .i64 n, .int .i64 s])
    have hz2 : w1.heap.size < (w1.alloc (.cells #[.int .i64 op, .int .i64 ia, .int .i64 ib, .int .i64 n, .int .i64 s] 150)).heap.size := by simp
    obtain ⟨gi, hgi⟩ : ∃ g, w1.heap.size = g := ⟨_, rfl⟩
    rw [hgi] at HI2 hz2 hz1
    have i0 := HI2.out.cell 0
    have i1 := HI2.out.cell 1
    have i2 := HI2.out.cell 2
    have i3 := HI2.out.cell 3
    have i4 := HI2.out.cell 4
    have o0 := HO2.out.cell 0
    have o1 := HO2.out.cell 1
    have o2 := HO2.out.cell 2
    have o3 := HO2.out.cell 3
    have o4 := HO2.out.cell 4
    have o5 := HO2.out.cell 5
    have o6 := HO2.out.cell 6
    simp at i0 i1 i2 i3 i4 o0 o1 o2 o3 o4 o5 o6
    have hfo := HO2.out.free
    have hwg : w.heap.size < gi := by omega
    have hgne : w.heap.size ≠ gi := by omega
    clear hs q0
    go_upto_region 4 with fail
    generalize w1.alloc (.cells #[.int .i64 op, .int .i64 ia, .int .i64 ib, .int .i64 n, .int .i64 s] 150) = w2 at HB2 HO2 HI2 hz2 i0 i1 i2 i3 i4 o0 o1 o2 o3 o4 o5 o6 hfo ⊢
    go_region
    all_goals
      go_wp2_with fail
      refine bodyPost_ret (v := .tuple #[.agg (lnArr ⟨at_, true, ⟨op, ia, ib, n⟩, 0⟩), .int .i64 s]) ?_ rfl ?_
      · exact C2.results_cell_tmp Try.results96 _ _ w.heap.size (lnArr ⟨at_, true, ⟨op, ia, ib, n⟩, 0⟩) _ rfl (seven_row HO2.out ⟨at_, true, ⟨op, ia, ib, n⟩, 0⟩).drew Try.underlying110 size_line
      exact ⟨by rw [HLn.out, ← HSt.out, HSl.out], (seven_bel HB2.out (Nat.le_refl _) _ _ _ _ _ _ _).drew⟩
/-- The rounds of a listing. -/
structure SwRel (code : List Int) (w : World) (v : Value) (L : List ILine) (at_ : Nat) (wr : World) : Prop where
  own : wr.ownsRow w.heap.size 110 7 v L.length (lnCells L)
  eq : sweepP code 0 = L ++ sweepP code at_
  le : at_ ≤ code.length
  len : L.length ≤ at_
  bel : Below w.heap.size w wr
theorem SwRel.more {code : List Int} {w : World} {v v' : Value} {L : List ILine} {at_ : Nat} {wr w1 w2 : World} (h : SwRel code w v L at_ wr) (hlt : at_ < code.length) (hb : Below wr.heap.size wr w1)
    (hown : w2.ownsRow w.heap.size 110 7 v' (L.length + 1) (lnCells (L ++ [lineP code at_]))) (ho : Only (fun g => v.ownBlock = some g) w1 w2) : SwRel code w v' (L ++ [lineP code at_]) (stepP code at_) w2 := by
  have hs := stepP_bd code at_ hlt
  have hl := h.len
  refine ⟨by rw [List.length_append]; exact hown, ?_, hs.2, by simp; omega, ?_⟩
  · rw [h.eq, sweepP_in code at_ hlt, List.append_assoc]
    rfl
  · have h1 := h.bel.trans (hb.mono h.bel.size)
    exact h1.trans (ho.below h1.size (fun k hk => (h.own.lt k hk).1))
theorem SwRel.start {code : List Int} {w wr : World} {v : Value} (hown : wr.ownsRow w.heap.size 110 7 v 0 []) (hb : Below w.heap.size w wr) : SwRel code w v [] 0 wr := ⟨hown, rfl, Nat.zero_le _, Nat.le_refl _, hb⟩
theorem SwRel.fin {code : List Int} {w wr : World} {v : Value} {L : List ILine} {at_ : Nat} (h : SwRel code w v L at_ wr) (hlt : ¬ at_ < code.length) : sweepP code 0 = L := by
  rw [h.eq, sweepP_out code at_ hlt, List.append_nil]
def SwPost (l : List ILine) (w : World) (e : Ending) (w' : World) : Prop := ∃ v', e = .returned v' ∧ w'.ownsRow w.heap.size 110 7 v' l.length (lnCells l) ∧ Below w.heap.size w w'
set_option maxHeartbeats 1000000 in
theorem sweepOf_c (code : List Int) (v : Value) (w : World) (hr : Rd w v code) (hcap : ∀ a n c, v = .slice a n c → n ≤ c) (hlen : code.length ≤ 4611686018427387904) :
    Calls Try.prog 44 #[v] w (SwPost (sweepOf code) w) := by
  have HRd := hid hr
  have HCap := hid hcap
  obtain ⟨a, cap, rfl, _⟩ := hr
  clear hcap
  cases hc : isCode code
  · have HC := hid hc
    have HNo := hid (show sweepOf code = [] by unfold sweepOf; rw [hc]; rfl)
    clear hc
    go_enter Try.func44, Try.ntmps44
    go_wp2_with (go_at_call 58; refine (isCode_c code _ _ HRd.out hlen).mono ?_; rw [HC.out]; rintro e w' ⟨rfl, rfl⟩)
    go_ret
    exact ⟨_, rfl, by rw [HNo.out]; exact World.ownsRow_nil _ _ _ _, Below.refl _ _⟩
  have HC := hid hc
  have HYes := hid (show sweepOf code = sweepP code 0 by unfold sweepOf; rw [hc, if_pos rfl])
  have hl2 : code.length ≤ 2000 ∧ code.all isByte = true := by simpa [isCode] using hc
  obtain ⟨hl2, hby⟩ := hl2
  have HBy := hid hby
  clear hby hc
  go_enter Try.func44, Try.ntmps44
  go_wp2_with (go_at_call 58; refine (isCode_c code _ _ HRd.out hlen).mono ?_; rw [HC.out]; rintro e w' ⟨rfl, rfl⟩)
  go_loopw [3, 4] (fun v c wr => ∃ (at_ : Nat) (L : List ILine), c = .int .i64 at_ ∧ SwRel code w v L at_ wr) (fun _ c _ => code.length - (intOf c).toNat)
  case atStart => exact ⟨0, [], rfl, .start (World.ownsRow_nil _ _ _ _) (Below.refl _ _)⟩
  case round =>
    obtain ⟨at_, L, rfl, hrel⟩ := hrel
    have HR := hid hrel
    have hle := hrel.le
    have hll := hrel.len
    have hwz := hrel.bel.size
    obtain ⟨sv, cv, rfl⟩ := own_slice hrel.own
    clear hrel
    by_cases hlt : at_ < code.length
    · have hst := stepP_bd code at_ hlt
      obtain ⟨ln, hln⟩ : ∃ ln, lineP code at_ = ln := ⟨_, rfl⟩
      obtain ⟨nx, hnx⟩ : ∃ nx, stepP code at_ = nx := ⟨_, rfl⟩
      have HLn := hid hln
      have HNx := hid hnx
      rw [hnx] at hst
      clear hln hnx
      go_wp2_with fail
      refine (lineAt_c code _ at_ _ (HRd.out.on HR.out.bel) HCap.out HBy.out hl2 hlt).mono ?_
      rintro e w1 ⟨rfl, hb1⟩
      rw [HLn.out, HNx.out]
      have HOw := hid (own_on HR.out.own hb1)
      have HB1 := hid hb1
      have hz1 := hb1.size
      clear hb1
      obtain ⟨l0, l1, ⟨l2, l3, l4, l5⟩, l6⟩ := ln
      unfold lnArr
      simp only
      go_wp2_with (at_builtin; refine app_lines _ rfl _ _ rfl w.heap.size L ⟨l0, l1, ⟨l2, l3, l4, l5⟩, l6⟩ _ rfl ((HOw.out.alloc _).alloc _) _ _ _ rfl rfl (SrcAt.ln _ ⟨l0, l1, ⟨l2, l3, l4, l5⟩, l6⟩ _ (by simp)) (by omega) (by simp; omega) ?_)
      intro v2 w2 hown2 ho2
      have hal := ((HB1.out.alloc (hz1) (.cells (lnArr ⟨l0, l1, ⟨l2, l3, l4, l5⟩, l6⟩) 110)).alloc (by simp; omega) (.cells (lnArr ⟨l0, l1, ⟨l2, l3, l4, l5⟩, l6⟩) 110))
      have HM := hid (HR.out.more (v' := v2) hlt hal (by rw [HLn.out]; exact hown2) ho2)
      clear hown2 ho2 hal
      go_wp2_with fail
      go_roundw
      case rel => exact ⟨nx, L ++ [lineP code at_], by go_num, by rw [← HNx.out]; exact HM.out⟩
      case measure => simp [intOf]; omega
    · have HF := hid (HR.out.fin hlt)
      go_wp2_with fail
      go_ret
      exact ⟨_, rfl, by rw [HYes.out, HF.out]; exact HR.out.own, HR.out.bel⟩
end Go.Proofs.Ytihhpgklpichgab.Sw
