/- Whether lines are equal: slices.Equal at []Line, and the model's sameLines · Whether lines are equal: slices.Equal at []Line, and the model's sameLines · SweepBytes of the program. -/
import Derived.Test.YtihhpgklpichgabSw2
import Derived.Test.YtihhpgklpichgabIm6
import Derived.Test.YtihhpgklpichgabSwH
import Derived.Test.YtihhpgklpichgabSw
import Derived.Test.YtihhpgklpichgabTb
import Derived.Test.YtihhpgklpichgabC2g
import Derived.Test.YtihhpgklpichgabSwCap
set_option linter.unusedSimpArgs false
set_option linter.unusedVariables false
namespace Go.Proofs.Ytihhpgklpichgab.Sw
open Go.RowKit Pl Ft Mm In C2 Im

theorem line_fields : Try.prog.underlying 110 = some (.struct (Try.prog.fieldsOf 110)) := by kernel_rfl
theorem line_held : Try.prog.stoodInHeld 110 = false := by kernel_rfl
theorem line_guard : Try.prog.eqGuardType Try.prog.depth 110 = false := by kernel_rfl
theorem insF : Try.prog.underlying 24 = some (.struct (Try.prog.fieldsOf 24)) := by kernel_rfl
theorem insH : Try.prog.stoodInHeld 24 = false := by kernel_rfl
theorem size_ins4 : (Try.prog.info? 24).map (·.size) = some 4 := by kernel_rfl
def eqLn (a b : ILine) : Bool := (a.at_ == b.at_) && ((a.is == b.is) && (((a.ins.op == b.ins.op) && ((a.ins.a == b.ins.a) && ((a.ins.b == b.ins.b) && (a.ins.n == b.ins.n)))) && (a.byte == b.byte)))
theorem eqLn_iff {a b : ILine} : eqLn a b = true ↔ a = b := by
  obtain ⟨a1, a2, ⟨a3, a4, a5, a6⟩, a7⟩ := a
  obtain ⟨b1, b2, ⟨b3, b4, b5, b6⟩, b7⟩ := b
  simp [eqLn]
theorem equal_ins (d : Nat) (p q r s p' q' r' s' : Int) (w : World) : (Op.equalIn (d + 2) 24 (.agg #[.int .i64 p, .int .i64 q, .int .i64 r, .int .i64 s]) (.agg #[.int .i64 p', .int .i64 q', .int .i64 r', .int .i64 s'])).run Try.prog w = .ok ((p == p') && ((q == q') && ((r == r') && (s == s')))) w := by
  have hu := insF.symm.trans Try.underlying24
  simp only [Option.some.injEq, TypeDesc.struct.injEq] at hu
  rw [run_equalIn_agg _ _ _ _ _ insF insH, hu]
  by_cases h1 : p = p'
  · by_cases h2 : q = q'
    · by_cases h3 : r = r'
      · by_cases h4 : s = s'
        · simp [Op.eqFields, part, go_sem, Try.underlying3, h1, h2, h3, h4]
        · simp [Op.eqFields, part, go_sem, Try.underlying3, h1, h2, h3, h4]
      · simp [Op.eqFields, part, go_sem, Try.underlying3, h1, h2, h3]
    · simp [Op.eqFields, part, go_sem, Try.underlying3, h1, h2]
  · simp [Op.eqFields, part, go_sem, Try.underlying3, h1]
theorem neq_line (a b : ILine) {r : Bool} (hr : eqLn a b = r) (w : World) : (binOp .neq 110 (.agg #[.int .i64 a.at_, .bool a.is, .int .i64 a.ins.op, .int .i64 a.ins.a, .int .i64 a.ins.b, .int .i64 a.ins.n, .int .i64 a.byte]) (.agg #[.int .i64 b.at_, .bool b.is, .int .i64 b.ins.op, .int .i64 b.ins.a, .int .i64 b.ins.b, .int .i64 b.ins.n, .int .i64 b.byte])).run Try.prog w = .ok (.bool (!r)) w := by
  obtain ⟨a1, a2, ⟨a3, a4, a5, a6⟩, a7⟩ := a
  obtain ⟨b1, b2, ⟨b3, b4, b5, b6⟩, b7⟩ := b
  have hu := line_fields.symm.trans Try.underlying110
  simp only [Option.some.injEq, TypeDesc.struct.injEq] at hu
  have hq := fun d w => equal_ins d a3 a4 a5 a6 b3 b4 b5 b6 w
  rw [run_neq_struct, run_equalIn_agg _ _ _ _ _ line_fields line_held, hu, ← hr]
  unfold eqLn
  simp only
  obtain ⟨q, hqq⟩ : ∃ q, ((a3 == b3) && ((a4 == b4) && ((a5 == b5) && (a6 == b6)))) = q := ⟨_, rfl⟩
  rw [hqq] at hq ⊢
  by_cases h1 : a1 = b1
  · by_cases h2 : a2 = b2
    · cases q
      · simp [Op.eqFields, part, go_sem, Try.underlying3, Try.underlying4, Try.underlying24, h1, h2, hq]
      · by_cases h7 : a7 = b7
        · simp [Op.eqFields, part, go_sem, Try.underlying3, Try.underlying4, Try.underlying24, h1, h2, hq, h7]
        · simp [Op.eqFields, part, go_sem, Try.underlying3, Try.underlying4, Try.underlying24, h1, h2, hq, h7]
    · simp [Op.eqFields, part, go_sem, Try.underlying3, Try.underlying4, h1, h2]
  · simp [Op.eqFields, part, go_sem, Try.underlying3, h1]
theorem guard_line (op : BinOp) (a b : Operand) (xs ys : Array Value) (w : World) : (eqGuard op 110 a b (.agg xs) (.agg ys)).run Try.prog w = .ok () w := run_eqGuard_agg w op 110 a b xs ys line_guard
end Go.Proofs.Ytihhpgklpichgab.Sw
namespace Go.Proofs.Ytihhpgklpichgab.Sw
open Go.RowKit Pl Ft Mm In C2 Im

def eqLines (xs ys : List ILine) : Bool := decide (xs = ys)
def SameLTo (xs ys : List ILine) (k : Nat) : Prop := xs.take k = ys.take k
theorem ltake_all (xs : List ILine) (k : Nat) (h : k < xs.length) : xs.take (k + 1) = xs.take k ++ [xs.getD k .none] := by
  rw [List.take_succ_eq_append_getElem h]
  simp [h]
theorem SameLTo.succ {xs ys : List ILine} {k : Nat} (h : SameLTo xs ys k) (h1 : k < xs.length) (h2 : k < ys.length) (he : xs.getD k .none = ys.getD k .none) : SameLTo xs ys (k + 1) := by
  unfold SameLTo at h ⊢
  rw [ltake_all xs k h1, ltake_all ys k h2, h, he]
theorem eqLines_no {xs ys : List ILine} {k : Nat} (h : eqLn (xs.getD k .none) (ys.getD k .none) = false) : eqLines xs ys = false := by
  unfold eqLines
  rw [decide_eq_false_iff_not]
  intro e
  rw [e, eqLn_iff.2 rfl] at h
  cases h
theorem eqLines_len {xs ys : List ILine} (h : xs.length ≠ ys.length) : eqLines xs ys = false := by
  unfold eqLines
  rw [decide_eq_false_iff_not]
  intro e
  rw [e] at h
  exact h rfl
theorem eqLines_yes {xs ys : List ILine} (hl : xs.length = ys.length) (h : SameLTo xs ys xs.length) : eqLines xs ys = true := by
  unfold eqLines SameLTo at *
  rw [decide_eq_true_eq]
  have h2 := h
  rw [List.take_length] at h2
  rw [hl, List.take_length] at h2
  exact h2
set_option maxHeartbeats 2000000 in
theorem equalL_c (xs ys : List ILine) (va vb : Value) (w : World) (ha : CRd w va xs.length (lnCells xs)) (hb : CRd w vb ys.length (lnCells ys)) (hx : xs.length ≤ 1048576) (hy : ys.length ≤ 1048576) :
    Calls Try.prog 101 #[va, vb] w (EqPost (eqLines xs ys) w) := by
  obtain ⟨a, ca, rfl, ha⟩ := ha
  obtain ⟨b, cb, rfl, hb⟩ := hb
  have HA := hid ha
  have HB := hid hb
  clear ha hb
  by_cases hl : xs.length = ys.length
  case neg =>
    have HN := hid (eqLines_len hl)
    have hne : ((xs.length : Int) == (ys.length : Int)) = false := by rw [beq_eq_false_iff_ne]; omega
    have hne2 : ((xs.length : Int) != (ys.length : Int)) = true := by rw [bne_iff_ne]; omega
    go_enter Try.func101, Try.ntmps101
    go_wp2_with fail
    go_ret
    exact eqPost ⟨0, rfl⟩ HN.out
  have HL := hid hl
  rw [← hl]
  clear hl
  go_enter Try.func101, Try.ntmps101
  go_wp2_with fail
  go_loopw [13] (fun c wr => ∃ k : Nat, c = .int .i64 k ∧ k ≤ xs.length ∧ SameLTo xs ys k ∧ ∃ m, wr = w.drewN m) (fun c _ => xs.length - (intOf c).toNat)
  case atStart => exact ⟨0, rfl, by omega, by simp [SameLTo], 0, rfl⟩
  case round =>
    obtain ⟨k, rfl, hk, hs, hw⟩ := hrel
    have HS := hid hs
    have HW := hid hw
    have HCell := hid (cell_wd hw)
    clear hs hw
    by_cases hlt : k < xs.length
    · rcases HA.out with h | ⟨g, o, rfl, hg, hc⟩
      · omega
      rcases HB.out with h | ⟨g2, o2, rfl, hg2, hc2⟩
      · have := HL.out; omega
      obtain ⟨c0, c1, c2, c3, c4, c5, c6⟩ := lnCells_get xs k hlt
      obtain ⟨d0, d1, d2, d3, d4, d5, d6⟩ := lnCells_get ys k (by have := HL.out; omega)
      have q0 := hc _ _ c0
      have q1 := hc _ _ c1
      have q2 := hc _ _ c2
      have q3 := hc _ _ c3
      have q4 := hc _ _ c4
      have q5 := hc _ _ c5
      have q6 := hc _ _ c6
      have r0 := hc2 _ _ d0
      have r1 := hc2 _ _ d1
      have r2 := hc2 _ _ d2
      have r3 := hc2 _ _ d3
      have r4 := hc2 _ _ d4
      have r5 := hc2 _ _ d5
      have r6 := hc2 _ _ d6
      obtain ⟨x, hx1⟩ : ∃ x, xs.getD k .none = x := ⟨_, rfl⟩
      obtain ⟨y, hy1⟩ : ∃ x, ys.getD k .none = x := ⟨_, rfl⟩
      rw [hx1, ← HCell.out] at q0 q1 q2 q3 q4 q5 q6
      rw [hy1, ← HCell.out] at r0 r1 r2 r3 r4 r5 r6
      simp only [← Nat.add_assoc] at q0 q1 q2 q3 q4 q5 q6 r0 r1 r2 r3 r4 r5 r6
      have HX := hid hx1
      have HY := hid hy1
      have k1 : (k : Int) < xs.length := by omega
      have k0 : 0 ≤ (k : Int) := by omega
      clear hc hc2 hx1 hy1 c0 c1 c2 c3 c4 c5 c6 d0 d1 d2 d3 d4 d5 d6
      cases hb : eqLn x y
      · have HN := hid (show eqLines xs ys = false from eqLines_no (k := k) (by rw [HX.out, HY.out]; exact hb))
        have hnq := neq_line x y hb
        have hgn := fun op a b => guard_line op a b #[.int .i64 x.at_, .bool x.is, .int .i64 x.ins.op, .int .i64 x.ins.a, .int .i64 x.ins.b, .int .i64 x.ins.n, .int .i64 x.byte] #[.int .i64 y.at_, .bool y.is, .int .i64 y.ins.op, .int .i64 y.ins.a, .int .i64 y.ins.b, .int .i64 y.ins.n, .int .i64 y.byte]
        simp only [Bool.not_false] at hnq
        clear hb
        go_wp2_with fail
        go_quiet (fail)
        clear q0 q1 q2 q3 q4 q5 q6 r0 r1 r2 r3 r4 r5 r6 hnq hgn
        go_wp2_with fail
        go_ret
        exact eqPost (wd_more HW.out _) HN.out
      · have HS2 := hid (HS.out.succ hlt (by have := HL.out; omega) (by rw [HX.out, HY.out]; exact eqLn_iff.1 hb))
        have hnq := neq_line x y hb
        have hgn := fun op a b => guard_line op a b #[.int .i64 x.at_, .bool x.is, .int .i64 x.ins.op, .int .i64 x.ins.a, .int .i64 x.ins.b, .int .i64 x.ins.n, .int .i64 x.byte] #[.int .i64 y.at_, .bool y.is, .int .i64 y.ins.op, .int .i64 y.ins.a, .int .i64 y.ins.b, .int .i64 y.ins.n, .int .i64 y.byte]
        simp only [Bool.not_true] at hnq
        clear hb
        go_wp2_with fail
        go_quiet (fail)
        clear q0 q1 q2 q3 q4 q5 q6 r0 r1 r2 r3 r4 r5 r6 hnq hgn
        go_wp2_with fail
        go_roundw
        case rel => exact ⟨k + 1, by go_num, by omega, HS2.out, wd_more HW.out _⟩
        case measure => simp [intOf]; omega
    · obtain rfl : k = xs.length := by omega
      have HY := hid (eqLines_yes HL.out HS.out)
      go_wp2_with fail
      go_ret
      exact eqPost HW.out HY.out
set_option maxHeartbeats 2000000 in
theorem sameLines_c (xs ys : List ILine) (va vb : Value) (w : World) (ha : CRd w va xs.length (lnCells xs)) (hb : CRd w vb ys.length (lnCells ys)) (hx : xs.length ≤ 1048576) (hy : ys.length ≤ 1048576) :
    Calls Try.prog 98 #[va, vb] w (EqPost (eqLines xs ys) w) := by
  obtain ⟨a, ca, rfl, ha⟩ := ha
  obtain ⟨b, cb, rfl, hb⟩ := hb
  have HA := hid ha
  have HB := hid hb
  clear ha hb
  by_cases hl : xs.length = ys.length
  case neg =>
    have HN := hid (eqLines_len hl)
    have hne : ((xs.length : Int) == (ys.length : Int)) = false := by rw [beq_eq_false_iff_ne]; omega
    have hne2 : ((xs.length : Int) != (ys.length : Int)) = true := by rw [bne_iff_ne]; omega
    go_enter Try.func98, Try.ntmps98
    go_wp2_with fail
    go_ret
    exact eqPost ⟨0, rfl⟩ HN.out
  have HL := hid hl
  rw [← hl]
  clear hl
  go_enter Try.func98, Try.ntmps98
  go_wp2_with fail
  go_loopw [5] (fun c wr => ∃ k : Nat, c = .int .i64 k ∧ k ≤ xs.length ∧ SameLTo xs ys k ∧ ∃ m, wr = w.drewN m) (fun c _ => xs.length - (intOf c).toNat)
  case atStart => exact ⟨0, rfl, by omega, by simp [SameLTo], 0, rfl⟩
  case round =>
    obtain ⟨k, rfl, hk, hs, hw⟩ := hrel
    have HS := hid hs
    have HW := hid hw
    have HCell := hid (cell_wd hw)
    clear hs hw
    by_cases hlt : k < xs.length
    · rcases HA.out with h | ⟨g, o, rfl, hg, hc⟩
      · omega
      rcases HB.out with h | ⟨g2, o2, rfl, hg2, hc2⟩
      · have := HL.out; omega
      obtain ⟨c0, c1, c2, c3, c4, c5, c6⟩ := lnCells_get xs k hlt
      obtain ⟨d0, d1, d2, d3, d4, d5, d6⟩ := lnCells_get ys k (by have := HL.out; omega)
      have q0 := hc _ _ c0
      have q1 := hc _ _ c1
      have q2 := hc _ _ c2
      have q3 := hc _ _ c3
      have q4 := hc _ _ c4
      have q5 := hc _ _ c5
      have q6 := hc _ _ c6
      have r0 := hc2 _ _ d0
      have r1 := hc2 _ _ d1
      have r2 := hc2 _ _ d2
      have r3 := hc2 _ _ d3
      have r4 := hc2 _ _ d4
      have r5 := hc2 _ _ d5
      have r6 := hc2 _ _ d6
      obtain ⟨x, hx1⟩ : ∃ x, xs.getD k .none = x := ⟨_, rfl⟩
      obtain ⟨y, hy1⟩ : ∃ x, ys.getD k .none = x := ⟨_, rfl⟩
      rw [hx1, ← HCell.out] at q0 q1 q2 q3 q4 q5 q6
      rw [hy1, ← HCell.out] at r0 r1 r2 r3 r4 r5 r6
      simp only [← Nat.add_assoc] at q0 q1 q2 q3 q4 q5 q6 r0 r1 r2 r3 r4 r5 r6
      have HX := hid hx1
      have HY := hid hy1
      have k1 : (k : Int) < xs.length := by omega
      have k0 : 0 ≤ (k : Int) := by omega
      clear hc hc2 hx1 hy1 c0 c1 c2 c3 c4 c5 c6 d0 d1 d2 d3 d4 d5 d6
      cases hb : eqLn x y
      · have HN := hid (show eqLines xs ys = false from eqLines_no (k := k) (by rw [HX.out, HY.out]; exact hb))
        have hnq := neq_line x y hb
        have hgn := fun op a b => guard_line op a b #[.int .i64 x.at_, .bool x.is, .int .i64 x.ins.op, .int .i64 x.ins.a, .int .i64 x.ins.b, .int .i64 x.ins.n, .int .i64 x.byte] #[.int .i64 y.at_, .bool y.is, .int .i64 y.ins.op, .int .i64 y.ins.a, .int .i64 y.ins.b, .int .i64 y.ins.n, .int .i64 y.byte]
        simp only [Bool.not_false] at hnq
        clear hb
        go_wp2_with fail
        go_quiet (fail)
        clear q0 q1 q2 q3 q4 q5 q6 r0 r1 r2 r3 r4 r5 r6 hnq hgn
        go_wp2_with fail
        go_ret
        exact eqPost (wd_more HW.out _) HN.out
      · have HS2 := hid (HS.out.succ hlt (by have := HL.out; omega) (by rw [HX.out, HY.out]; exact eqLn_iff.1 hb))
        have hnq := neq_line x y hb
        have hgn := fun op a b => guard_line op a b #[.int .i64 x.at_, .bool x.is, .int .i64 x.ins.op, .int .i64 x.ins.a, .int .i64 x.ins.b, .int .i64 x.ins.n, .int .i64 x.byte] #[.int .i64 y.at_, .bool y.is, .int .i64 y.ins.op, .int .i64 y.ins.a, .int .i64 y.ins.b, .int .i64 y.ins.n, .int .i64 y.byte]
        simp only [Bool.not_true] at hnq
        clear hb
        go_wp2_with fail
        go_quiet (fail)
        clear q0 q1 q2 q3 q4 q5 q6 r0 r1 r2 r3 r4 r5 r6 hnq hgn
        go_wp2_with fail
        go_roundw
        case rel => exact ⟨k + 1, by go_num, by omega, HS2.out, wd_more HW.out _⟩
        case measure => simp [intOf]; omega
    · obtain rfl : k = xs.length := by omega
      have HY := hid (eqLines_yes HL.out HS.out)
      go_wp2_with fail
      go_ret
      exact eqPost HW.out HY.out
end Go.Proofs.Ytihhpgklpichgab.Sw
namespace Go.Proofs.Ytihhpgklpichgab.Sw
open Go.RowKit Pl Ft Mm In C2 Im Wk

theorem put_len5 {i : IIns} {at_ : Int} {l : List Int} (h : insPut i at_ = some l) : l.length ≤ 5 := by
  unfold insPut at h
  cases hf : formOf i with
  | none => rw [hf] at h; cases h
  | some f =>
    rw [hf] at h
    simp only at h
    split at h
    · split at h
      · have hs := (form_bounds hf).size
        simp only [Option.some.injEq] at h
        have h1 := putList_len (letters f.follows) i (at_ + longOf (letters f.follows))
        have h2 := longOf_bd (letters f.follows)
        rw [letters_len] at h2
        rw [← h]
        simp only [List.length_cons]
        omega
      · cases h
    · cases h
theorem bytesP_len {l : ILine} {b : List Int} (h : bytesP l = some b) : b.length ≤ 5 := by
  unfold bytesP at h
  split at h
  · exact put_len5 h
  · simp only [Option.some.injEq] at h
    rw [← h]
    simp
theorem own_one (w : World) (y : Int) : (w.alloc (.cells #[.int .i64 y] 3)).ownsRow w.heap.size 3 1 (.slice (some ⟨w.heap.size, 0, none⟩) 1 1) [y].length (ints [y]) := own_lit w [y] #[.int .i64 y] rfl (by simp) 1 rfl
set_option maxHeartbeats 1000000 in
theorem lineBytes_c (l : ILine) (w : World) : Calls Try.prog 100 #[.agg (lnArr l)] w (PutPost (bytesP l) w) := by
  obtain ⟨at_, is, ⟨op, a, b, n⟩, byte⟩ := l
  unfold lnArr
  simp only
  have HX0 := hid (Row.new w 110 #[.int .i64 at_, .bool is, .int .i64 op, .int .i64 a, .int .i64 b, .int .i64 n, .int .i64 byte])
  have HB0 := hid ((Below.refl w.heap.size w).alloc (Nat.le_refl _) (.cells #[.int .i64 at_, .bool is, .int .i64 op, .int .i64 a, .int .i64 b, .int .i64 n, .int .i64 byte] 110))
  cases is with
  | false =>
    have HE := hid (show bytesP ⟨at_, false, ⟨op, a, b, n⟩, byte⟩ = some [byte] from rfl)
    go_enter Try.func100, Try.ntmps100
    go_wp2_with fail
    go_ret2
    have ho := own_mono (own_one (w.alloc (.cells #[.int .i64 at_, .bool false, .int .i64 op, .int .i64 a, .int .i64 b, .int .i64 n, .int .i64 byte] 110)) byte) HB0.out.size
    rw [HE.out]
    exact ⟨_, rfl, HB0.out.alloc HB0.out.size _, fun h => by (cases h), fun l hl => by (obtain rfl := Option.some.inj hl; simpa using ho)⟩
  | true =>
    have HE := hid (show bytesP ⟨at_, true, ⟨op, a, b, n⟩, byte⟩ = insPut ⟨op, a, b, n⟩ at_ from rfl)
    go_enter Try.func100, Try.ntmps100
    go_wp2_with fail
    refine (insPut_c ⟨op, a, b, n⟩ at_ _).mono ?_
    rintro e w1 ⟨v, rfl, hb1, hno, hown⟩
    have HB1 := hid (HB0.out.trans (hb1.mono HB0.out.size))
    have HNo := hid hno
    have HOw := hid (fun l hl => own_mono (hown l hl) HB0.out.size)
    clear hb1 hno hown
    go_wp2_with fail
    go_ret2
    rw [HE.out]
    exact ⟨_, rfl, HB1.out, HNo.out, HOw.out⟩
/-- The rounds. -/
structure SbRel (l : List ILine) (w : World) (v : Value) (out : List Int) (k : Nat) (wr : World) : Prop where
  own : wr.ownsRow w.heap.size 3 1 v out.length (ints out)
  eq : pmod l [] = pmod (l.drop k) out
  len : out.length ≤ 5 * k
  bel : Below w.heap.size w wr
theorem pmod_none {l : List ILine} {k : Nat} {out : List Int} (h : k < l.length) (hb : bytesP (l.getD k .none) = none) : pmod (l.drop k) out = none := by
  have e : l.getD k .none = l[k] := by simp [h]
  rw [e] at hb
  rw [List.drop_eq_getElem_cons h, pmod, hb]
theorem pmod_some {l : List ILine} {k : Nat} {out b : List Int} (h : k < l.length) (hb : bytesP (l.getD k .none) = some b) : pmod (l.drop k) out = pmod (l.drop (k + 1)) (out ++ b) := by
  have e : l.getD k .none = l[k] := by simp [h]
  rw [e] at hb
  rw [List.drop_eq_getElem_cons h, pmod, hb]
set_option maxRecDepth 100000 in
set_option maxHeartbeats 2000000 in
theorem sweepBytes_c (l : List ILine) (v : Value) (w : World) (hr : CRd w v l.length (lnCells l)) (hl : l.length ≤ 1048576) :
    Calls Try.prog 51 #[v] w (TabPost (sweepBytes l) w) := by
  obtain ⟨o, ho⟩ : ∃ o, sweepBytes l = o := ⟨_, rfl⟩
  have HQ := hid ho
  rw [ho]
  clear ho
  have HRd := hid hr
  obtain ⟨a, cap, rfl, ha⟩ := hr
  have HA := hid ha
  clear ha
  by_cases h2 : l.length ≤ 2000
  case neg =>
    obtain rfl : o = none := by rw [← HQ.out, sweepBytes, if_pos (by omega)]
    have h3 : (2000 : Int) < l.length := by omega
    go_enter Try.func51, Try.ntmps51
    go_wp2_with fail
    go_ret2
    exact ⟨_, rfl, World.ownsRow_nil _ _ _ _, Below.refl _ _⟩
  have HQ2 := hid (show o = match pmod l [] with | none => none | some c => if sweepOf c = l then some c else none by rw [← HQ.out, sweepBytes, if_neg (by omega)]; rfl)
  have h3 : ¬ (2000 : Int) < l.length := by omega
  clear HQ
  go_enter Try.func51, Try.ntmps51
  go_wp2_with fail
  go_loopw [4, 14] (fun v c wr => ∃ (k : Nat) (out : List Int), c = .int .i64 k ∧ k ≤ l.length ∧ SbRel l w v out k wr) (fun _ c _ => l.length - (intOf c).toNat)
  case atStart => exact ⟨0, [], rfl, by omega, ⟨World.ownsRow_nil _ _ _ _, rfl, by simp, Below.refl _ _⟩⟩
  case round =>
    obtain ⟨k, out, rfl, hk, hrel⟩ := hrel
    have HR := hid hrel
    have hol := hrel.len
    have hzr := hrel.bel.size
    obtain ⟨sv, cv, rfl⟩ := own_slice hrel.own
    clear hrel
    by_cases hlt : k < l.length
    · rcases HA.out with h | ⟨g, of_, rfl, hg, hc⟩
      · omega
      obtain ⟨c0, c1, c2, c3, c4, c5, c6⟩ := lnCells_get l k hlt
      have q0 := (HR.out.bel.cell (p := ⟨g, of_ + (k * 7), none⟩) hg).trans (hc _ _ c0)
      have q1 := (HR.out.bel.cell (p := ⟨g, of_ + (k * 7 + 1), none⟩) hg).trans (hc _ _ c1)
      have q2 := (HR.out.bel.cell (p := ⟨g, of_ + (k * 7 + 2), none⟩) hg).trans (hc _ _ c2)
      have q3 := (HR.out.bel.cell (p := ⟨g, of_ + (k * 7 + 3), none⟩) hg).trans (hc _ _ c3)
      have q4 := (HR.out.bel.cell (p := ⟨g, of_ + (k * 7 + 4), none⟩) hg).trans (hc _ _ c4)
      have q5 := (HR.out.bel.cell (p := ⟨g, of_ + (k * 7 + 5), none⟩) hg).trans (hc _ _ c5)
      have q6 := (HR.out.bel.cell (p := ⟨g, of_ + (k * 7 + 6), none⟩) hg).trans (hc _ _ c6)
      obtain ⟨ln, hln⟩ : ∃ x, l.getD k .none = x := ⟨_, rfl⟩
      rw [hln] at q0 q1 q2 q3 q4 q5 q6
      simp only [← Nat.add_assoc] at q0 q1 q2 q3 q4 q5 q6
      have k1 : (k : Int) < l.length := by omega
      have k0 : 0 ≤ (k : Int) := by omega
      have HLn := hid hln
      clear hc c0 c1 c2 c3 c4 c5 c6 hln
      have HB1 := hid (HR.out.bel.alloc hzr (.cells (lnArr ln) 110))
      have HO1 := hid (HR.out.own.alloc (.cells (lnArr ln) 110))
      go_wp2_with fail
      refine (lineBytes_c ln _).mono ?_
      rintro e w2 ⟨v2, rfl, hb2, hno, hown⟩
      have HB2 := hid (HB1.out.trans (hb2.mono HB1.out.size))
      have HO2 := hid (own_on HO1.out hb2)
      have HNo := hid hno
      have HOw := hid (fun l hl => own_mono (hown l hl) HB1.out.size)
      have hz2 := HB2.out.size
      clear hb2 hno hown q0 q1 q2 q3 q4 q5 q6
      cases hbp : bytesP ln with
      | none =>
        obtain rfl : o = none := by rw [HQ2.out, HR.out.eq, pmod_none hlt (by rw [HLn.out]; exact hbp)]
        obtain rfl := HNo.out hbp
        clear hbp
        simp only [Option.isSome_none]
        go_wp2_with fail
        go_ret2
        exact ⟨_, rfl, World.ownsRow_nil _ _ _ _, HB2.out⟩
      | some b =>
        have hb5 := bytesP_len hbp
        have HE := hid (pmod_some (out := out) hlt (by rw [HLn.out]; exact hbp))
        have HOb := hid (HOw.out b hbp)
        obtain ⟨s2, c2, rfl⟩ := own_slice HOb.out
        have HSr := hid (SrcAt.of_rd (Rd.of_own HOb.out))
        clear hbp
        simp only [Option.isSome_some]
        go_wp2_with (at_builtin; refine app_ints _ rfl _ _ rfl w.heap.size out b _ rfl HO2.out _ _ _ rfl rfl HSr.out (by omega) (by omega) ?_)
        intro v3 w3 hg3
        have HM := hid (show SbRel l w v3 (out ++ b) (k + 1) w3 from ⟨hg3.own, HR.out.eq.trans HE.out, by rw [List.length_append]; omega, HB2.out.trans hg3.bel⟩)
        clear hg3
        go_wp2_with fail
        go_roundw
        case rel => exact ⟨k + 1, out ++ b, by go_num, by omega, HM.out⟩
        case measure => simp [intOf]; omega
    · obtain rfl : k = l.length := by omega
      have HE := hid (show pmod l [] = some out by rw [HR.out.eq, List.drop_length]; rfl)
      have hsl := sweepOf_len out
      go_wp2_with fail
      refine (sweepOf_c out _ _ (.of_own HR.out.own) (own_cap3 HR.out.own) (by omega)).mono ?_
      rintro e w2 ⟨v2, rfl, hown2, hb2⟩
      have HO2 := hid hown2
      have HB2 := hid (HR.out.bel.trans (hb2.mono hzr))
      have HOut := hid (own_on HR.out.own hb2)
      obtain ⟨s2, c2, rfl⟩ := own_slice hown2
      clear hown2 hb2
      go_wp2_with fail
      refine (equalL_c (sweepOf out) l _ _ _ (.of_own HO2.out) (HRd.out.on HB2.out) (by omega) hl).mono ?_
      rintro e w3 ⟨rfl, m, rfl⟩
      have HB3 := hid (HB2.out.trans ((below_drewN w2 m).mono HB2.out.size))
      have HO3 := hid (own_on HOut.out (below_drewN w2 m))
      by_cases hse : sweepOf out = l
      · have HE2 := hid (show eqLines (sweepOf out) l = true by unfold eqLines; rw [decide_eq_true hse])
        obtain rfl : o = some out := by rw [HQ2.out, HE.out]; simp only; rw [if_pos hse]
        rw [HE2.out]
        clear hse
        go_wp2_with fail
        go_ret2
        exact ⟨_, rfl, HO3.out, HB3.out⟩
      · have HE2 := hid (show eqLines (sweepOf out) l = false by unfold eqLines; rw [decide_eq_false hse])
        obtain rfl : o = none := by rw [HQ2.out, HE.out]; simp only; rw [if_neg hse]
        rw [HE2.out]
        clear hse
        go_wp2_with fail
        go_ret2
        exact ⟨_, rfl, World.ownsRow_nil _ _ _ _, HB3.out⟩
end Go.Proofs.Ytihhpgklpichgab.Sw
