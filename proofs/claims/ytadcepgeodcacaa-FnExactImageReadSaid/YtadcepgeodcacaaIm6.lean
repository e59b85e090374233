/- Whether numbers, or names, are equal: the library's slices.Equal at []int and []Name, and the model's sameInts. -/
import Derived.Test.YtadcepgeodcacaaIm5
import Derived.Test.YtadcepgeodcacaaImgRd
import Derived.Laws.StructEq
set_option linter.unusedSimpArgs false
set_option linter.unusedVariables false
namespace Go.Proofs.Ytadcepgeodcacaa.Im
open Go.RowKit Pl Ft Mm In C2

def SameTo (xs ys : List Int) (k : Nat) : Prop := xs.take k = ys.take k
theorem SameTo.succ {xs ys : List Int} {k : Nat} (h : SameTo xs ys k) (h1 : k < xs.length) (h2 : k < ys.length) (he : xs.getD k 0 = ys.getD k 0) : SameTo xs ys (k + 1) := by
  unfold SameTo at h ⊢
  rw [take_all xs k h1, take_all ys k h2, h, he]
theorem eqInts_no {xs ys : List Int} {k : Nat} (h : xs.getD k 0 ≠ ys.getD k 0) : eqInts xs ys = false := by
  unfold eqInts
  rw [decide_eq_false_iff_not]
  intro e
  rw [e] at h
  exact h rfl
theorem eqInts_len {xs ys : List Int} (h : xs.length ≠ ys.length) : eqInts xs ys = false := by
  unfold eqInts
  rw [decide_eq_false_iff_not]
  intro e
  rw [e] at h
  exact h rfl
theorem eqInts_yes {xs ys : List Int} (hl : xs.length = ys.length) (h : SameTo xs ys xs.length) : eqInts xs ys = true := by
  unfold eqInts SameTo at *
  rw [decide_eq_true_eq]
  have h2 := h
  rw [List.take_length] at h2
  rw [hl, List.take_length] at h2
  exact h2
def EqPost (b : Bool) (w : World) (e : Ending) (w' : World) : Prop := e = .returned (.bool b) ∧ ∃ m, w' = w.drewN m
theorem eqPost {b b' : Bool} {w wr : World} (hw : ∃ m, wr = w.drewN m) (h : b = b') : EqPost b w (.returned (.bool b')) wr := ⟨bool_eq h.symm, hw⟩
set_option maxHeartbeats 1000000 in
theorem equalI_c (xs ys : List Int) (va vb : Value) (w : World) (ha : Rd w va xs) (hb : Rd w vb ys) (hx : xs.length ≤ 4611686018427387904) (hy : ys.length ≤ 4611686018427387904) :
    Calls Try.prog 55 #[va, vb] w (EqPost (eqInts xs ys) w) := by
  obtain ⟨a, ca, rfl, ha⟩ := ha
  obtain ⟨b, cb, rfl, hb⟩ := hb
  have HA := hid ha
  have HB := hid hb
  clear ha hb
  by_cases hl : xs.length = ys.length
  case neg =>
    have HN := hid (eqInts_len hl)
    have hne : ((xs.length : Int) == (ys.length : Int)) = false := by rw [beq_eq_false_iff_ne]; omega
    have hne2 : ((xs.length : Int) != (ys.length : Int)) = true := by rw [bne_iff_ne]; omega
    go_enter Try.func55, Try.ntmps55
    go_wp2_with fail
    go_ret
    exact eqPost ⟨0, rfl⟩ HN.out
  have HL := hid hl
  rw [← hl]
  clear hl
  go_enter Try.func55, Try.ntmps55
  go_wp2_with fail
  go_loopw [13] (fun c wr => ∃ k : Nat, c = .int .i64 k ∧ k ≤ xs.length ∧ SameTo xs ys k ∧ ∃ m, wr = w.drewN m) (fun c _ => xs.length - (intOf c).toNat)
  case atStart => exact ⟨0, rfl, by omega, by simp [SameTo], 0, rfl⟩
  case round =>
    obtain ⟨k, rfl, hk, hs, hw⟩ := hrel
    have HS := hid hs
    have HW := hid hw
    have HCell := hid (cell_wd hw)
    clear hs hw
    by_cases hlt : k < xs.length
    · rcases HA.out with h | ⟨g, o, rfl, hg, hc⟩
      · subst h; simp at hlt
      rcases HB.out with h | ⟨g2, o2, rfl, hg2, hc2⟩
      · have := HL.out; rw [h] at this; simp at this; rw [this] at hlt; simp at hlt
      have q1 := hc k hlt
      have q2 := hc2 k (by have := HL.out; omega)
      obtain ⟨x, hx⟩ : ∃ x, xs.getD k 0 = x := ⟨_, rfl⟩
      obtain ⟨y, hy⟩ : ∃ x, ys.getD k 0 = x := ⟨_, rfl⟩
      rw [hx, ← HCell.out] at q1
      rw [hy, ← HCell.out] at q2
      have HX := hid hx
      have HY := hid hy
      have k1 : (k : Int) < xs.length := by omega
      have k0 : 0 ≤ (k : Int) := by omega
      clear hc hc2 hx hy
      by_cases he : x = y
      · have HS2 := hid (HS.out.succ hlt (by have := HL.out; omega) (by rw [HX.out, HY.out]; exact he))
        subst he
        go_wp2_with fail
        go_quiet (fail)
        clear q1 q2
        go_wp2_with fail
        go_roundw
        case rel => exact ⟨k + 1, by go_num, by omega, HS2.out, wd_more HW.out _⟩
        case measure => simp [intOf]; omega
      · have HN := hid (show eqInts xs ys = false from eqInts_no (k := k) (by rw [HX.out, HY.out]; exact he))
        have hne : (x == y) = false := by rw [beq_eq_false_iff_ne]; exact he
        have hne2 : (x != y) = true := by rw [bne_iff_ne]; exact he
        clear he
        go_wp2_with fail
        go_quiet (fail)
        clear q1 q2
        go_wp2_with fail
        go_ret
        exact eqPost (wd_more HW.out _) HN.out
    · obtain rfl : k = xs.length := by omega
      have HY := hid (eqInts_yes HL.out HS.out)
      go_wp2_with fail
      go_ret
      exact eqPost HW.out HY.out
set_option maxHeartbeats 1000000 in
theorem sameInts_q (xs ys : List Int) (va vb : Value) (w : World) (ha : Rd w va xs) (hb : Rd w vb ys) (hx : xs.length ≤ 4611686018427387904) (hy : ys.length ≤ 4611686018427387904) :
    Calls Try.prog 38 #[va, vb] w (EqPost (eqInts xs ys) w) := by
  obtain ⟨a, ca, rfl, ha⟩ := ha
  obtain ⟨b, cb, rfl, hb⟩ := hb
  have HA := hid ha
  have HB := hid hb
  clear ha hb
  by_cases hl : xs.length = ys.length
  case neg =>
    have HN := hid (eqInts_len hl)
    have hne : ((xs.length : Int) == (ys.length : Int)) = false := by rw [beq_eq_false_iff_ne]; omega
    have hne2 : ((xs.length : Int) != (ys.length : Int)) = true := by rw [bne_iff_ne]; omega
    go_enter Try.func38, Try.ntmps38
    go_wp2_with fail
    go_ret
    exact eqPost ⟨0, rfl⟩ HN.out
  have HL := hid hl
  rw [← hl]
  clear hl
  go_enter Try.func38, Try.ntmps38
  go_wp2_with fail
  go_loopw [5] (fun c wr => ∃ k : Nat, c = .int .i64 k ∧ k ≤ xs.length ∧ SameTo xs ys k ∧ ∃ m, wr = w.drewN m) (fun c _ => xs.length - (intOf c).toNat)
  case atStart => exact ⟨0, rfl, by omega, by simp [SameTo], 0, rfl⟩
  case round =>
    obtain ⟨k, rfl, hk, hs, hw⟩ := hrel
    have HS := hid hs
    have HW := hid hw
    have HCell := hid (cell_wd hw)
    clear hs hw
    by_cases hlt : k < xs.length
    · rcases HA.out with h | ⟨g, o, rfl, hg, hc⟩
      · subst h; simp at hlt
      rcases HB.out with h | ⟨g2, o2, rfl, hg2, hc2⟩
      · have := HL.out; rw [h] at this; simp at this; rw [this] at hlt; simp at hlt
      have q1 := hc k hlt
      have q2 := hc2 k (by have := HL.out; omega)
      obtain ⟨x, hx⟩ : ∃ x, xs.getD k 0 = x := ⟨_, rfl⟩
      obtain ⟨y, hy⟩ : ∃ x, ys.getD k 0 = x := ⟨_, rfl⟩
      rw [hx, ← HCell.out] at q1
      rw [hy, ← HCell.out] at q2
      have HX := hid hx
      have HY := hid hy
      have k1 : (k : Int) < xs.length := by omega
      have k0 : 0 ≤ (k : Int) := by omega
      clear hc hc2 hx hy
      by_cases he : x = y
      · have HS2 := hid (HS.out.succ hlt (by have := HL.out; omega) (by rw [HX.out, HY.out]; exact he))
        subst he
        go_wp2_with fail
        go_quiet (fail)
        clear q1 q2
        go_wp2_with fail
        go_roundw
        case rel => exact ⟨k + 1, by go_num, by omega, HS2.out, wd_more HW.out _⟩
        case measure => simp [intOf]; omega
      · have HN := hid (show eqInts xs ys = false from eqInts_no (k := k) (by rw [HX.out, HY.out]; exact he))
        have hne : (x == y) = false := by rw [beq_eq_false_iff_ne]; exact he
        have hne2 : (x != y) = true := by rw [bne_iff_ne]; exact he
        clear he
        go_wp2_with fail
        go_quiet (fail)
        clear q1 q2
        go_wp2_with fail
        go_ret
        exact eqPost (wd_more HW.out _) HN.out
    · obtain rfl : k = xs.length := by omega
      have HY := hid (eqInts_yes HL.out HS.out)
      go_wp2_with fail
      go_ret
      exact eqPost HW.out HY.out
/-- Names that are equal, one by one. -/
def eqNm (a b : Nm) : Bool := (a.text.toList == b.text.toList) && (a.at_ == b.at_)
def eqNames (a b : List Nm) : Bool := decide (a.length = b.length) && (List.range a.length).all fun k => eqNm (a.getD k .none) (b.getD k .none)
def SameNTo (a b : List Nm) (k : Nat) : Prop := ∀ j, j < k → eqNm (a.getD j .none) (b.getD j .none) = true
theorem SameNTo.succ {a b : List Nm} {k : Nat} (h : SameNTo a b k) (he : eqNm (a.getD k .none) (b.getD k .none) = true) : SameNTo a b (k + 1) := by
  intro j hj
  by_cases e : j = k
  · subst e; exact he
  · exact h j (by omega)
theorem eqNames_no {a b : List Nm} {k : Nat} (hk : k < a.length) (h : eqNm (a.getD k .none) (b.getD k .none) = false) : eqNames a b = false := by
  have : ((List.range a.length).all fun k => eqNm (a.getD k .none) (b.getD k .none)) = false := by
    rw [List.all_eq_false]
    exact ⟨k, List.mem_range.2 hk, by rw [h]; simp⟩
  unfold eqNames
  rw [this]; simp
theorem eqNames_len {a b : List Nm} (h : a.length ≠ b.length) : eqNames a b = false := by
  unfold eqNames
  rw [decide_eq_false h]; rfl
theorem eqNames_yes {a b : List Nm} (hl : a.length = b.length) (h : SameNTo a b a.length) : eqNames a b = true := by
  unfold eqNames
  rw [decide_eq_true hl, Bool.true_and, List.all_eq_true]
  intro k hk
  exact h k (List.mem_range.1 hk)
theorem name_fields : Try.prog.underlying 77 = some (.struct (Try.prog.fieldsOf 77)) := by kernel_rfl
theorem name_held : Try.prog.stoodInHeld 77 = false := by kernel_rfl
theorem name_guard : Try.prog.eqGuardType Try.prog.depth 77 = false := by kernel_rfl
theorem neq_name (s t : ByteArray) (x y : Int) {b : Bool} (hb : ((s.toList == t.toList) && (x == y)) = b) (w : World) : (binOp .neq 77 (.agg #[.string s, .int .i64 x]) (.agg #[.string t, .int .i64 y])).run Try.prog w = .ok (.bool (!b)) w := by
  have hu := name_fields.symm.trans Try.underlying77
  simp only [Option.some.injEq, TypeDesc.struct.injEq] at hu
  rw [run_neq_struct, run_equalIn_agg _ _ _ _ _ name_fields name_held, hu, ← hb]
  cases h : (s.toList == t.toList)
  · simp [Op.eqFields, part, go_sem, Try.underlying9, Try.underlying3, h]
  · by_cases hx : x = y
    · simp [Op.eqFields, part, go_sem, Try.underlying9, Try.underlying3, h, hx]
    · simp [Op.eqFields, part, go_sem, Try.underlying9, Try.underlying3, h, hx]
theorem guard_name (op : BinOp) (a b : Operand) (xs ys : Array Value) (w : World) : (eqGuard op 77 a b (.agg xs) (.agg ys)).run Try.prog w = .ok () w := run_eqGuard_agg w op 77 a b xs ys name_guard
end Go.Proofs.Ytadcepgeodcacaa.Im
