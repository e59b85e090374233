/- How one goes on from an instruction: exitOf and ways of the program. -/
import Derived.Test.YtihhpgklpichgaaGreatMp
import Derived.Test.YtihhpgklpichgaaGreatTb
import Derived.Test.YtihhpgklpichgaaGreatApp
import Derived.Deep.RegionLaw
set_option linter.unusedSimpArgs false
set_option linter.unusedVariables false
namespace Go.Proofs.YtihhpgklpichgaaGreat.Wk
open Go.RowKit Pl Ft Mm In C2 Im Sw

/-- What stands for the way on. -/
def exVal (i : IIns) (next : Int) (tv : Value) (whole : Bool) : Value :=
  if i.op = 0 ∨ i.op = 1 then .iface 141 (.agg #[])
  else if i.op = 27 then .iface 143 (.agg #[.int .i64 i.n])
  else if i.op = 28 then .iface 145 (.agg #[.int .i64 i.n, .int .i64 next])
  else if i.op = 29 then .iface 149 (.agg #[.int .i64 next, .int .i64 i.n])
  else if i.op = 30 then .iface 151 (.agg #[tv, .bool whole, .int .i64 next])
  else .iface 147 (.agg #[.int .i64 next])
def ExPost (code : List Int) (i : IIns) (next : Int) (w : World) (e : Ending) (w' : World) : Prop :=
  ∃ tv, e = .returned (exVal i next tv (tabP code i).isSome) ∧ (i.op = 30 → w'.ownsRow w.heap.size 3 1 tv ((tabP code i).getD []).length (ints ((tabP code i).getD []))) ∧ Below w.heap.size w w'
set_option maxRecDepth 100000 in
set_option maxHeartbeats 2000000 in
theorem exitOf_c (code : List Int) (v : Value) (i : IIns) (next : Int) (w : World) (hr : Rd w v code) (hcap : ∀ a n c, v = .slice a n c → n ≤ c) (hb : code.all isByte = true) (hlen : code.length ≤ 2000) (hv : validIns i = true) :
    Calls Tryz.prog 100 #[v, .agg (rdArr i next)] w (ExPost code i next w) := by
  have HRd := hid hr
  have HCap := hid hcap
  have HBy := hid hb
  have HV := hid hv
  obtain ⟨a, cap, rfl, _⟩ := hr
  clear hcap hb hv
  obtain ⟨op, ia, ib, n⟩ := i
  unfold rdArr
  simp only
  have HX0 := hid (Row.new w 112 #[.int .i64 op, .int .i64 ia, .int .i64 ib, .int .i64 n, .int .i64 next])
  have HB0 := hid ((Below.refl w.heap.size w).alloc (Nat.le_refl _) (.cells #[.int .i64 op, .int .i64 ia, .int .i64 ib, .int .i64 n, .int .i64 next] 112))
  by_cases h0 : op = 0
  · subst h0
    have HE := hid (show ∀ tv b, exVal ⟨0, ia, ib, n⟩ next tv b = .iface 141 (.agg #[]) from fun _ _ => rfl)
    go_enter Tryz.func100, Tryz.ntmps100
    go_wp2_with fail
    go_ret
    exact ⟨.nilIface, by rw [HE.out]; rfl, fun h => by simp at h, HB0.out⟩
  by_cases h1 : op = 1
  · subst h1
    have HE := hid (show ∀ tv b, exVal ⟨1, ia, ib, n⟩ next tv b = .iface 141 (.agg #[]) from fun _ _ => rfl)
    clear h0
    go_enter Tryz.func100, Tryz.ntmps100
    go_wp2_with fail
    go_ret
    exact ⟨.nilIface, by rw [HE.out]; rfl, fun h => by simp at h, HB0.out⟩
  by_cases h27 : op = 27
  · subst h27
    have HE := hid (show ∀ tv b, exVal ⟨27, ia, ib, n⟩ next tv b = .iface 143 (.agg #[.int .i64 n]) from fun _ _ => rfl)
    clear h0 h1
    go_enter Tryz.func100, Tryz.ntmps100
    go_wp2_with fail
    go_ret
    exact ⟨.nilIface, by rw [HE.out]; rfl, fun h => by simp at h, HB0.out⟩
  by_cases h28 : op = 28
  · subst h28
    have HE := hid (show ∀ tv b, exVal ⟨28, ia, ib, n⟩ next tv b = .iface 145 (.agg #[.int .i64 n, .int .i64 next]) from fun _ _ => rfl)
    clear h0 h1 h27
    go_enter Tryz.func100, Tryz.ntmps100
    go_wp2_with fail
    go_ret
    exact ⟨.nilIface, by rw [HE.out]; rfl, fun h => by simp at h, HB0.out⟩
  by_cases h29 : op = 29
  · subst h29
    have HE := hid (show ∀ tv b, exVal ⟨29, ia, ib, n⟩ next tv b = .iface 149 (.agg #[.int .i64 next, .int .i64 n]) from fun _ _ => rfl)
    clear h0 h1 h27 h28
    go_enter Tryz.func100, Tryz.ntmps100
    go_wp2_with fail
    go_ret
    exact ⟨.nilIface, by rw [HE.out]; rfl, fun h => by simp at h, HB0.out⟩
  by_cases h30 : op = 30
  · subst h30
    have HE := hid (show ∀ tv b, exVal ⟨30, ia, ib, n⟩ next tv b = .iface 151 (.agg #[tv, .bool b, .int .i64 next]) from fun _ _ => rfl)
    obtain ⟨n0, n1, b1, b8⟩ := table_bd HV.out rfl
    clear h0 h1 h27 h28 h29
    go_enter Tryz.func100, Tryz.ntmps100
    go_wp2_with fail
    refine (tableIn_c code _ ⟨30, ia, ib, n⟩ _ (HRd.out.on HB0.out) HCap.out HBy.out hlen n0 (by simp only; omega) b1 b8).mono ?_
    rintro e w1 ⟨tv, rfl, hown, hb1⟩
    have HO1 := hid (own_mono hown HB0.out.size)
    have HB1 := hid (HB0.out.trans (hb1.mono HB0.out.size))
    have HX1 := hid (HX0.out.on hb1)
    have x4 := HX1.out.cell 4
    simp at x4
    obtain ⟨ts, tc, rfl⟩ := own_slice hown
    clear hown hb1
    go_wp2_with fail
    go_ret
    exact ⟨_, by rw [HE.out]; rfl, fun _ => HO1.out, HB1.out⟩
  · have HE := hid (show ∀ tv b, exVal ⟨op, ia, ib, n⟩ next tv b = .iface 147 (.agg #[.int .i64 next]) from fun _ _ => by
      unfold exVal
      rw [if_neg (by simp only; omega), if_neg h27, if_neg h28, if_neg h29, if_neg h30])
    have HN := hid h30
    have b0 : (op == 0) = false := by rw [beq_eq_false_iff_ne]; exact h0
    have b1 : (op == 1) = false := by rw [beq_eq_false_iff_ne]; exact h1
    have b27 : (op == 27) = false := by rw [beq_eq_false_iff_ne]; exact h27
    have b28 : (op == 28) = false := by rw [beq_eq_false_iff_ne]; exact h28
    have b29 : (op == 29) = false := by rw [beq_eq_false_iff_ne]; exact h29
    have b30 : (op == 30) = false := by rw [beq_eq_false_iff_ne]; exact h30
    go_enter Tryz.func100, Tryz.ntmps100
    go_wp2_with fail
    go_ret
    exact ⟨.nilIface, by rw [HE.out]; rfl, fun h => absurd h HN.out, HB0.out⟩
end Go.Proofs.YtihhpgklpichgaaGreat.Wk
