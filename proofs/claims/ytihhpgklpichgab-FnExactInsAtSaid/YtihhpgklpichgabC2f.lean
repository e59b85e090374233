/- withBytes, firstByte, the tails' number: what they return. -/
import Derived.Test.YtihhpgklpichgabC2e
set_option linter.unusedSimpArgs false
set_option linter.unusedVariables false
namespace Go.Proofs.Ytihhpgklpichgab.C2
open Go.RowKit Pl Ft Mm

theorem info_int : (Try.prog.info? 3).map (fun i => (i.zero, i.size, i.bytes)) = some (some (.int .i64 0), 1, 8) := by kernel_rfl
theorem ints_one (l : List Int) : ∀ u ∈ ints l, u.oneCell' = true := by
  intro u hu
  obtain ⟨n, _, rfl⟩ := List.mem_map.1 hu
  rfl
theorem ints_append (a b : List Int) : ints (a ++ b) = ints a ++ ints b := by simp [ints]
theorem ints_len (a : List Int) : (ints a).length = a.length := by simp [ints]
set_option maxHeartbeats 1000000 in
theorem withBytes_c (B : Nat) (xs : List Int) (x : Int) (m : Nat) (v : Value) (w : World) (hown : w.ownsRow B 3 1 v xs.length (ints xs)) (hB : B ≤ w.heap.size) (hm : m ≤ 2) (hxs : xs.length ≤ 1000000) (h0 : -9223372036854775808 ≤ x) (h1 : x ≤ 9223372036854775807) :
    Calls Try.prog 68 #[v, .int .i64 x, .int .i64 m] w fun e w' => ∃ v', e = .returned v' ∧ w'.ownsRow B 3 1 v' (xs ++ bytesOf x m).length (ints (xs ++ bytesOf x m)) ∧ Below B w w' := by
  have HO := hid hown
  clear hown
  obtain ⟨i0, hi, hz0, hz1, hz2⟩ := info_parts info_int
  have H0 := hid hz0
  have H1 := hid hz1
  have H2 := hid hz2
  have HI := hid hi
  clear hz0 hz1 hz2 hi
  go_enter Try.func68, Try.ntmps68
  go_wp2
  go_loopw [0, 1, 8] (fun v y c wr => ∃ k : Nat, c = .int .i64 k ∧ y = .int .i64 (dv x k) ∧ k ≤ m ∧ wr.ownsRow B 3 1 v (xs ++ bytesOf x k).length (ints (xs ++ bytesOf x k)) ∧ Below B w wr) (fun _ _ c _ => m - (intOf c).toNat)
  case atStart => exact ⟨0, rfl, rfl, by omega, by simpa [bytesOf] using HO.out, Below.refl _ _⟩
  case round =>
    obtain ⟨k, rfl, rfl, hk, hown, hbel⟩ := hrel
    have hlen : (xs ++ bytesOf x k).length = xs.length + k := by rw [List.length_append, bytesOf_len]
    have HOw := hid hown
    have HBe := hid hbel
    have hsz : B ≤ wr.heap.size := by have := hbel.size; omega
    have hd := dv_bd x h0 h1 k
    obtain ⟨hd0, hd1⟩ := hd
    have hand := and255 (dv x k)
    have HL := hid hlen
    clear hown hbel hlen
    by_cases hlt : k < m
    · go_wp2_with (at_builtin; refine wpList_append_own _ rfl _ _ 22 rfl B 3 i0 (.int .i64 0) 1 8 Try.underlying22 HI.out H0.out H1.out H2.out rfl (by decide) _ _ _ rfl (HOw.out.alloc _) ⟨wr.heap.size, 0, none⟩ 1 1 [.int .i64 (dv x k % 256)] rfl rfl ?c1 ?c2 ?c3 ?c4 ?c5 ?_)
      case c1 => exact new_cells wr _ _ _ rfl
      case c2 => intro u hu; simp at hu; subst hu; rfl
      case c3 => have := HL.out; simp only [maxLen]; omega
      case c4 => have := HL.out; omega
      case c5 => simp; omega
      intro v' w1 hown' hgrow _
      have hfin : w1.ownsRow B 3 1 v' (xs ++ bytesOf x (k + 1)).length (ints (xs ++ bytesOf x (k + 1))) := by
        have e1 : (xs ++ bytesOf x (k + 1)).length = (xs ++ bytesOf x k).length + 1 := by rw [bytesOf_succ]; simp; omega
        have e2 : ints (xs ++ bytesOf x (k + 1)) = ints (xs ++ bytesOf x k) ++ [.int .i64 (dv x k % 256)] := by
          rw [bytesOf_succ, ← List.append_assoc, ints_append]; rfl
        rw [e1, e2, List.length_append]
        exact hown'
      have HF := hid hfin
      have HB2 := hid ((HBe.out.alloc hsz _).grown hgrow (by simp; omega) (fun g hg => (HOw.out.lt g hg).1))
      clear hown' hgrow hfin
      go_wp2
      go_roundw
      case rel => exact ⟨k + 1, by go_num, rfl, by omega, HF.out, HB2.out⟩
      case measure => simp [intOf]; omega
    · obtain rfl : k = m := by omega
      go_wp2
      go_ret
      exact ⟨_, rfl, HOw.out, HBe.out⟩
theorem firstByte_c (f : IForm) (i : IIns) (h0 : 0 ≤ f.first) (h1 : f.first ≤ 255) (h2 : -1000 ≤ i.a) (h3 : i.a ≤ 1000) (h4 : -1000 ≤ i.b) (h5 : i.b ≤ 1000) (w : World) :
    Calls Try.prog 67 #[f.val, i.val] w fun e w' => e = .returned (.int .i64 (firstByte f i)) ∧ Below w.heap.size w w' := by
  obtain ⟨op, first, added, fa, fb, fn, fol, txt⟩ := f
  obtain ⟨iop, ia, ib, n⟩ := i
  unfold IForm.val IIns.val
  simp only at h0 h1 h2 h3 h4 h5 ⊢
  have c2 := hid ((Below.refl w.heap.size w).alloc (Nat.le_refl _) (.cells #[.int .i64 op, .int .i64 first, .int .i64 added, .int .i64 fa, .int .i64 fb, .int .i64 fn, .string fol, .string txt] 77) |>.alloc (by simp) (.cells #[.int .i64 iop, .int .i64 ia, .int .i64 ib, .int .i64 n] 24))
  cases e1 : added == 1
  · cases e2 : added == 2
    all_goals
      go_enter Try.func67, Try.ntmps67
      go_wp2
      go_ret
      simp at e1 e2
      exact ⟨int_eq (by simp [firstByte, e1, e2]), c2.out⟩
  · go_enter Try.func67, Try.ntmps67
    go_wp2
    go_ret
    simp at e1
    exact ⟨int_eq (by simp [firstByte, e1]), c2.out⟩
theorem rNum_c (i : IIns) (next : Int) (h2 : -1000 ≤ i.a) (h3 : i.a ≤ 1000) (h4 : -1000 ≤ i.b) (h5 : i.b ≤ 1000) (w : World) : Calls Try.prog 156 #[.agg #[], i.val, .int .i64 next] w fun e w' => e = .returned (.tuple #[.int .i64 (letterNum 114 i next), .bool (letterFit 114 i next)]) ∧ Below w.heap.size w w' := by
  obtain ⟨iop, ia, ib, n⟩ := i
  unfold IIns.val
  simp only at h2 h3 h4 h5 ⊢
  go_enter Try.func156, Try.ntmps156
  go_wp2
  go_ret2
  exact ⟨by simp [letterNum, letterFit], ((Below.refl _ _).alloc (Nat.le_refl _) _).alloc (by simp) _⟩
theorem nNum_c (c : Nat) (hc : c = 98 ∨ c = 115 ∨ c = 119) (x : Int) (s : Bool) (i : IIns) (next : Int) (w : World) : Calls Try.prog 159 #[.agg #[.int .i64 x, .bool s], i.val, .int .i64 next] w fun e w' => e = .returned (.tuple #[.int .i64 (letterNum c i next), .bool (letterFit c i next)]) ∧ Below w.heap.size w w' := by
  obtain ⟨iop, ia, ib, n⟩ := i
  have e1 : letterNum c ⟨iop, ia, ib, n⟩ next = n := by rcases hc with rfl | rfl | rfl <;> rfl
  have e2 : letterFit c ⟨iop, ia, ib, n⟩ next = true := by rcases hc with rfl | rfl | rfl <;> rfl
  rw [e1, e2]
  clear e1 e2
  unfold IIns.val
  simp only
  go_enter Try.func159, Try.ntmps159
  go_wp2
  go_ret2
  exact ⟨rfl, ((Below.refl _ _).alloc (Nat.le_refl _) _).alloc (by simp) _⟩
theorem cNum_c (i : IIns) (next : Int) (w : World) : Calls Try.prog 163 #[.agg #[], i.val, .int .i64 next] w fun e w' => e = .returned (.tuple #[.int .i64 (letterNum 116 i next), .bool (letterFit 116 i next)]) ∧ Below w.heap.size w w' := by
  obtain ⟨iop, ia, ib, n⟩ := i
  unfold IIns.val
  simp only
  go_enter Try.func163, Try.ntmps163
  go_wp2
  go_ret2
  exact ⟨rfl, ((Below.refl _ _).alloc (Nat.le_refl _) _).alloc (by simp) _⟩
theorem jNum_c (i : IIns) (next : Int) (h2 : -1000000 ≤ i.n) (h3 : i.n ≤ 1000000) (h4 : -1000000 ≤ next) (h5 : next ≤ 1000000) (w : World) : Calls Try.prog 166 #[.agg #[], i.val, .int .i64 next] w fun e w' => e = .returned (.tuple #[.int .i64 (letterNum 110 i next), .bool (letterFit 110 i next)]) ∧ Below w.heap.size w w' := by
  obtain ⟨iop, ia, ib, n⟩ := i
  unfold IIns.val
  simp only at h2 h3 ⊢
  go_enter Try.func166, Try.ntmps166
  go_wp2_with (go_at_call 64; refine (has_c _ _ _).mono ?_; rintro e w' ⟨rfl, rfl⟩)
  go_ret2
  exact ⟨by simp [letterNum, letterFit], ((Below.refl _ _).alloc (Nat.le_refl _) _).alloc (by simp) _⟩
end Go.Proofs.Ytihhpgklpichgab.C2
