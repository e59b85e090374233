/- slices.Repeat of one number; the nearest nodes on all ways, and DomsOf: the program. -/
import Derived.Test.YtbbhbjdpdhbjlaaGo
import Derived.Laws.CopyOwn
import Derived.StillTailTactics
set_option linter.unusedSimpArgs false
set_option linter.unusedVariables false
namespace Go.Proofs.Ytbbhbjdpdhbjlaa.Ge
open Go.RowKit Pl Ft Mm In Gp

set_option maxRecDepth 100000 in
set_option maxHeartbeats 4000000 in
theorem mul64_c (n : Nat) (w : World) (hn : n ≤ 30) : Calls Try.prog 101 #[.int .u64 1, .int .u64 n] w fun e w' => e = .returned (.tuple #[.int .u64 0, .int .u64 n]) ∧ w' = w := by
  have h : n = 0 ∨ n = 1 ∨ n = 2 ∨ n = 3 ∨ n = 4 ∨ n = 5 ∨ n = 6 ∨ n = 7 ∨ n = 8 ∨ n = 9 ∨ n = 10 ∨ n = 11 ∨ n = 12 ∨ n = 13 ∨ n = 14 ∨ n = 15 ∨ n = 16 ∨ n = 17 ∨ n = 18 ∨ n = 19 ∨ n = 20 ∨ n = 21 ∨ n = 22 ∨ n = 23 ∨ n = 24 ∨ n = 25 ∨ n = 26 ∨ n = 27 ∨ n = 28 ∨ n = 29 ∨ n = 30 := by omega
  rcases h with rfl | rfl | rfl | rfl | rfl | rfl | rfl | rfl | rfl | rfl | rfl | rfl | rfl | rfl | rfl | rfl | rfl | rfl | rfl | rfl | rfl | rfl | rfl | rfl | rfl | rfl | rfl | rfl | rfl | rfl | rfl
  all_goals
    go_enter Try.func101, Try.ntmps101
    go_wp2_with fail
    go_ret2
    exact ⟨rfl, rfl⟩
set_option maxRecDepth 100000 in
theorem mul_c (n : Nat) (w : World) (hn : n ≤ 30) : Calls Try.prog 94 #[.int .u64 1, .int .u64 n] w fun e w' => e = .returned (.tuple #[.int .u64 0, .int .u64 n]) ∧ w' = w := by
  go_enter Try.func94, Try.ntmps94
  go_wp2_with fail
  refine (mul64_c n w hn).mono ?_
  rintro e w1 ⟨rfl, rfl⟩
  go_wp2_with fail
  go_ret2
  exact ⟨rfl, rfl⟩
/-- The row that grows: the first k are x. -/
def rRow (x : Int) (n k : Nat) : List Value := List.replicate k (.int .i64 x) ++ List.replicate (n - k) (.int .i64 0)
theorem rRow_len (x : Int) (n k : Nat) (h : k ≤ n) : (rRow x n k).length = n := by
  unfold rRow
  rw [List.length_append, List.length_replicate, List.length_replicate]
  omega
theorem rRow_splice (x : Int) (n k m : Nat) (h : k + m ≤ n) : splice (rRow x n k) k (List.replicate m (.int .i64 x)) = rRow x n (k + m) := by
  unfold splice rRow
  rw [List.take_left' (List.length_replicate ..), List.length_replicate, List.drop_append, List.length_replicate, List.drop_of_length_le (by rw [List.length_replicate]; omega), List.nil_append, List.drop_replicate, ← List.append_assoc, ← List.replicate_append_replicate]
  congr 2
  omega
theorem info_one : (Try.prog.info? 3).map (·.size) = some 1 := by kernel_rfl
set_option maxRecDepth 100000 in
set_option maxHeartbeats 4000000 in
theorem repeat_c (x : Int) (n : Nat) (b : Nat) (cap : Nat) (w : World) (hb : w.cell? ⟨b, 0, none⟩ = some (.int .i64 x)) (hbl : b < w.heap.size) (h1 : 1 ≤ n) (hn : n ≤ 30) :
    Calls Try.prog 76 #[.slice (some ⟨b, 0, none⟩) 1 cap, .int .i64 n] w (WaysPost (List.replicate n x) w) := by
  obtain ⟨i0, hi, hz0, hz1, hz2⟩ := info_parts info_int
  have H0 := hid hz0
  have H1 := hid hz1
  have H2 := hid hz2
  have HI := hid hi
  clear hz0 hz1 hz2 hi
  go_enter Try.func76, Try.ntmps76
  go_wp2_with fail
  refine (mul_c n w hn).mono ?_
  rintro e w1 ⟨rfl, rfl⟩
  go_upto_region 7 with (refine wpList_make_full _ rfl _ _ 26 rfl w1.heap.size 3 i0 (.int .i64 0) 1 Try.underlying26 HI.out H0.out H1.out .i64 .i64 _ _ n rfl rfl rfl rfl (by rw [H2.out]; omega) (by simp only [maxLen]; omega) (Nat.le_refl _) ?_; intro w2 hown2 hg2)
  have hmc : (madeCells (Value.cells (.int .i64 0)) (n * 1)).toList = List.replicate n (.int .i64 0) := by
    have e : Value.cells (.int .i64 0) = #[.int .i64 0] := rfl
    rw [e, toList_madeCells_one, Nat.mul_one]
  rw [hmc] at hown2
  have hrow : w2.heap[w1.heap.size]? = some (.cells (rRow x n 0).toArray 3 (0, 0)) := by
    rcases hown2.2 with ⟨h, _⟩ | ⟨g, cp, cur, hv, hg, hr, hnc, hm, hs, ht⟩
    · cases h
    · simp only [Value.slice.injEq, Option.some.injEq, Addr.mk.injEq, and_true, true_and] at hv
      obtain ⟨rfl, rfl⟩ := hv
      rw [Nat.mul_one] at hs ht
      rw [hr]
      congr 2
      apply Array.toList_inj.1
      rw [List.take_of_length_le (by rw [Array.length_toList, hs]; exact Nat.le_refl _)] at ht
      rw [ht]
      rfl
  have HB2 := hid ((Below.refl w1.heap.size w1).grown hg2 (Nat.le_refl _) (by simp))
  have q0 : w2.cell? ⟨b, 0, none⟩ = some (.int .i64 x) := (HB2.out.cell (p := ⟨b, 0, none⟩) hbl).trans hb
  have HQ := hid q0
  have HRow := hid hrow
  have HN1 := hid (show (1 : Nat) = Nat.min 1 n from (Nat.min_eq_left h1).symm)
  clear hown2 hg2 hmc hrow q0 hb
  have HPos := hid (show ∀ j u, [Value.int .i64 x][j]? = some u → w2.cell? ((⟨b, 0, none⟩ : Addr).add j) = some u from fun j u hu => by
    have hj : j = 0 := by have := (List.getElem?_eq_some_iff.1 hu).1; simpa using this
    subst hj
    simp at hu
    subst hu
    exact HQ.out)
  have HFit := hid (show 0 + [Value.int .i64 x].length ≤ (rRow x n 0).length from by rw [rRow_len x n 0 (by omega)]; simpa using h1)
  have HOne := hid (show ∀ u ∈ [Value.int .i64 x], u.oneCell' = true from fun u hu => by simp at hu; subst hu; rfl)
  go_wp2_with (refine wpList_copy_splice rfl (.tmp 31) (.tmp 32) 26 26 rfl 3 Try.underlying26 info_one _ _ _ _ _ _ rfl rfl w1.heap.size 0 (rRow x n 0) 3 HRow.out [.int .i64 x] HN1.out (fun _ => ⟨rfl, _, rfl, HPos.out⟩) HFit.out HOne.out w1.heap.size w1 HB2.out (Nat.le_refl _) ?_; intro w3 hg3 hb3)
  have hr3 : w3.heap[w1.heap.size]? = some (.cells (rRow x n 1).toArray 3 (0, 0)) := by
    have h := hg3.out
    rwa [show splice (rRow x n 0) 0 [.int .i64 x] = rRow x n (0 + 1) from rRow_splice x n 0 1 (by omega)] at h
  have HR3 := hid hr3
  have HB3 := hid hb3
  clear hr3 hb3 hg3
  go_wp2_with fail
  go_loopw [8] (fun y wr => ∃ k : Nat, y = .int .i64 k ∧ 1 ≤ k ∧ k ≤ n ∧ wr.heap[w1.heap.size]? = some (.cells (rRow x n k).toArray 3 (0, 0)) ∧ Below w1.heap.size w1 wr) (fun y _ => n - (intOf y).toNat)
  case atStart => exact ⟨1, rfl, by omega, by omega, HR3.out, HB3.out⟩
  case round =>
    obtain ⟨k, rfl, hk1, hk, hrow, hbel⟩ := hrel
    have HRow := hid hrow
    have HBe := hid hbel
    clear hrow hbel
    by_cases hlt : k < n
    · obtain ⟨m, hm⟩ : ∃ m, Nat.min k (n - k) = m := ⟨_, rfl⟩
      have hmk : m ≤ k ∧ m ≤ n - k ∧ 1 ≤ m := by
        have h1 : Nat.min k (n - k) ≤ k := Nat.min_le_left _ _
        have h2 : Nat.min k (n - k) ≤ n - k := Nat.min_le_right _ _
        have h3 : 1 ≤ Nat.min k (n - k) := Nat.le_min.2 ⟨hk1, by omega⟩
        omega
      have HMk := hid hmk
      have HNm := hid (show (List.replicate m (Value.int .i64 x)).length = Nat.min k (n - k) by rw [List.length_replicate, hm])
      have HPm := hid (show ∀ j u, (List.replicate m (Value.int .i64 x))[j]? = some u → wr.cell? ((⟨w1.heap.size, 0, none⟩ : Addr).add j) = some u from fun j u hu => by
        have hj : j < m := by have := (List.getElem?_eq_some_iff.1 hu).1; rwa [List.length_replicate] at this
        have e : (⟨w1.heap.size, 0, none⟩ : Addr).add j = ⟨w1.heap.size, j, none⟩ := by unfold Addr.add; split <;> simp_all
        have hr : Row wr w1.heap.size 3 (rRow x n k).toArray := HRow.out
        rw [e, hr.cell j, ← hu]
        simp [rRow, List.getElem?_append, show j < k by omega, hj])
      have HFm := hid (show k + (List.replicate m (Value.int .i64 x)).length ≤ (rRow x n k).length from by rw [rRow_len x n k hk, List.length_replicate]; omega)
      have HOm := hid (show ∀ u ∈ List.replicate m (Value.int .i64 x), u.oneCell' = true from fun u hu => by rw [(List.mem_replicate.1 hu).2]; rfl)
      have HSm := hid (show splice (rRow x n k) k (List.replicate m (Value.int .i64 x)) = rRow x n (k + m) from rRow_splice x n k m (by omega))
      have HLm := hid (show (List.replicate m (Value.int .i64 x)).length = m from List.length_replicate)
      have hk2 : (k : Int) ≤ n := by omega
      have hk0 : 0 ≤ (k : Int) := by omega
      obtain ⟨cs, hcs⟩ : ∃ cs, List.replicate m (Value.int .i64 x) = cs := ⟨_, rfl⟩
      rw [hcs] at HNm HPm HFm HOm HSm HLm
      clear hm hmk hcs
      go_wp2_with fail
      have HNk := hid (show ¬ n = k by omega)
      have HRd := hid (show wr.drew.heap[w1.heap.size]? = some (.cells (rRow x n k).toArray 3 (0, 0)) from HRow.out)
      have HPd := hid (show ∀ j u, cs[j]? = some u → wr.drew.cell? ((⟨w1.heap.size, 0, none⟩ : Addr).add j) = some u from HPm.out)
      have HBd := hid HBe.out.drew
      clear HRow HPm HBe
      refine wp_region_any (by kernel_rfl) ?_
      refine wpAny_take (i := 0) (v := _) rfl (by kernel_rfl) (by kernel_rfl) (by kernel_rfl) (fun _ _ _ h => h) (Or.inl ⟨by rfl, fun w => by go_simp; first | done | with_reducible rfl⟩) ?_
      refine wpAny_take (i := 1) (v := _) rfl (by kernel_rfl) (by kernel_rfl) (by kernel_rfl) (fun _ _ _ h => h) (Or.inl ⟨by rfl, fun w => by go_simp; first | done | with_reducible rfl⟩) ?_
      refine wpAny_take (i := 2) (v := _) rfl (by kernel_rfl) (by kernel_rfl) (by kernel_rfl) (fun _ _ _ h => h) (Or.inl ⟨by rfl, fun w => by go_simp; first | done | with_reducible rfl⟩) ?_
      refine wpAny_take (i := 4) (v := _) rfl (by kernel_rfl) (by kernel_rfl) (by kernel_rfl) (fun _ _ _ h => h) (Or.inl ⟨by rfl, fun w => by go_simp; first | done | with_reducible rfl⟩) ?_
      refine wpAny_take (i := 5) (v := _) rfl (by kernel_rfl) (by kernel_rfl) (by kernel_rfl) (fun _ _ _ h => h) (Or.inl ⟨by rfl, fun w => by go_simp; first | done | with_reducible rfl⟩) ?_
      refine wpAny_take (i := 3) (v := _) rfl (by kernel_rfl) (by kernel_rfl) (by kernel_rfl) (fun _ _ _ h => h) (Or.inl ⟨by rfl, fun w => by go_simp; first | done | with_reducible rfl⟩) ?_
      refine wpAny_take (i := 6) (v := _) rfl (by kernel_rfl) (by kernel_rfl) (by kernel_rfl) (fun _ _ _ h => h) (Or.inl ⟨by rfl, fun w => by go_simp; first | done | with_reducible rfl⟩) ?_
      go_simp
      refine wpAny_ready (rs := [7]) (by kernel_rfl) (by simp) ?_
      refine AllReady.cons rfl (fun K hK => ?_) AllReady.nil
      refine step_copy_splice rfl (.tmp 41) (.tmp 44) 26 26 rfl 3 Try.underlying26 info_one _ _ _ _ _ _ rfl rfl w1.heap.size k (rRow x n k) 3 HRd.out cs HNm.out (fun _ => ⟨if_neg HNk.out, _, rfl, HPd.out⟩) HFm.out HOm.out w1.heap.size w1 HBd.out (Nat.le_refl _) ?_
      intro w4 hg4 hb4
      refine hK _ _ ?_
      clear hK K
      go_simp
      refine wpAny_take (i := 8) (v := _) rfl (by kernel_rfl) (by kernel_rfl) (by kernel_rfl) (fun _ _ _ h => h) (Or.inl ⟨by rfl, fun w => by go_simp; first | done | with_reducible rfl⟩) ?_
      refine wpAny_take (i := 9) (v := _) rfl (by kernel_rfl) (by kernel_rfl) (by kernel_rfl) (fun _ _ _ h => h) (Or.inl ⟨by rfl, fun w => by go_simp; first | done | with_reducible rfl⟩) ?_
      go_simp
      refine wpAny_done (by kernel_rfl) ?_ _
      go_wp2_with fail
      have hkm := HMk.out
      have hle : cs.length = m := HLm.out
      have hwr : IntKind.i64.wrap ((k : Int) + (m : Nat)) = ((k + m : Nat) : Int) := (IntWalk.i64_in _ (by omega)).trans (by simp)
      go_roundw
      case rel =>
        refine ⟨k + m, ?_, by omega, by omega, ?_, hb4⟩
        · rw [hle, hwr]
        · rw [← HSm.out]
          exact hg4.out
      case measure =>
        rw [hle, hwr]
        simp only [intOf]
        omega
    · obtain rfl : k = n := by omega
      go_wp2_with fail
      go_ret
      refine ⟨_, rfl, ⟨by simp [ints], .inr ⟨w1.heap.size, k, (rRow x k k).toArray, ?_, Nat.le_refl _, HRow.out, ?_, ?_, ?_, ?_⟩⟩, HBe.out⟩
      · rw [List.length_replicate]
        rfl
      · rw [List.length_replicate]
        exact Nat.le_refl _
      · simp only [maxLen]; omega
      · show (rRow x k k).length = _
        rw [rRow_len _ _ _ (Nat.le_refl _), Nat.mul_one]
      · rw [List.length_replicate, Nat.mul_one, List.take_of_length_le (by show (rRow x k k).length ≤ k; rw [rRow_len _ _ _ (Nat.le_refl _)]; exact Nat.le_refl _)]
        simp [rRow, ints]
def cont (N : Nat) (f : Nat → Int) : List Int := (List.range N).map f
theorem cont_len (N : Nat) (f : Nat → Int) : (cont N f).length = N := by simp [cont]
theorem cont_set (N : Nat) (f : Nat → Int) (i : Nat) (x : Int) (h : i < N) : (ints (cont N f)).set i (.int .i64 x) = ints (cont N (fun j => if j = i then x else f j)) := by
  apply List.ext_getElem?
  intro j
  rw [List.getElem?_set]
  by_cases hj : i = j
  · subst hj
    simp [ints, cont, h]
  · rw [if_neg hj]
    by_cases hjN : j < N
    · simp [ints, cont, hjN, show ¬ j = i from fun e => hj e.symm]
    · simp [ints, cont, hjN]
theorem cont_congr {N : Nat} {f f' : Nat → Int} (h : ∀ j, j < N → f j = f' j) : cont N f = cont N f' := by
  unfold cont
  exact List.map_congr_left (fun j hj => h j (List.mem_range.1 hj))
theorem rep_cont (L : Nat → List Nat) (N : Nat) : List.replicate N (-1 : Int) = cont N (fun i => lastI L [] i) := by
  unfold cont
  apply List.ext_getElem?
  intro j
  by_cases hj : j < N <;> simp [hj, lastI_nil]
noncomputable def updI (L : Nat → List Nat) (l : List Nat) (x j : Nat) : Nat → Int := fun i => if x ≠ i ∧ i ∈ (belowP L (x : Int)).take j then (x : Int) else lastI L l i
theorem upd_zero (L : Nat → List Nat) (l : List Nat) (x i : Nat) : updI L l x 0 i = lastI L l i := by unfold updI; simp
theorem upd_all (L : Nat → List Nat) (l : List Nat) (x i : Nat) : updI L l x (belowP L (x : Int)).length i = lastI L (l ++ [x]) i := by
  unfold updI
  rw [List.take_length, lastI_snoc]
theorem upd_succ (L : Nat → List Nat) (l : List Nat) (x j t : Nat) (h : (belowP L (x : Int)).take (j + 1) = (belowP L (x : Int)).take j ++ [t]) (i : Nat) :
    updI L l x (j + 1) i = if i = t ∧ t ≠ x then (x : Int) else updI L l x j i := by
  unfold updI
  rw [h]
  by_cases hit : i = t
  · subst hit
    by_cases hix : i = x
    · subst hix
      simp
    · rw [if_pos ⟨fun e => hix e.symm, by simp⟩, if_pos ⟨rfl, hix⟩]
  · rw [if_neg (fun hh : i = t ∧ t ≠ x => hit hh.1)]
    congr 1
    simp [hit]
end Go.Proofs.Ytbbhbjdpdhbjlaa.Ge
