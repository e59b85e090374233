/- The laws' own helpers over numbers, names and images: what they return (toIntS, toNameS, toImage, szImage, eqImage). -/
import Derived.Test.YtadcepgeodcacaaDoorNm
import Derived.Test.YtadcepgeodcacaaDoorC2f
set_option linter.unusedSimpArgs false
set_option linter.unusedVariables false
namespace Go.Proofs.YtadcepgeodcacaaDoor.Im
open Go.RowKit Pl Ft Mm In C2

/-- An address that holds a cell has no spot: what an argument is reads as what a slice is. -/
theorem cell_spot {w : World} {a : Addr} {u : Value} (h : w.cell? a = some u) : a = ⟨a.block, a.off, none⟩ := by
  unfold World.cell? at h
  split at h
  · split at h
    · cases h
    · rename_i hn
      cases hs : a.spot with
      | none => rw [← hs]
      | some s => rw [hs] at hn; simp at hn
  · cases h
theorem cell_lt {w : World} {a : Addr} {u : Value} (h : w.cell? a = some u) : a.block < w.heap.size := by
  unfold World.cell? at h
  split at h
  · rename_i hs
    exact (Array.getElem?_eq_some_iff.1 hs).1
  · cases h
theorem add_none (g o n : Nat) : (⟨g, o, none⟩ : Addr).add n = ⟨g, o + n, none⟩ := by unfold Addr.add; split <;> simp_all
theorem rd_of_cells {w : World} {ad : Addr} {xs : List Int} {cap : Nat} (h : ∀ j, j < xs.length → w.cell? (ad.add j) = some (.int .i64 (xs.getD j 0))) : Rd w (.slice (some ad) xs.length cap) xs := by
  refine ⟨some ad, cap, rfl, ?_⟩
  by_cases h0 : xs = []
  · exact .inl h0
  · have hp : 0 < xs.length := List.length_pos_iff.2 h0
    have hc := h 0 hp
    have e : ad.add 0 = ad := rfl
    rw [e] at hc
    have hs := cell_spot hc
    refine .inr ⟨ad.block, ad.off, by rw [← hs], cell_lt hc, fun j hj => ?_⟩
    rw [← add_none, ← hs]
    exact h j hj
theorem nrd_of_cells {w : World} {ad : Addr} {l : List Nm} {cap : Nat} (h : ∀ j, j < l.length → w.cell? (ad.add (j * 2)) = some (.string (l.getD j .none).text) ∧ w.cell? (ad.add (j * 2 + 1)) = some (.int .i64 (l.getD j .none).at_)) : NRd w (.slice (some ad) l.length cap) l := by
  refine ⟨some ad, cap, rfl, ?_⟩
  by_cases h0 : l = []
  · exact .inl h0
  · have hp : 0 < l.length := List.length_pos_iff.2 h0
    have hc := (h 0 hp).1
    rw [Nat.zero_mul] at hc
    have e : ad.add 0 = ad := rfl
    rw [e] at hc
    have hs := cell_spot hc
    refine .inr ⟨ad.block, ad.off, by rw [← hs], cell_lt hc, fun j hj => ?_⟩
    rw [Nat.add_assoc, ← add_none, ← add_none, ← hs]
    exact h j hj
theorem copy_step (xs : List Int) (Z : List Value) (k : Nat) (h : k < xs.length) (hz : Z.length = xs.length) : (ints (xs.take k) ++ Z.drop k).set k (.int .i64 (xs.getD k 0)) = ints (xs.take (k + 1)) ++ Z.drop (k + 1) := by
  have e : Z.drop k = Z[k]'(by omega) :: Z.drop (k + 1) := List.drop_eq_getElem_cons (by omega)
  have e2 : xs.take (k + 1) = xs.take k ++ [xs.getD k 0] := by rw [List.take_succ_eq_append_getElem h]; simp [h]
  have hl : (ints (xs.take k)).length = k := by simp [ints]; omega
  rw [e, e2, List.set_append_right _ _ (by omega), hl]
  simp only [ints, List.map_append, List.map_cons, List.map_nil, Nat.sub_self, List.set_cons_zero, List.append_assoc, List.singleton_append]
set_option maxHeartbeats 1000000 in
theorem toIntS_c (xs : List Int) (v : Value) (w : World) (ha : Rd w v xs) (hl : xs.length ≤ 1048576) :
    Calls Tryd.prog 30 #[v] w fun e w' => ∃ v', e = .returned v' ∧ w'.ownsRow w.heap.size 3 1 v' xs.length (ints xs) ∧ Below w.heap.size w w' := by
  obtain ⟨a, cap, rfl, ha⟩ := ha
  have HA := hid ha
  clear ha
  obtain ⟨i0, hi, hz0, hz1, hz2⟩ := info_parts info_int
  have H0 := hid hz0
  have H1 := hid hz1
  have H2 := hid hz2
  have HI := hid hi
  clear hz0 hz1 hz2 hi
  go_enter Tryd.func30, Tryd.ntmps30
  go_wp2_with (refine wpList_make_full _ rfl _ _ 32 rfl w.heap.size 3 i0 (.int .i64 0) 1 Tryd.underlying32 HI.out H0.out H1.out .i64 .i64 _ _ xs.length rfl rfl rfl rfl (by rw [H2.out]; omega) (by simp only [maxLen]; omega) (Nat.le_refl _) ?_; intro w1 hown1 hg1)
  obtain ⟨Z, hZ⟩ : ∃ Z, (madeCells (Value.cells (.int .i64 0)) (xs.length * 1)).toList = Z := ⟨_, rfl⟩
  rw [hZ] at hown1
  have hZl : Z.length = xs.length := by have := hown1.1; omega
  have HZ := hid hZl
  have HO := hid hown1
  have HB1 := hid ((Below.refl w.heap.size w).grown hg1 (Nat.le_refl _) (by simp))
  clear hown1 hg1 hZ hZl
  go_loopw [4] (fun c wr => ∃ k : Nat, c = .int .i64 k ∧ k ≤ xs.length ∧ wr.ownsRow w.heap.size 3 1 (.slice (some ⟨w.heap.size, 0, none⟩) xs.length xs.length) xs.length (ints (xs.take k) ++ Z.drop k) ∧ Below w.heap.size w wr) (fun c _ => xs.length - (intOf c).toNat)
  case atStart => exact ⟨0, rfl, by omega, by simpa [ints] using HO.out, HB1.out⟩
  case round =>
    obtain ⟨k, rfl, hk, hown, hbel⟩ := hrel
    by_cases hlt : k < xs.length
    · rcases HA.out with h | ⟨g, o, rfl, hg, hc⟩
      · subst h; simp at hlt
      have q1 : wr.cell? ⟨g, o + k, none⟩ = some (.int .i64 (xs.getD k 0)) := (hbel.cell (p := ⟨g, o + k, none⟩) hg).trans (hc k hlt)
      have hcell := hown.cellAt k (by omega)
      have hsome : ∃ u, (ints (xs.take k) ++ Z.drop k)[k]? = some u := by
        have hlen : k < (ints (xs.take k) ++ Z.drop k).length := by have := HZ.out; simp [ints]; omega
        exact ⟨_, List.getElem?_eq_getElem hlen⟩
      obtain ⟨u, hu⟩ := hsome
      rw [hu] at hcell
      have hfz := hown.frozenAt k
      have hst := hown.stored k (.int .i64 (xs.getD k 0))
      rw [copy_step xs Z k hlt HZ.out] at hst
      have HS := hid hst
      have HB2 := hid (hbel.setCell (p := ⟨w.heap.size, k, none⟩) (Nat.le_refl _) (.int .i64 (xs.getD k 0)))
      obtain ⟨x, hx⟩ : ∃ x, xs.getD k 0 = x := ⟨_, rfl⟩
      rw [hx] at q1 HS HB2
      clear hst hown hbel hu hc hx
      go_wp2_with fail
      go_roundw
      case rel => exact ⟨k + 1, by go_num, by omega, HS.out.1, HB2.out⟩
      case measure => simp [intOf]; omega
    · obtain rfl : k = xs.length := by omega
      have HO2 := hid hown
      have HB2 := hid hbel
      clear hown hbel
      go_wp2_with fail
      go_ret
      exact ⟨_, rfl, by have := HO2.out; rwa [List.take_length, List.drop_of_length_le (by rw [HZ.out]; exact Nat.le_refl _), List.append_nil] at this, HB2.out⟩
end Go.Proofs.YtadcepgeodcacaaDoor.Im
