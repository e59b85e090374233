/- The laws' own helpers over lists of texts: eqStringS, markStringS, heldStringS. -/
import Derived.Test.YtlgnakhfkpjioaaDoorUy
import Derived.Deep.RegionWith
set_option linter.unusedSimpArgs false
set_option linter.unusedVariables false
namespace Go.Proofs.YtlgnakhfkpjioaaDoor.Um
open Go.RowKit Pl Ft Mm In C2 Im

set_option maxHeartbeats 1000000 in
theorem eqStringS_c (xs : List ByteArray) (va vb : Value) (w : World) (ha : SRd w va xs) (hb : SRd w vb xs) (hl : xs.length ≤ 1048576) :
    Calls Tryd.prog 27 #[va, vb] w fun e w' => e = .returned (.bool true) ∧ Below w.heap.size w w' := by
  obtain ⟨a, ca, rfl, ha⟩ := ha
  obtain ⟨b, cb, rfl, hb⟩ := hb
  have HA := hid ha
  have HB := hid hb
  clear ha hb
  go_enter Tryd.func27, Tryd.ntmps27
  go_wp2_with fail
  go_loopw [5] (fun c wr => ∃ k m : Nat, c = .int .i64 k ∧ k ≤ xs.length ∧ wr = w.drewN m) (fun c _ => xs.length - (intOf c).toNat)
  case atStart => exact ⟨0, 0, rfl, by omega, rfl⟩
  case round =>
    obtain ⟨k, m, rfl, hk, rfl⟩ := hrel
    by_cases hlt : k < xs.length
    · rcases HA.out with h | ⟨g, o, rfl, hg, hc⟩
      · subst h; simp at hlt
      rcases HB.out with h | ⟨g2, o2, rfl, hg2, hc2⟩
      · subst h; simp at hlt
      have q1 := hc k hlt
      have q2 := hc2 k hlt
      obtain ⟨s, hs⟩ : ∃ s, xs.getD k ⟨#[]⟩ = s := ⟨_, rfl⟩
      rw [hs] at q1 q2
      have hk1 : (k : Int) < xs.length := by omega
      have hk0 : 0 ≤ (k : Int) := by omega
      clear hc hc2 hs
      go_wp2_with fail
      go_quiet (fail)
      go_wp2_with fail
      go_roundw
      case rel => exact ⟨k + 1, _, by go_num, by omega, rfl⟩
      case measure => simp [intOf]; omega
    · obtain rfl : k = xs.length := by omega
      go_wp2_with fail
      go_ret
      exact ⟨rfl, below_drewN _ _⟩
/-- Marks, one after another. -/
def mkS (n : Nat) : List ByteArray := (List.range n).map fun (j : Nat) => mk ((1 + j : Nat) : Int)
theorem mkS_len (n : Nat) : (mkS n).length = n := by simp [mkS]
theorem mkS_get (n j : Nat) (h : j < n) : (mkS n).getD j ⟨#[]⟩ = mk ((1 + j : Nat) : Int) := by simp [mkS, h]
theorem mks_step (xs : List ByteArray) (k : Nat) (h : k < xs.length) : (strs (mkS k ++ xs.drop k)).set k (.string (mk ((1 + k : Nat) : Int))) = strs (mkS (k + 1) ++ xs.drop (k + 1)) := by
  have e : xs.drop k = xs[k] :: xs.drop (k + 1) := List.drop_eq_getElem_cons h
  have e2 : mkS (k + 1) = mkS k ++ [mk ((1 + k : Nat) : Int)] := by simp [mkS, List.range_succ]
  rw [e, e2]
  simp only [strs, List.map_append, List.map_cons, List.map_nil]
  rw [List.set_append_right _ _ (by simp [mkS])]
  simp [mkS]
set_option maxHeartbeats 1000000 in
theorem markStringS_c (B : Nat) (xs : List ByteArray) (v : Value) (w : World) (hown : w.ownsRow B 9 1 v xs.length (strs xs)) (hB : B ≤ w.heap.size) (hl : xs.length ≤ 1048576) :
    Calls Tryd.prog 28 #[v, .int .i64 1] w fun e w' => e = .returned (.int .i64 (1 + xs.length)) ∧ w'.ownsRow B 9 1 v xs.length (strs (mkS xs.length)) ∧ Below B w w' := by
  obtain ⟨va, cap, rfl⟩ := own_slice hown
  have HO := hid hown
  clear hown
  go_enter Tryd.func28, Tryd.ntmps28
  go_wp2_with fail
  go_loopw [1, 5] (fun y c wr => ∃ k : Nat, c = .int .i64 k ∧ y = .int .i64 ((1 + k : Nat) : Int) ∧ k ≤ xs.length ∧ wr.ownsRow B 9 1 (.slice va xs.length cap) xs.length (strs (mkS k ++ xs.drop k)) ∧ Below B w wr ∧ w.heap.size ≤ wr.heap.size) (fun _ c _ => xs.length - (intOf c).toNat)
  case atStart => exact ⟨0, rfl, rfl, by omega, by simpa [mkS] using HO.out, Below.refl _ _, Nat.le_refl _⟩
  case round =>
    obtain ⟨k, rfl, rfl, hk, hown, hbel, hz⟩ := hrel
    by_cases hlt : k < xs.length
    · obtain ⟨g, cap', hv, hg1, hg2⟩ := own_addr hown (by omega)
      have ha : va = some ⟨g, 0, none⟩ := by simp at hv; exact hv.1
      subst ha
      have HOw := hid hown
      have HBe := hid hbel
      have HSt := hid (mks_step xs k hlt)
      clear hown hbel hv
      go_wp2_with fail
      refine (markText_c (1 + k) _ (by omega) (by omega)).mono ?_
      rintro e w2 ⟨rfl, hb2⟩
      have HO2 := hid (own_on HOw.out hb2)
      have hcell := HO2.out.cellAt k (by omega)
      have hsome : ∃ u, (strs (mkS k ++ xs.drop k))[k]? = some u := by
        have hlen : k < (strs (mkS k ++ xs.drop k)).length := by simp [strs, mkS]; omega
        exact ⟨_, List.getElem?_eq_getElem hlen⟩
      obtain ⟨u, hu⟩ := hsome
      rw [hu] at hcell
      have hfz := HO2.out.frozenAt k
      have hst := HO2.out.stored k (.string (mk ((1 + k : Nat) : Int)))
      rw [HSt.out] at hst
      have HS := hid hst
      have HB2 := hid ((HBe.out.trans (hb2.mono (by omega))).setCell (p := ⟨g, k, none⟩) hg1 (.string (mk ((1 + k : Nat) : Int))))
      have HZ2 := hid hb2.size
      obtain ⟨m, hm⟩ : ∃ m, mk ((1 + k : Nat) : Int) = m := ⟨_, rfl⟩
      rw [hm] at HS HB2 ⊢
      clear hst hu hb2 hm
      go_wp2_with fail
      go_roundw
      case rel => exact ⟨k + 1, by go_num, by push_cast; go_num, by omega, HS.out.1, HB2.out, by have := HZ2.out; simp [World.size_setCell]; omega⟩
      case measure => simp [intOf]; omega
    · obtain rfl : k = xs.length := by omega
      have HO2 := hid hown
      have HB2 := hid hbel
      clear hown hbel
      go_wp2_with fail
      go_ret
      exact ⟨int_eq (by push_cast; rfl), by have := HO2.out; rwa [List.drop_length, List.append_nil] at this, HB2.out⟩
set_option maxHeartbeats 1000000 in
theorem heldStringS_c (n : Nat) (v : Value) (w : World) (ha : SRd w v (mkS n)) (hl : n ≤ 1048576) :
    Calls Tryd.prog 29 #[v, .int .i64 1] w fun e w' => e = .returned (.int .i64 (1 + n)) ∧ Below w.heap.size w w' := by
  obtain ⟨a, ca, rfl, ha⟩ := ha
  rw [mkS_len]
  have HA := hid ha
  clear ha
  go_enter Tryd.func29, Tryd.ntmps29
  go_wp2_with fail
  go_loopw [1, 5] (fun y c wr => ∃ k : Nat, c = .int .i64 k ∧ y = .int .i64 ((1 + k : Nat) : Int) ∧ k ≤ n ∧ Below w.heap.size w wr) (fun _ c _ => n - (intOf c).toNat)
  case atStart => exact ⟨0, rfl, rfl, by omega, Below.refl _ _⟩
  case round =>
    obtain ⟨k, rfl, rfl, hk, hbel⟩ := hrel
    have HBe := hid hbel
    have hz := hbel.size
    by_cases hlt : k < n
    · rcases HA.out with h | ⟨g, o, rfl, hg, hc⟩
      · have := mkS_len n; rw [h] at this; simp at this; omega
      have q0 := (hbel.cell (p := ⟨g, o + k, none⟩) hg).trans (hc k (by rw [mkS_len]; exact hlt))
      rw [mkS_get n k hlt] at q0
      have HQ := hid q0
      have hk1 : (k : Int) < n := by omega
      have hk0 : 0 ≤ (k : Int) := by omega
      have hgr : g < wr.heap.size := by omega
      clear hc hbel
      go_wp2_with fail
      go_region_with (go_at_call 61; refine (markText_c (1 + k) _ (by omega) (by omega)).mono ?_; rintro e w2 ⟨rfl, hb2⟩; have HB2 := hid (HBe.out.drew.trans (hb2.mono HBe.out.drew.size)); have q1 := (hb2.cell (p := ⟨g, o + k, none⟩) hgr).trans (show wr.drew.cell? ⟨g, o + k, none⟩ = _ from HQ.out); clear hb2)
      all_goals
        go_wp2_with fail
        go_roundw
        case rel => exact ⟨k + 1, by go_num, by push_cast; go_num, by omega, HB2.out⟩
        case measure => simp [intOf]; omega
    · obtain rfl : k = n := by omega
      go_wp2_with fail
      go_ret
      exact ⟨int_eq (by push_cast; rfl), HBe.out⟩
end Go.Proofs.YtlgnakhfkpjioaaDoor.Um
