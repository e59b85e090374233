/- slices.Sorted(maps.Keys(..)) of what was met: its places, ascending. -/
import Derived.Test.YtiokmebmimgdjaaGreatLayI
import Derived.Test.YtiokmebmimgdjaaGreatWs2
import Derived.Test.YtiokmebmimgdjaaGreatMb
import Derived.OwnWalkIn
import Derived.WalkSpells
set_option linter.unusedSimpArgs false
set_option linter.unusedVariables false
namespace Go.Proofs.YtiokmebmimgdjaaGreat.Wk
open Go.RowKit Go.Maps Go.Sort Go.Shelf Pl Ft Mm In C2 Im Sw

theorem trues_nodup (f : Nat → Bool) (n : Nat) : (truesL f n).Pairwise (fun a b => decide (a ≤ b) = true) := by
  unfold truesL
  rw [List.pairwise_map]
  refine ((List.pairwise_lt_range (n := n)).filter f).imp ?_
  intro a b h
  exact decide_eq_true (by omega)
theorem sorted_trues {ss : List Int} {ms : List Nat} {n : Nat} (h : ss.Perm (ms.map fun (p : Nat) => (p : Int))) (hnd : ms.Nodup) (hlt : ∀ p ∈ ms, p < n) : ss.mergeSort (fun x y => decide (x ≤ y)) = truesL (fun q => decide (q ∈ ms)) n := by
  refine List.Perm.eq_of_pairwise (le := fun a b => decide (a ≤ b) = true) (fun a b _ _ h1 h2 => ?_) (List.pairwise_mergeSort (fun a b c h1 h2 => ?_) (fun a b => ?_) ss) (trues_nodup _ n) ?_
  · have := of_decide_eq_true h1
    have := of_decide_eq_true h2
    omega
  · have := of_decide_eq_true h1
    have := of_decide_eq_true h2
    exact decide_eq_true (by omega)
  · rcases Int.le_total a b with h1 | h1
    · rw [decide_eq_true h1, Bool.true_or]
    · rw [decide_eq_true h1, Bool.or_true]
  · refine (List.mergeSort_perm ss _).trans (h.trans ?_)
    unfold truesL
    refine List.Perm.map _ ((List.perm_ext_iff_of_nodup hnd ((List.nodup_range (n := n)).filter _)).2 fun p => ?_)
    simp only [List.mem_filter, List.mem_range, decide_eq_true_eq]
    exact ⟨fun h => ⟨hlt p h, h⟩, fun h => h.2⟩
def elem0 : Value → Option (DataW Unit × List MemPlace) := fun _ => some (.nil, [])
theorem ents_size (code : List Int) (ms : List Nat) : (ents code ms).size = ms.length := by simp [ents]
theorem rg_ent (code : List Int) (p j : Nat) (hp : p < 2000) : Go.WideElems.rd Tryz.prog 3 elem0 (entOf code p j) = some (.int .i64 p, .nil) := by
  unfold Go.WideElems.rd
  have hk : keyOf Tryz.prog 3 (entOf code p j).key = some (.int .i64 p) := Go.Maps.keyOf_int_mk Tryz.underlying3 (by unfold Lit.wf; rw [Bool.and_eq_true]; exact ⟨decide_eq_true (by have e : IntKind.min .i64 = -9223372036854775808 := rfl; omega), decide_eq_true (by have e : IntKind.max .i64 = 9223372036854775807 := rfl; omega)⟩)
  rw [hk]
  rfl
theorem rg_ent2 (code : List Int) (p j : Nat) (hp : p < 2000) : Go.WideElems.rg Tryz.prog 3 elem0 (entOf code p j) = (.int .i64 p, .nil) := by
  unfold Go.WideElems.rg
  rw [rg_ent code p j hp]
  rfl
theorem ents_toList (code : List Int) (ms : List Nat) : (ents code ms).toList = (List.range ms.length).map fun j => entOf code (ms.getD j 0) j := by simp [ents]
theorem getD_map (ms : List Nat) : ((List.range ms.length).map fun j => ms.getD j 0) = ms := by
  apply List.ext_getElem
  · simp
  · intro i h1 h2
    simp [h2]
theorem mapAt_own {w : World} {gm : Nat} {code : List Int} {ms : List Nat} (h : MapAt w gm code ms) (hnd : ms.Nodup) (hlt : ∀ p ∈ ms, p < 2000) :
    ∃ D0 : DataW Unit, w.ownsMap Tryz.prog 3 elem0 gm ms.length D0 ∧ (intKeys D0).Perm (ms.map fun (p : Nat) => (p : Int)) ∧ Maps.size D0 ≤ 2000 := by
  have hl : ms.length ≤ 2000 := rc_nodup_le 2000 ms hnd hlt
  have hrg : (ents code ms).toList.map (Go.WideElems.rg Tryz.prog 3 elem0) = ms.map fun (p : Nat) => ((Lit.int .i64 p, DataW.nil) : Lit × DataW Unit) := by
    rw [ents_toList, List.map_map]
    conv => rhs; rw [← getD_map ms]
    rw [List.map_map]
    apply List.map_congr_left
    intro j hj
    have hj := List.mem_range.1 hj
    have hm : ms.getD j 0 ∈ ms := by simp [hj]
    simp only [Function.comp_apply]
    rw [rg_ent2 code _ j (hlt _ hm)]
  refine ⟨.map (((ents code ms).toList.map (Go.WideElems.rg Tryz.prog 3 elem0)).foldr DataW.insert []), ⟨ents code ms, ms.length, h, ⟨?_, ⟨?_, ?_, ?_⟩, ?_⟩, ?_, rfl⟩, ?_, ?_⟩
  · rw [ents_size]; unfold maxLen; omega
  · intro x hx
    obtain ⟨j, hj, rfl⟩ := List.mem_map.1 (ents_toList code ms ▸ hx)
    exact List.mem_range.1 hj
  · rw [ents_toList, List.map_map]
    have e : ((fun x : MapEntry => x.born) ∘ fun j => entOf code (ms.getD j 0) j) = fun j => j := rfl
    rw [e, List.map_id']
    exact List.nodup_range
  · rw [ents_toList, List.map_map]
    have e : ((fun x : MapEntry => x.key) ∘ fun j => entOf code (ms.getD j 0) j) = (fun (p : Nat) => Value.int .i64 p) ∘ fun j => ms.getD j 0 := rfl
    rw [e, ← List.map_map, getD_map]
    exact List.Pairwise.map _ (fun a b hab h => hab (by simp only [Value.int.injEq, true_and] at h; omega)) hnd
  · intro x hx
    obtain ⟨j, hj, rfl⟩ := List.mem_map.1 (ents_toList code ms ▸ hx)
    have hm : ms.getD j 0 ∈ ms := by simp [List.mem_range.1 hj]
    exact ⟨_, rg_ent code _ j (hlt _ hm)⟩
  · rw [ents_size]; exact Nat.le_refl _
  · rw [hrg]
    unfold intKeys
    refine ((Go.WideShapes.sorted_perm _).map _).trans ?_
    rw [List.map_map]
    exact .refl _
  · have e := (Go.WideShapes.sorted_perm ((ents code ms).toList.map (Go.WideElems.rg Tryz.prog 3 elem0))).length_eq
    show List.length _ ≤ 2000
    rw [e, hrg, List.length_map]
    exact hl
theorem Try_sorts (m : Nat) : AnyZI.SortsIn Tryz.prog Tryz.sortedA_ren Fence.wide m :=
  ⟨fun blk off cap ss W hH hblk hsz => callsIn_wide.2 (AnyM.slices_Sort_int Tryz.sortA blk off cap ss W hH hblk hsz),
   fun p cap W => callsIn_wide.2 (AnyM.slices_Sort_int_none Tryz.sortA p cap W)⟩
set_option maxHeartbeats 2000000 in
set_option maxRecDepth 1000000 in
theorem places_c (code : List Int) (vc lv : Value) (gw gm : Nat) (ms : List Nat) (n : Nat) (w : World) (h : Row w gw 84 #[vc, .map (some gm), lv]) (hm : MapAt w gm code ms) (hnd : ms.Nodup) (hlt : ∀ p ∈ ms, p < n) (hn : n ≤ 2000) :
    Calls Tryz.prog 35 #[.pointer (some ⟨gw, 0, none⟩)] w (WaysPost2 (truesL (fun q => decide (q ∈ ms)) n) w) := by
  obtain ⟨D0, hown, hk, hsz⟩ := mapAt_own hm hnd (fun p hp => Nat.lt_of_lt_of_le (hlt p hp) hn)
  refine (callsIn_wide (n := 6)).1 ?_
  have hbl := hown.lt
  have hseq : SeqGives Fence.wide 2 Tryz.prog 91 #[.pointer (some ⟨w.heap.size, 0, none⟩)] encZ (fun ss => ss.Perm (intKeys D0)) (Maps.size D0) (w.alloc (.cells #[.map (some gm)] 82)) :=
    AnyZI.keys_gives (ρ := Tryz.keysA_ren) { Tryz.keysA with } Fence.wide _ trivial rfl (by omega) w.heap.size gm ms.length D0 _ (by simp) (by simp) (by
      obtain ⟨es, clock, hb, Ft, hs, hD⟩ := hown
      exact ⟨es, clock, (Below.heap_alloc _ _ gm hbl).trans hb, Ft, hs, hD⟩)
  have cK : ∀ mb W, CallsIn Fence.wide 5 Tryz.prog 63 #[.map mb] W fun e w' => e = .returned (.func (.func 91) #[] #[.pointer (some ⟨W.heap.size, 0, none⟩)]) ∧ w' = W.alloc (.cells #[.map mb] 82) := fun mb W => AnyZI.keys_in Tryz.keysA Fence.wide 5 trivial rfl mb W
  have cS := AnyZI.sorted_in Tryz.sortedA Fence.wide 5 trivial trivial trivial trivial rfl (by omega) (Try_sorts _) (enters_of Tryz.func79 (by kernel_rfl) rfl) 91 #[.pointer (some ⟨w.heap.size, 0, none⟩)] trivial (enters_of Tryz.func91 (by kernel_rfl) rfl) _ _ (by unfold maxLen; omega) (by omega) _ hseq
  change CallsIn _ _ Tryz.prog 62 _ _ _ at cS
  have hfK : Fence.wide.fn 63 := trivial
  have hfS : Fence.wide.fn 62 := trivial
  have y1 := h.cell 1
  simp at y1
  have HK := hid hk
  have HNd := hid hnd
  have HLt := hid hlt
  clear h hm hk hnd hlt hseq hown
  refine callsIn_of_wp Tryz.func35 rfl trivial ?_ rfl
  simp only [Tryz.ntmps35, List.size_toArray, List.length_cons, List.length_nil, Nat.reduceAdd, Nat.reduceSub, Array.replicate_succ, Array.replicate_zero, List.push_toArray, List.append_toArray, List.nil_append, List.cons_append]
  gi_wp2_with (first
    | (gi_at_call 63; refine (cK _ _).mono ?_; rintro e w' ⟨rfl, rfl⟩)
    | (gi_at_call 62; refine cS.mono ?_; rintro e w1 ⟨v, ss, rfl, hS, hrow, hnil, hb⟩; have HS := hid hS; have HRow := hid hrow; have HB := hid hb; clear hS hrow hnil hb cS))
  go_ret
  have e := sorted_trues (HS.out.trans HK.out) HNd.out HLt.out
  have hrow := HRow.out
  have hle : ss.length = (truesL (fun q => decide (q ∈ ms)) n).length := by rw [← e]; exact (List.mergeSort_perm _ _).length_eq.symm
  rw [e, hle] at hrow
  exact ⟨v, rfl, own_mono hrow (by simp), ((Below.refl _ w).alloc (Nat.le_refl _) _).trans (HB.out.mono (by simp))⟩
end Go.Proofs.YtiokmebmimgdjaaGreat.Wk
