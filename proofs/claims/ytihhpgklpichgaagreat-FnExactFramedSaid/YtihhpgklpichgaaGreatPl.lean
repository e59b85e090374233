/- The places of what was met, sorted; Sort, Compact and DeleteFunc at numbers of one's own; calledAt of the program. -/
import Derived.Test.YtihhpgklpichgaaGreatLayI
import Derived.Test.YtihhpgklpichgaaGreatWs
import Derived.Test.YtihhpgklpichgaaGreatMb
import Derived.OwnWalkIn
import Derived.WalkSpells
import Derived.Test.YtihhpgklpichgaaGreatWy4
set_option linter.unusedSimpArgs false
set_option linter.unusedVariables false
namespace Go.Proofs.YtihhpgklpichgaaGreat.Wk
open Go.RowKit Go.Maps Go.Sort Go.Shelf Pl Ft Mm In C2 Im Sw

theorem trues_nodup (f : Nat → Bool) (n : Nat) : (truesL f n).Pairwise (fun a b => decide (a ≤ b) = true) := by
  unfold truesL
  rw [List.pairwise_map]
  refine ((List.pairwise_lt_range (n := n)).filter f).imp ?_
  intro a b h
  exact decide_eq_true (by omega)
theorem sorted_trues {ss : List Int} {ms : List Nat} {n : Nat} (h : ss.Perm (ms.map fun (p : Nat) => (p : Int))) (hnd : ms.Nodup) (hlt : ∀ p ∈ ms, p < n) : ss.mergeSort (fun x y => decide (x ≤ y)) = truesL (fun q => decide (q ∈ ms)) n := by
  refine List.Perm.eq_of_pairwise (le := fun a b => decide (a ≤ b) = true) (fun a b _ _ h1 h2 => ?_) (List.pairwise_mergeSort (fun a b c h1 h2 => ?_) (fun a b => ?_) ss) (trues_nodup _ n) ?_
  · have := of_decide_eq_true h1
    have := of_decide_eq_true h2
    omega
  · have := of_decide_eq_true h1
    have := of_decide_eq_true h2
    exact decide_eq_true (by omega)
  · rcases Int.le_total a b with h1 | h1
    · rw [decide_eq_true h1, Bool.true_or]
    · rw [decide_eq_true h1, Bool.or_true]
  · refine (List.mergeSort_perm ss _).trans (h.trans ?_)
    unfold truesL
    refine List.Perm.map _ ((List.perm_ext_iff_of_nodup hnd ((List.nodup_range (n := n)).filter _)).2 fun p => ?_)
    simp only [List.mem_filter, List.mem_range, decide_eq_true_eq]
    exact ⟨fun h => ⟨hlt p h, h⟩, fun h => h.2⟩
def elem0 : Value → Option (DataW Unit × List MemPlace) := fun _ => some (.nil, [])
theorem ents_size (code : List Int) (ms : List Nat) : (ents code ms).size = ms.length := by simp [ents]
theorem rg_ent (code : List Int) (p j : Nat) (hp : p < 2000) : Go.WideElems.rd Tryz.prog 3 elem0 (entOf code p j) = some (.int .i64 p, .nil) := by
  unfold Go.WideElems.rd
  have hk : keyOf Tryz.prog 3 (entOf code p j).key = some (.int .i64 p) := Go.Maps.keyOf_int_mk Tryz.underlying3 (by unfold Lit.wf; rw [Bool.and_eq_true]; exact ⟨decide_eq_true (by have e : IntKind.min .i64 = -9223372036854775808 := rfl; omega), decide_eq_true (by have e : IntKind.max .i64 = 9223372036854775807 := rfl; omega)⟩)
  rw [hk]
  rfl
theorem rg_ent2 (code : List Int) (p j : Nat) (hp : p < 2000) : Go.WideElems.rg Tryz.prog 3 elem0 (entOf code p j) = (.int .i64 p, .nil) := by
  unfold Go.WideElems.rg
  rw [rg_ent code p j hp]
  rfl
theorem ents_toList (code : List Int) (ms : List Nat) : (ents code ms).toList = (List.range ms.length).map fun j => entOf code (ms.getD j 0) j := by simp [ents]
theorem getD_map (ms : List Nat) : ((List.range ms.length).map fun j => ms.getD j 0) = ms := by
  apply List.ext_getElem
  · simp
  · intro i h1 h2
    simp [h2]
theorem mapAt_own {w : World} {gm : Nat} {code : List Int} {ms : List Nat} (h : MapAt w gm code ms) (hnd : ms.Nodup) (hlt : ∀ p ∈ ms, p < 2000) :
    ∃ D0 : DataW Unit, w.ownsMap Tryz.prog 3 elem0 gm ms.length D0 ∧ (intKeys D0).Perm (ms.map fun (p : Nat) => (p : Int)) ∧ Maps.size D0 ≤ 2000 := by
  have hl : ms.length ≤ 2000 := rc_nodup_le 2000 ms hnd hlt
  have hrg : (ents code ms).toList.map (Go.WideElems.rg Tryz.prog 3 elem0) = ms.map fun (p : Nat) => ((Lit.int .i64 p, DataW.nil) : Lit × DataW Unit) := by
    rw [ents_toList, List.map_map]
    conv => rhs; rw [← getD_map ms]
    rw [List.map_map]
    apply List.map_congr_left
    intro j hj
    have hj := List.mem_range.1 hj
    have hm : ms.getD j 0 ∈ ms := by simp [hj]
    simp only [Function.comp_apply]
    rw [rg_ent2 code _ j (hlt _ hm)]
  refine ⟨.map (((ents code ms).toList.map (Go.WideElems.rg Tryz.prog 3 elem0)).foldr DataW.insert []), ⟨ents code ms, ms.length, h, ⟨?_, ⟨?_, ?_, ?_⟩, ?_⟩, ?_, rfl⟩, ?_, ?_⟩
  · rw [ents_size]; unfold maxLen; omega
  · intro x hx
    obtain ⟨j, hj, rfl⟩ := List.mem_map.1 (ents_toList code ms ▸ hx)
    exact List.mem_range.1 hj
  · rw [ents_toList, List.map_map]
    have e : ((fun x : MapEntry => x.born) ∘ fun j => entOf code (ms.getD j 0) j) = fun j => j := rfl
    rw [e, List.map_id']
    exact List.nodup_range
  · rw [ents_toList, List.map_map]
    have e : ((fun x : MapEntry => x.key) ∘ fun j => entOf code (ms.getD j 0) j) = (fun (p : Nat) => Value.int .i64 p) ∘ fun j => ms.getD j 0 := rfl
    rw [e, ← List.map_map, getD_map]
    exact List.Pairwise.map _ (fun a b hab h => hab (by simp only [Value.int.injEq, true_and] at h; omega)) hnd
  · intro x hx
    obtain ⟨j, hj, rfl⟩ := List.mem_map.1 (ents_toList code ms ▸ hx)
    have hm : ms.getD j 0 ∈ ms := by simp [List.mem_range.1 hj]
    exact ⟨_, rg_ent code _ j (hlt _ hm)⟩
  · rw [ents_size]; exact Nat.le_refl _
  · rw [hrg]
    unfold intKeys
    refine ((Go.WideShapes.sorted_perm _).map _).trans ?_
    rw [List.map_map]
    exact .refl _
  · have e := (Go.WideShapes.sorted_perm ((ents code ms).toList.map (Go.WideElems.rg Tryz.prog 3 elem0))).length_eq
    show List.length _ ≤ 2000
    rw [e, hrg, List.length_map]
    exact hl
theorem Try_sorts (m : Nat) : AnyZI.SortsIn Tryz.prog Tryz.sortedA_ren Fence.wide m :=
  ⟨fun blk off cap ss W hH hblk hsz => callsIn_wide.2 (AnyM.slices_Sort_int Tryz.sortA blk off cap ss W hH hblk hsz),
   fun p cap W => callsIn_wide.2 (AnyM.slices_Sort_int_none Tryz.sortA p cap W)⟩
set_option maxHeartbeats 2000000 in
set_option maxRecDepth 1000000 in
theorem places_c (code : List Int) (vc lv : Value) (gw gm : Nat) (ms : List Nat) (n : Nat) (w : World) (h : Row w gw 88 #[vc, .map (some gm), lv]) (hm : MapAt w gm code ms) (hnd : ms.Nodup) (hlt : ∀ p ∈ ms, p < n) (hn : n ≤ 2000) :
    Calls Tryz.prog 50 #[.pointer (some ⟨gw, 0, none⟩)] w (WaysPost2 (truesL (fun q => decide (q ∈ ms)) n) w) := by
  obtain ⟨D0, hown, hk, hsz⟩ := mapAt_own hm hnd (fun p hp => Nat.lt_of_lt_of_le (hlt p hp) hn)
  refine (callsIn_wide (n := 6)).1 ?_
  have hbl := hown.lt
  have hseq : SeqGives Fence.wide 2 Tryz.prog 128 #[.pointer (some ⟨w.heap.size, 0, none⟩)] encZ (fun ss => ss.Perm (intKeys D0)) (Maps.size D0) (w.alloc (.cells #[.map (some gm)] 86)) :=
    AnyZI.keys_gives (ρ := Tryz.keysA_ren) { Tryz.keysA with } Fence.wide _ trivial rfl (by omega) w.heap.size gm ms.length D0 _ (by simp) (by simp) (by
      obtain ⟨es, clock, hb, Ft, hs, hD⟩ := hown
      exact ⟨es, clock, (Below.heap_alloc _ _ gm hbl).trans hb, Ft, hs, hD⟩)
  have cK : ∀ mb W, CallsIn Fence.wide 5 Tryz.prog 93 #[.map mb] W fun e w' => e = .returned (.func (.func 128) #[] #[.pointer (some ⟨W.heap.size, 0, none⟩)]) ∧ w' = W.alloc (.cells #[.map mb] 86) := fun mb W => AnyZI.keys_in Tryz.keysA Fence.wide 5 trivial rfl mb W
  have cS := AnyZI.sorted_in Tryz.sortedA Fence.wide 5 trivial trivial trivial trivial rfl (by omega) (Try_sorts _) (enters_of Tryz.func101 (by kernel_rfl) rfl) 128 #[.pointer (some ⟨w.heap.size, 0, none⟩)] trivial (enters_of Tryz.func128 (by kernel_rfl) rfl) _ _ (by unfold maxLen; omega) (by omega) _ hseq
  change CallsIn _ _ Tryz.prog 92 _ _ _ at cS
  have hfK : Fence.wide.fn 93 := trivial
  have hfS : Fence.wide.fn 92 := trivial
  have y1 := h.cell 1
  simp at y1
  have HK := hid hk
  have HNd := hid hnd
  have HLt := hid hlt
  clear h hm hk hnd hlt hseq hown
  refine callsIn_of_wp Tryz.func50 rfl trivial ?_ rfl
  simp only [Tryz.ntmps50, List.size_toArray, List.length_cons, List.length_nil, Nat.reduceAdd, Nat.reduceSub, Array.replicate_succ, Array.replicate_zero, List.push_toArray, List.append_toArray, List.nil_append, List.cons_append]
  gi_wp2_with (first
    | (gi_at_call 93; refine (cK _ _).mono ?_; rintro e w' ⟨rfl, rfl⟩)
    | (gi_at_call 92; refine cS.mono ?_; rintro e w1 ⟨v, ss, rfl, hS, hrow, hnil, hb⟩; have HS := hid hS; have HRow := hid hrow; have HB := hid hb; clear hS hrow hnil hb cS))
  go_ret
  have e := sorted_trues (HS.out.trans HK.out) HNd.out HLt.out
  have hrow := HRow.out
  have hle : ss.length = (truesL (fun q => decide (q ∈ ms)) n).length := by rw [← e]; exact (List.mergeSort_perm _ _).length_eq.symm
  rw [e, hle] at hrow
  exact ⟨v, rfl, own_mono hrow (by simp), ((Below.refl _ w).alloc (Nat.le_refl _) _).trans (HB.out.mono (by simp))⟩
end Go.Proofs.YtihhpgklpichgaaGreat.Wk
namespace Go.Proofs.YtihhpgklpichgaaGreat.Wk
open Go.RowKit Go.Maps Go.Sort Go.Shelf Pl Ft Mm In C2 Im Sw

theorem put_fresh (w : World) (n g : Nat) (d : Array Int) (os : Array Obj) : Only (fun k => k = g) w (grow (putRow (Value.int .i64) (Sort.ahead w n) g 0 d) os) := by
  refine ⟨rfl, rfl, rfl, ?_, fun k hk hne => ?_⟩
  · show w.heap.size ≤ ((putRow (Value.int .i64) (Sort.ahead w n) g 0 d).heap ++ os).size
    rw [Array.size_append, size_putRow]
    show w.heap.size ≤ w.heap.size + _
    omega
  · show ((putRow (Value.int .i64) (Sort.ahead w n) g 0 d).heap ++ os)[k]? = _
    rw [Array.getElem?_append_left (by rw [size_putRow]; exact hk)]
    show (w.heap.modify g _)[k]? = _
    rw [Array.getElem?_modify, if_neg (fun h => hne h.symm)]
/-- What lies in a row of numbers behind the library's writing. -/
theorem put_own {w : World} {B g cap : Nat} {l l' : List Int} (n : Nat) (os : Array Obj) (h : w.ownsRow B 3 1 (.slice (some ⟨g, 0, none⟩) l.length cap) l.length (ints l)) (hl : l'.length = l.length) :
    (grow (putRow (Value.int .i64) (Sort.ahead w n) g 0 l'.toArray) os).ownsRow B 3 1 (.slice (some ⟨g, 0, none⟩) l'.length cap) l'.length (ints l') := by
  refine ⟨by simp [ints], ?_⟩
  rcases h.2 with ⟨h0, _⟩ | ⟨g', cap', cur, hv, hg, hr, hnc, hm, hs, ht⟩
  · cases h0
  simp only [Value.slice.injEq, Option.some.injEq, Addr.mk.injEq] at hv
  obtain ⟨⟨rfl, _⟩, _, rfl⟩ := hv
  have hgs : g < w.heap.size := (Array.getElem?_eq_some_iff.1 hr).1
  refine .inr ⟨g, cap, putCells (Value.int .i64) 0 l'.toArray cur, rfl, hg, ?_, by omega, hm, by simp [putCells, hs], ?_⟩
  · show ((putRow (Value.int .i64) (Sort.ahead w n) g 0 l'.toArray).heap ++ os)[g]? = _
    rw [Array.getElem?_append_left (by rw [size_putRow]; exact hgs)]
    show (w.heap.modify g _)[g]? = _
    rw [Array.getElem?_modify, if_pos rfl, hr]
    rfl
  · apply List.ext_getElem?
    intro j
    rw [Nat.mul_one, List.getElem?_take]
    by_cases hj : j < l'.length
    · rw [if_pos hj, Array.getElem?_toList]
      have hc : j < cur.size := by rw [hs]; omega
      simp only [putCells, Array.getElem?_mapIdx, Array.getElem?_eq_getElem hc, Option.map_some]
      rw [if_pos ⟨by omega, by simpa using hj⟩]
      simp [ints, hj]
    · rw [if_neg hj, List.getElem?_eq_none (by simp [ints]; omega)]
/-- The first elements of a row of one's own. -/
theorem own_take {w : World} {B g cap k : Nat} {l : List Int} (h : w.ownsRow B 3 1 (.slice (some ⟨g, 0, none⟩) l.length cap) l.length (ints l)) (hk : k ≤ l.length) : w.ownsRow B 3 1 (.slice (some ⟨g, 0, none⟩) k cap) k (ints (l.take k)) := by
  refine ⟨by simp [ints]; omega, ?_⟩
  rcases h.2 with ⟨h0, _⟩ | ⟨g', cap', cur, hv, hg, hr, hnc, hm, hs, ht⟩
  · cases h0
  simp only [Value.slice.injEq, Option.some.injEq, Addr.mk.injEq] at hv
  obtain ⟨⟨rfl, _⟩, _, rfl⟩ := hv
  refine .inr ⟨g, cap, cur, rfl, hg, hr, by omega, hm, hs, ?_⟩
  have h2 := congrArg (List.take k) ht
  rw [List.take_take, Nat.min_eq_left (by omega)] at h2
  rw [Nat.mul_one, h2]
  simp [ints]
theorem own_holds {w : World} {B g cap : Nat} {l : List Int} (h : w.ownsRow B 3 1 (.slice (some ⟨g, 0, none⟩) l.length cap) l.length (ints l)) : Holds (Value.int .i64) w g 0 l.toArray ∧ g < w.heap.size ∧ l.length ≤ cap ∧ B ≤ g := by
  rcases h.2 with ⟨h0, _⟩ | ⟨g', cap', cur, hv, hg, hr, hnc, hm, hs, ht⟩
  · cases h0
  simp only [Value.slice.injEq, Option.some.injEq, Addr.mk.injEq] at hv
  obtain ⟨⟨rfl, _⟩, _, rfl⟩ := hv
  exact ⟨holds_of_block_i hr (by rw [Nat.mul_one] at ht; exact ht), (Array.getElem?_eq_some_iff.1 hr).1, hnc, hg⟩
def sortI (l : List Int) : List Int := l.mergeSort fun x y => decide (x ≤ y)
theorem sortI_len (l : List Int) : (sortI l).length = l.length := (List.mergeSort_perm _ _).length_eq
theorem sort_c (B : Nat) (l : List Int) (v : Value) (w : World) (h : w.ownsRow B 3 1 v l.length (ints l)) (hl : l.length ≤ 1000000) :
    Calls Tryz.prog 101 #[v] w fun e w' => e = .returned (.tuple #[]) ∧ w'.ownsRow B 3 1 v (sortI l).length (ints (sortI l)) ∧ Only (fun g => v.ownBlock = some g) w w' := by
  rcases h.2 with ⟨rfl, h0⟩ | ⟨g, cap, cur, rfl, _⟩
  · obtain rfl : l = [] := List.eq_nil_of_length_eq_zero h0
    refine (AnyM.slices_Sort_int_none Tryz.sortA none 0 w).mono ?_
    rintro e w' ⟨rfl, rfl⟩
    exact ⟨rfl, by rw [show sortI [] = [] by simp [sortI]]; exact World.ownsRow_nil _ _ _ _, .refl _ _⟩
  · obtain ⟨hH, hg, hc, hB⟩ := own_holds h
    refine (AnyM.slices_Sort_int Tryz.sortA g 0 cap l w hH hg (by omega)).mono ?_
    rintro e w' ⟨rfl, n, os, rfl⟩
    refine ⟨rfl, ?_, (put_fresh w n g _ os).mono (fun k hk => by rw [hk]; rfl)⟩
    have := put_own (l' := sortI l) n os h (sortI_len l)
    rw [sortI_len] at this ⊢
    exact this
theorem sortI_mono (l : List Int) {i j : Nat} (h : i ≤ j) (hj : j < (sortI l).length) : (sortI l).toArray[i]! ≤ (sortI l).toArray[j]! := by
  have hp : (sortI l).Pairwise (fun a b => decide (a ≤ b) = true) := List.pairwise_mergeSort (fun a b c h1 h2 => by
    have := of_decide_eq_true h1
    have := of_decide_eq_true h2
    exact decide_eq_true (by omega)) (fun a b => by
    rcases Int.le_total a b with h1 | h1
    · rw [decide_eq_true h1, Bool.true_or]
    · rw [decide_eq_true h1, Bool.or_true]) l
  rcases Nat.lt_or_ge i j with h1 | h1
  · have := (List.pairwise_iff_getElem.1 hp) i j (by omega) hj h1
    have := of_decide_eq_true this
    simpa [show i < (sortI l).length by omega, hj] using this
  · obtain rfl : i = j := by omega
    exact Int.le_refl _
theorem compact_mem (z : List Int) (x : Int) : x ∈ Lib.compact z ↔ x ∈ z := by
  unfold Lib.compact Lib.compactUpTo
  simp only [List.mem_map, List.mem_filter, List.mem_range]
  constructor
  · rintro ⟨j, ⟨hj, _⟩, rfl⟩
    simp [hj]
  · intro hx
    obtain ⟨j, hj, rfl⟩ := List.mem_iff_getElem.1 hx
    have key : ∀ j, j < z.length → ∃ i, (i < z.length ∧ Lib.keeps z.toArray i = true) ∧ z.toArray[i]! = z.toArray[j]! := by
      intro j
      induction j with
      | zero => intro h; exact ⟨0, ⟨h, by simp [Lib.keeps]⟩, rfl⟩
      | succ j ih =>
        intro h
        by_cases he : z.toArray[j + 1]! = z.toArray[j]!
        · obtain ⟨i, hi, hie⟩ := ih (by omega)
          exact ⟨i, hi, hie.trans he.symm⟩
        · exact ⟨j + 1, ⟨h, Lib.keeps_pos (by simpa using he)⟩, rfl⟩
    obtain ⟨i, hi, hie⟩ := key j hj
    exact ⟨i, hi, by rw [hie]; simp [hj]⟩
theorem compact_sorted (l : List Int) (n : Nat) (h : ∀ x ∈ l, 0 ≤ x ∧ x < n) : Lib.compact (sortI l) = truesL (fun q => decide ((q : Int) ∈ l)) n := by
  have hlt : (Lib.compact (sortI l)).Pairwise (fun a b => a < b) := by
    unfold Lib.compact Lib.compactUpTo
    rw [List.pairwise_map]
    refine List.Pairwise.imp_of_mem ?_ ((List.pairwise_lt_range (n := (sortI l).length)).filter _)
    intro i j hi hj hij
    simp only [List.mem_filter, List.mem_range] at hi hj
    have hk := of_decide_eq_true hj.2
    have h1 := sortI_mono l (i := i) (j := j - 1) (by omega) (by omega)
    have h2 := sortI_mono l (i := j - 1) (j := j) (by omega) hj.1
    rcases hk with h3 | h3
    · omega
    · omega
  have hle : (Lib.compact (sortI l)).Pairwise (fun a b => decide (a ≤ b) = true) := hlt.imp (fun {a b} h => decide_eq_true (by omega))
  refine List.Perm.eq_of_pairwise (le := fun a b => decide (a ≤ b) = true) (fun a b _ _ h1 h2 => ?_) hle (trues_nodup _ n) ?_
  · have := of_decide_eq_true h1
    have := of_decide_eq_true h2
    omega
  · refine (List.perm_ext_iff_of_nodup (hlt.imp (fun {a b} h => by omega)) ?_).2 fun x => ?_
    · unfold truesL
      exact List.Pairwise.map _ (fun a b hab h => hab (by omega)) ((List.nodup_range (n := n)).filter _)
    · rw [compact_mem]
      unfold truesL sortI
      rw [(List.mergeSort_perm l _).mem_iff]
      simp only [List.mem_map, List.mem_filter, List.mem_range, decide_eq_true_eq]
      constructor
      · intro hx
        have := h x hx
        exact ⟨x.toNat, ⟨by omega, by rwa [show ((x.toNat : Nat) : Int) = x by omega]⟩, by omega⟩
      · rintro ⟨q, ⟨_, hq⟩, rfl⟩
        exact hq
theorem compact_len (l : List Int) : (Lib.compact l).length ≤ l.length := by
  unfold Lib.compact Lib.compactUpTo
  rw [List.length_map]
  exact Nat.le_trans (List.length_filter_le _ _) (by simp)
theorem grow_no (w : World) : grow w #[] = w := by simp
theorem compact_c (B : Nat) (l : List Int) (v : Value) (w : World) (h : w.ownsRow B 3 1 v l.length (ints l)) (hl : l.length ≤ 1000000) :
    Calls Tryz.prog 130 #[v] w fun e w' => ∃ v', e = .returned v' ∧ w'.ownsRow B 3 1 v' (Lib.compact l).length (ints (Lib.compact l)) ∧ Only (fun g => v.ownBlock = some g) w w' := by
  rcases h.2 with ⟨rfl, h0⟩ | ⟨g, cap, cur, rfl, _⟩
  · obtain rfl : l = [] := List.eq_nil_of_length_eq_zero h0
    refine (Any.slices_Compact_int_empty Tryz.compactA none 0 w).mono ?_
    rintro e w' ⟨rfl, rfl⟩
    exact ⟨_, rfl, World.ownsRow_nil _ _ _ _, .refl _ _⟩
  · obtain ⟨hH, hg, hc, hB⟩ := own_holds h
    refine (Any.slices_Compact_int Tryz.compactA g 0 cap l w hH (by omega) hc).mono ?_
    rintro e w' ⟨rfl, q, rfl⟩
    have hcl := compact_len l
    have h1 := put_own (l' := Lib.compact l ++ List.replicate (l.length - (Lib.compact l).length) 0) q #[] h (by simp; omega)
    rw [grow_no] at h1
    have h2 := own_take h1 (k := (Lib.compact l).length) (by simp)
    rw [List.take_left'  rfl] at h2
    have h3 := put_fresh w q g (Lib.compact l ++ List.replicate (l.length - (Lib.compact l).length) 0).toArray #[]
    rw [grow_no] at h3
    exact ⟨_, rfl, h2, h3.mono (fun k hk => by rw [hk]; rfl)⟩
theorem idx_nil (F : Nat) (lb : Array Value) (w : World) : Calls Tryz.prog 129 #[.slice none 0 0, .func (.func F) #[] lb] w fun e w' => e = .returned (.int .i64 (-1)) ∧ w' = w := by
  go_enter Tryz.func129, Tryz.ntmps129
  go_wp2_with fail
  go_rounds 1
  go_wp2_with fail
  go_ret
  exact ⟨rfl, rfl⟩
theorem del_nil (F : Nat) (lb : Array Value) (w : World) : Calls Tryz.prog 97 #[.slice none 0 0, .func (.func F) #[] lb] w fun e w' => e = .returned (.slice none 0 0) ∧ w' = w := by
  go_enter Tryz.func97, Tryz.ntmps97
  go_wp2_with fail
  refine (idx_nil F lb w).mono ?_
  rintro e w1 ⟨rfl, rfl⟩
  go_wp2_with fail
  go_ret
  exact ⟨rfl, rfl⟩
/-- DeleteFunc by a function value that only reads, in whatever world the row is written. -/
theorem del_c (B : Nat) (l : List Int) (p : Int → Bool) (F : Nat) (lb : Array Value) (v : Value) (w : World) (h : w.ownsRow B 3 1 v l.length (ints l)) (hl : l.length ≤ 1000000)
    (eg : ∀ args w, (callFunc F args).run Tryz.prog w = .ok (.enter F args) w)
    (hp : ∀ (W : World) (x : Int), Below B w W → Calls Tryz.prog F (#[.int .i64 x] ++ lb) W fun e w' => e = .returned (.bool (p x)) ∧ w' = W) :
    Calls Tryz.prog 97 #[v, .func (.func F) #[] lb] w fun e w' => ∃ v', e = .returned v' ∧ w'.ownsRow B 3 1 v' (l.filter fun x => !p x).length (ints (l.filter fun x => !p x)) ∧ Only (fun g => v.ownBlock = some g) w w' := by
  rcases h.2 with ⟨rfl, h0⟩ | ⟨g, cap, cur, rfl, _⟩
  · obtain rfl : l = [] := List.eq_nil_of_length_eq_zero h0
    refine (del_nil F lb w).mono ?_
    rintro e w' ⟨rfl, rfl⟩
    exact ⟨_, rfl, World.ownsRow_nil _ _ _ _, .refl _ _⟩
  · obtain ⟨hH, hg, hc, hB⟩ := own_holds h
    have hfl : (l.filter fun x => !p x).length ≤ l.length := List.length_filter_le _ _
    refine (AnyE.slices_DeleteFunc Tryz.delA (Value.int .i64) (fun _ => rfl) p F lb eg 0 (fun w => Tryz.zeroValue3 w) g 0 cap l.toArray w (fun W x hb => ?_) (fun n os dk x hs => ?_) hH (by simp; omega) (by simpa using hc)).mono ?_
    · exact (hp W x (hb.mono (by omega))).mono (by rintro e w' ⟨rfl, rfl⟩; exact ⟨rfl, 0, rfl⟩)
    · exact (hp _ x ((put_fresh w n g dk os).below (by omega) (fun k hk => by omega))).mono (by rintro e w' ⟨rfl, rfl⟩; exact ⟨rfl, 0, rfl⟩)
    rintro e w' ⟨rfl, q, rfl⟩
    have h1 := put_own (l' := (l.filter fun x => !p x) ++ List.replicate (l.length - (l.filter fun x => !p x).length) 0) q #[] h (by simp; omega)
    rw [grow_no] at h1
    have h2 := own_take h1 (k := (l.filter fun x => !p x).length) (by simp)
    rw [List.take_left' rfl] at h2
    have h3 := put_fresh w q g ((l.filter fun x => !p x) ++ List.replicate (l.length - (l.filter fun x => !p x).length) 0).toArray #[]
    rw [grow_no] at h3
    exact ⟨_, rfl, h2, h3.mono (fun k hk => by rw [hk]; rfl)⟩
end Go.Proofs.YtihhpgklpichgaaGreat.Wk
namespace Go.Proofs.YtihhpgklpichgaaGreat.Wk
open Go.RowKit Pl Ft Mm In C2 Im Sw

theorem look1_yes {w : World} {b : Nat} {code : List Int} {ms : List Nat} {p : Nat} (h : MapAt w b code ms) (hp : p ∈ ms) :
    (Instr.lookup 86 (.map (some b)) (.int .i64 p) false).run Tryz.prog w = .ok (.agg (rdOf code p)) w := by
  obtain ⟨j, hj⟩ := findNow_yes (p : Int) (.agg (rdOf code p)) (ents code ms).toList 0 (fun e he => by
    obtain ⟨q, j, _, rfl⟩ := mem_ents he
    refine ⟨q, rfl, fun e => ?_⟩
    obtain rfl : q = p := by omega
    rfl) (by
    obtain ⟨j, hj⟩ := ents_mem (code := code) hp
    exact ⟨_, hj, rfl⟩)
  have hk := check_int p w
  simp [Instr.lookup, run_underlying Tryz.underlying86, run_underlying Tryz.underlying3, Go.MapKept.run_getObj_map h, hk, Instr.findKey, Result.andThen, hj]
/-- Where the call at a place leads, if it is in the code. -/
def callAt (code : List Int) (x : Int) : Option Int := match readP code x.toNat with | none => none | some i => if i.op = 29 ∧ i.n < code.length then some i.n else none
def callsL (code : List Int) (pl : List Int) : List Int := pl.filterMap (callAt code)
def calledL (code : List Int) (pl : List Int) : List Int := truesL (fun q => decide ((q : Int) ∈ callsL code pl)) code.length
theorem callsL_succ (code : List Int) (pl : List Int) (k : Nat) (h : k < pl.length) : callsL code (pl.take (k + 1)) = callsL code (pl.take k) ++ (callAt code pl[k]).toList := by
  unfold callsL
  rw [List.take_succ_eq_append_getElem h, List.filterMap_append]
  cases hc : callAt code pl[k] <;> simp [hc]
theorem callAt_bd {code : List Int} {x n : Int} (h : callAt code x = some n) : 0 ≤ n ∧ n < code.length := by
  unfold callAt at h
  split at h
  · cases h
  · rename_i i hi
    split at h
    · rename_i hc
      obtain rfl := Option.some.inj h
      have := lead_bd (readP_facts hi).2.1 (.inr (.inr hc.1))
      exact ⟨by omega, hc.2⟩
    · cases h
theorem callsL_bd {code pl : List Int} (x : Int) (h : x ∈ callsL code pl) : 0 ≤ x ∧ x < code.length := by
  obtain ⟨y, _, hy⟩ := List.mem_filterMap.1 h
  exact callAt_bd hy
theorem callsL_len (code pl : List Int) : (callsL code pl).length ≤ pl.length := List.length_filterMap_le _ _
theorem calledL_len (code pl : List Int) : (calledL code pl).length ≤ code.length := truesL_len _ _
set_option maxRecDepth 100000 in
set_option maxHeartbeats 4000000 in
theorem calledAt_c (code : List Int) (ac : Option Addr) (cc : Nat) (lv : Value) (gw gm : Nat) (ms : List Nat) (pl : List Int) (v : Value) (w : World) (h : Row w gw 88 #[.slice ac code.length cc, .map (some gm), lv]) (hm : MapAt w gm code ms)
    (hr : Rd w v pl) (hpl : ∀ x ∈ pl, ∃ p : Nat, x = p ∧ p ∈ ms) (hms : ∀ p ∈ ms, (readP code p).isSome = true) (hl : pl.length ≤ 2000) :
    Calls Tryz.prog 98 #[.pointer (some ⟨gw, 0, none⟩), v] w (WaysPost2 (calledL code pl) w) := by
  have HW := hid h
  have HM := hid hm
  have HRd := hid hr
  have HPl := hid hpl
  have HMs := hid hms
  have hgw := h.lt
  obtain ⟨a, cap, rfl, hrd⟩ := hr
  have HCs := hid hrd
  clear h hm hrd hpl hms
  go_enter Tryz.func98, Tryz.ntmps98
  go_wp2_with fail
  go_loopw [5, 11] (fun v c wr => ∃ (k : Nat) (xs : List Int), c = .int .i64 k ∧ k ≤ pl.length ∧ xs = callsL code (pl.take k) ∧ wr.ownsRow w.heap.size 3 1 v xs.length (ints xs) ∧ Below w.heap.size w wr) (fun _ c _ => pl.length - (intOf c).toNat)
  case atStart => exact ⟨0, [], rfl, by omega, rfl, World.ownsRow_nil _ _ _ _, Below.refl _ _⟩
  case round =>
    obtain ⟨k, xs, rfl, hk, hxs, hown, hbel⟩ := hrel
    have HO := hid hown
    have HBe := hid hbel
    have HX := hid hxs
    have hxl : xs.length ≤ 2000 := by
      rw [hxs]
      have := callsL_len code (pl.take k)
      rw [List.length_take] at this
      omega
    have hz := hbel.size
    obtain ⟨sv, cv, rfl⟩ := own_slice hown
    by_cases hlt : k < pl.length
    case neg =>
      obtain rfl : k = pl.length := by omega
      have HX2 := hid (show xs = callsL code pl by rw [hxs, List.take_length])
      clear hown hbel hxs
      go_wp2_with fail
      refine (sort_c w.heap.size xs _ wr HO.out (by omega)).mono ?_
      rintro e w1 ⟨rfl, hown1, ho1⟩
      have HO1 := hid hown1
      have HOn1 := hid ho1
      obtain ⟨zs, hzs⟩ : ∃ z, sortI xs = z := ⟨_, rfl⟩
      have hzl : zs.length = xs.length := by rw [← hzs]; exact sortI_len xs
      rw [hzs] at HO1
      have HZ := hid hzs
      have hown1 := HO1.out
      rw [hzl] at hown1
      have HO1b := hid (show w1.ownsRow w.heap.size 3 1 (.slice sv zs.length cv) zs.length (ints zs) by rw [hzl]; exact hown1)
      have HZl := hid hzl
      clear hown1 ho1 hzs hzl
      go_wp2_with fail
      rw [← HZl.out]
      refine (compact_c w.heap.size zs _ w1 HO1b.out (by rw [HZl.out]; omega)).mono ?_
      rintro e w2 ⟨v2, rfl, hown2, ho2⟩
      rw [← HZ.out, compact_sorted xs code.length (fun x hx => callsL_bd x (HX2.out ▸ hx)), HX2.out] at hown2
      have HO2 := hid hown2
      have HBo := hid (fun g (hg : (Value.slice sv xs.length cv).ownBlock = some g) => (HO.out.lt g hg).1)
      have HB2 := hid (HBe.out.trans ((HOn1.out.trans (ho2.mono (fun k hk => by cases sv <;> exact hk))).below hz (fun k hk => HBo.out k hk)))
      obtain ⟨s2, c2, rfl⟩ := own_slice hown2
      clear hown2 ho2
      go_wp2_with fail
      go_ret
      exact ⟨_, rfl, HO2.out, HB2.out⟩
    have HSu := hid (callsL_succ code pl k hlt)
    obtain ⟨p, hp, hpm⟩ := HPl.out pl[k] (List.getElem_mem hlt)
    rcases HCs.out with h | ⟨g, o, rfl, hg, hcs⟩
    · subst h; simp at hlt
    have q0 := (hbel.cell (p := ⟨g, o + k, none⟩) hg).trans (hcs k hlt)
    have hgd : pl.getD k 0 = (p : Int) := by rw [← hp]; simp [hlt]
    rw [hgd] at q0
    have hw := HW.out.on hbel
    have hlk := look1_yes (HM.out.on hbel) hpm
    have y0 := hw.cell 0
    have y1 := hw.cell 1
    simp at y0 y1
    obtain ⟨i, hi⟩ := Option.isSome_iff_exists.1 (HMs.out p hpm)
    have hrdo : rdOf code p = rdArr i (p + slong i) := by unfold rdOf nextP; rw [hi]; rfl
    have HCa := hid (show callAt code pl[k] = if i.op = 29 ∧ i.n < code.length then some i.n else none by unfold callAt; rw [hp, Int.toNat_natCast, hi])
    have hvb := valid_bounds (readP_facts hi).2.1
    have hln := fun h29 => lead_bd (readP_facts hi).2.1 (.inr (.inr h29))
    rw [hrdo] at hlk
    unfold rdArr at hlk
    obtain ⟨op, ia, ib, n⟩ := i
    simp only at hlk hln HCa
    obtain ⟨x, hx⟩ : ∃ x, (p : Int) + slong ⟨op, ia, ib, n⟩ = x := ⟨_, rfl⟩
    rw [hx] at hlk
    clear hcs hgd hx hrdo hi hp hpm hown hbel hxs hw hvb
    obtain ⟨w1, hw1, hr1, hb1, hz1⟩ := new_ex wr 112 #[.int .i64 op, .int .i64 ia, .int .i64 ib, .int .i64 n, .int .i64 x]
    have HO1 := hid (own_on HO.out hb1)
    have HB1 := hid (HBe.out.trans (hb1.mono hz))
    have HX1 := hid hr1
    have hgwr : gw < wr.heap.size := by omega
    have HW1 := hid ((HW.out.on HBe.out).on hb1)
    go_upto_region 6 with fail
    clear hw1 hlk y0 y1 q0 hr1 hb1
    obtain ⟨g1, hg1⟩ : ∃ g, wr.heap.size = g := ⟨_, rfl⟩
    rw [hg1] at HX1 hz1
    try rw [hg1]
    have x0 := HX1.out.cell 0
    have x3 := HX1.out.cell 3
    have y0 := HW1.out.cell 0
    simp at x0 x3 y0
    by_cases h29 : op = 29
    · subst h29
      have hn0 := hln rfl
      by_cases hn : n < code.length
      · have HC2 := hid (show callAt code pl[k] = some n by rw [HCa.out, if_pos ⟨rfl, hn⟩])
        clear hln HCa
        go_quiet (fail)
        have HX2 := hid (HX1.out.drewN nq)
        have HO2 := hid (show (w1.drewN nq).ownsRow w.heap.size 3 1 (.slice sv xs.length cv) xs.length (ints xs) from HO1.out)
        have HB2 := hid (below_drewN w1 nq)
        generalize w1.drewN nq = w2 at HX2 HO2 HB2 ⊢
        have hz2 := HB2.out.size
        clear x0 x3 y0
        have x3 := HX2.out.cell 3
        simp at x3
        go_wp2_with (at_builtin; refine app_ints _ rfl _ _ rfl w.heap.size xs [n] _ rfl (HO2.out.alloc _) _ _ _ rfl rfl (SrcAt.at_ _ [n] #[.int .i64 n] _ 1 rfl (by simp) rfl) (by simp; omega) (by simp; omega) ?_)
        intro v3 w3 hg3
        have HO3 := hid hg3.own
        have HB3 := hid ((HB1.out.trans (HB2.out.mono HB1.out.size)).trans (((Below.refl w.heap.size w2).alloc (by omega) (.cells #[.int .i64 n] 3)).trans hg3.bel))
        obtain ⟨s3, c3, rfl⟩ := own_slice hg3.own
        clear hg3
        go_wp2_with fail
        go_roundw
        case rel => exact ⟨k + 1, xs ++ [n], by go_num, by omega, by rw [HSu.out, HC2.out, HX.out]; rfl, HO3.out, HB3.out⟩
        case measure => simp [intOf]; omega
      · have HC2 := hid (show callAt code pl[k] = none by rw [HCa.out, if_neg (fun h => hn h.2)])
        clear hln HCa
        go_quiet (fail)
        go_wp2_with fail
        go_roundw
        case rel => exact ⟨k + 1, xs, by go_num, by omega, by rw [HSu.out, HC2.out, HX.out]; simp, HO1.out, HB1.out.trans ((below_drewN w1 _).mono HB1.out.size)⟩
        case measure => simp [intOf]; omega
    · have HC2 := hid (show callAt code pl[k] = none by rw [HCa.out, if_neg (fun h => h29 h.1)])
      have hne : (op == 29) = false := by rw [beq_eq_false_iff_ne]; exact h29
      clear hln HCa h29
      go_quiet (fail)
      go_wp2_with fail
      go_roundw
      case rel => exact ⟨k + 1, xs, by go_num, by omega, by rw [HSu.out, HC2.out, HX.out]; simp, HO1.out, HB1.out.trans ((below_drewN w1 _).mono HB1.out.size)⟩
      case measure => simp [intOf]; omega
end Go.Proofs.YtihhpgklpichgaaGreat.Wk
