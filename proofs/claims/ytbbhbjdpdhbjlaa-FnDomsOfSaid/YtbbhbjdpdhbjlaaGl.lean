/- The library's Sort, Compact, DeleteFunc and Reverse at numbers of one's own. -/
import Derived.Test.YtbbhbjdpdhbjlaaGm
import Derived.Test.YtbbhbjdpdhbjlaaLayG
import Derived.OwnWalkIn
import Derived.Laws.EntriesVeiled
import Derived.Lib.SlKeysI
set_option linter.unusedSimpArgs false
set_option linter.unusedVariables false
namespace Go.Proofs.Ytbbhbjdpdhbjlaa.Ge
open Go.RowKit Go.Maps Go.Sort Go.Shelf Pl Ft Mm In Gp

theorem trues_nodup (f : Nat → Bool) (n : Nat) : (truesL f n).Pairwise (fun a b => decide (a ≤ b) = true) := by
  unfold truesL
  rw [List.pairwise_map]
  refine ((List.pairwise_lt_range (n := n)).filter f).imp ?_
  intro a b h
  exact decide_eq_true (by omega)
theorem sorted_trues {ss : List Int} {ms : List Nat} {n : Nat} (h : ss.Perm (ms.map fun (p : Nat) => (p : Int))) (hnd : ms.Nodup) (hlt : ∀ p ∈ ms, p < n) : ss.mergeSort (fun x y => decide (x ≤ y)) = truesL (fun q => decide (q ∈ ms)) n := by
  refine List.Perm.eq_of_pairwise (le := fun a b => decide (a ≤ b) = true) (fun a b _ _ h1 h2 => ?_) (List.pairwise_mergeSort (fun a b c h1 h2 => ?_) (fun a b => ?_) ss) (trues_nodup _ n) ?_
  · have := of_decide_eq_true h1
    have := of_decide_eq_true h2
    omega
  · have := of_decide_eq_true h1
    have := of_decide_eq_true h2
    exact decide_eq_true (by omega)
  · rcases Int.le_total a b with h1 | h1
    · rw [decide_eq_true h1, Bool.true_or]
    · rw [decide_eq_true h1, Bool.or_true]
  · refine (List.mergeSort_perm ss _).trans (h.trans ?_)
    unfold truesL
    refine List.Perm.map _ ((List.perm_ext_iff_of_nodup hnd ((List.nodup_range (n := n)).filter _)).2 fun p => ?_)
    simp only [List.mem_filter, List.mem_range, decide_eq_true_eq]
    exact ⟨fun h => ⟨hlt p h, h⟩, fun h => h.2⟩
theorem put_fresh (w : World) (n g : Nat) (d : Array Int) (os : Array Obj) : Only (fun k => k = g) w (grow (putRow (Value.int .i64) (Sort.ahead w n) g 0 d) os) := by
  refine ⟨rfl, rfl, rfl, ?_, fun k hk hne => ?_⟩
  · show w.heap.size ≤ ((putRow (Value.int .i64) (Sort.ahead w n) g 0 d).heap ++ os).size
    rw [Array.size_append, size_putRow]
    show w.heap.size ≤ w.heap.size + _
    omega
  · show ((putRow (Value.int .i64) (Sort.ahead w n) g 0 d).heap ++ os)[k]? = _
    rw [Array.getElem?_append_left (by rw [size_putRow]; exact hk)]
    show (w.heap.modify g _)[k]? = _
    rw [Array.getElem?_modify, if_neg (fun h => hne h.symm)]
/-- What lies in a row of numbers behind the library's writing. -/
theorem put_own {w : World} {B g cap : Nat} {l l' : List Int} (n : Nat) (os : Array Obj) (h : w.ownsRow B 3 1 (.slice (some ⟨g, 0, none⟩) l.length cap) l.length (ints l)) (hl : l'.length = l.length) :
    (grow (putRow (Value.int .i64) (Sort.ahead w n) g 0 l'.toArray) os).ownsRow B 3 1 (.slice (some ⟨g, 0, none⟩) l'.length cap) l'.length (ints l') := by
  refine ⟨by simp [ints], ?_⟩
  rcases h.2 with ⟨h0, _⟩ | ⟨g', cap', cur, hv, hg, hr, hnc, hm, hs, ht⟩
  · cases h0
  simp only [Value.slice.injEq, Option.some.injEq, Addr.mk.injEq] at hv
  obtain ⟨⟨rfl, _⟩, _, rfl⟩ := hv
  have hgs : g < w.heap.size := (Array.getElem?_eq_some_iff.1 hr).1
  refine .inr ⟨g, cap, putCells (Value.int .i64) 0 l'.toArray cur, rfl, hg, ?_, by omega, hm, by simp [putCells, hs], ?_⟩
  · show ((putRow (Value.int .i64) (Sort.ahead w n) g 0 l'.toArray).heap ++ os)[g]? = _
    rw [Array.getElem?_append_left (by rw [size_putRow]; exact hgs)]
    show (w.heap.modify g _)[g]? = _
    rw [Array.getElem?_modify, if_pos rfl, hr]
    rfl
  · apply List.ext_getElem?
    intro j
    rw [Nat.mul_one, List.getElem?_take]
    by_cases hj : j < l'.length
    · rw [if_pos hj, Array.getElem?_toList]
      have hc : j < cur.size := by rw [hs]; omega
      simp only [putCells, Array.getElem?_mapIdx, Array.getElem?_eq_getElem hc, Option.map_some]
      rw [if_pos ⟨by omega, by simpa using hj⟩]
      simp [ints, hj]
    · rw [if_neg hj, List.getElem?_eq_none (by simp [ints]; omega)]
/-- The first elements of a row of one's own. -/
theorem own_take {w : World} {B g cap k : Nat} {l : List Int} (h : w.ownsRow B 3 1 (.slice (some ⟨g, 0, none⟩) l.length cap) l.length (ints l)) (hk : k ≤ l.length) : w.ownsRow B 3 1 (.slice (some ⟨g, 0, none⟩) k cap) k (ints (l.take k)) := by
  refine ⟨by simp [ints]; omega, ?_⟩
  rcases h.2 with ⟨h0, _⟩ | ⟨g', cap', cur, hv, hg, hr, hnc, hm, hs, ht⟩
  · cases h0
  simp only [Value.slice.injEq, Option.some.injEq, Addr.mk.injEq] at hv
  obtain ⟨⟨rfl, _⟩, _, rfl⟩ := hv
  refine .inr ⟨g, cap, cur, rfl, hg, hr, by omega, hm, hs, ?_⟩
  have h2 := congrArg (List.take k) ht
  rw [List.take_take, Nat.min_eq_left (by omega)] at h2
  rw [Nat.mul_one, h2]
  simp [ints]
theorem own_holds {w : World} {B g cap : Nat} {l : List Int} (h : w.ownsRow B 3 1 (.slice (some ⟨g, 0, none⟩) l.length cap) l.length (ints l)) : Holds (Value.int .i64) w g 0 l.toArray ∧ g < w.heap.size ∧ l.length ≤ cap ∧ B ≤ g := by
  rcases h.2 with ⟨h0, _⟩ | ⟨g', cap', cur, hv, hg, hr, hnc, hm, hs, ht⟩
  · cases h0
  simp only [Value.slice.injEq, Option.some.injEq, Addr.mk.injEq] at hv
  obtain ⟨⟨rfl, _⟩, _, rfl⟩ := hv
  exact ⟨holds_of_block_i hr (by rw [Nat.mul_one] at ht; exact ht), (Array.getElem?_eq_some_iff.1 hr).1, hnc, hg⟩
def sortI (l : List Int) : List Int := l.mergeSort fun x y => decide (x ≤ y)
theorem sortI_len (l : List Int) : (sortI l).length = l.length := (List.mergeSort_perm _ _).length_eq
theorem sort_c (B : Nat) (l : List Int) (v : Value) (w : World) (h : w.ownsRow B 3 1 v l.length (ints l)) (hl : l.length ≤ 1000000) :
    Calls Try.prog 81 #[v] w fun e w' => e = .returned (.tuple #[]) ∧ w'.ownsRow B 3 1 v (sortI l).length (ints (sortI l)) ∧ Only (fun g => v.ownBlock = some g) w w' := by
  rcases h.2 with ⟨rfl, h0⟩ | ⟨g, cap, cur, rfl, _⟩
  · obtain rfl : l = [] := List.eq_nil_of_length_eq_zero h0
    refine (AnyM.slices_Sort_int_none Try.sortA none 0 w).mono ?_
    rintro e w' ⟨rfl, rfl⟩
    exact ⟨rfl, by rw [show sortI [] = [] by simp [sortI]]; exact World.ownsRow_nil _ _ _ _, .refl _ _⟩
  · obtain ⟨hH, hg, hc, hB⟩ := own_holds h
    refine (AnyM.slices_Sort_int Try.sortA g 0 cap l w hH hg (by omega)).mono ?_
    rintro e w' ⟨rfl, n, os, rfl⟩
    refine ⟨rfl, ?_, (put_fresh w n g _ os).mono (fun k hk => by rw [hk]; rfl)⟩
    have := put_own (l' := sortI l) n os h (sortI_len l)
    rw [sortI_len] at this ⊢
    exact this
theorem sortI_mono (l : List Int) {i j : Nat} (h : i ≤ j) (hj : j < (sortI l).length) : (sortI l).toArray[i]! ≤ (sortI l).toArray[j]! := by
  have hp : (sortI l).Pairwise (fun a b => decide (a ≤ b) = true) := List.pairwise_mergeSort (fun a b c h1 h2 => by
    have := of_decide_eq_true h1
    have := of_decide_eq_true h2
    exact decide_eq_true (by omega)) (fun a b => by
    rcases Int.le_total a b with h1 | h1
    · rw [decide_eq_true h1, Bool.true_or]
    · rw [decide_eq_true h1, Bool.or_true]) l
  rcases Nat.lt_or_ge i j with h1 | h1
  · have := (List.pairwise_iff_getElem.1 hp) i j (by omega) hj h1
    have := of_decide_eq_true this
    simpa [show i < (sortI l).length by omega, hj] using this
  · obtain rfl : i = j := by omega
    exact Int.le_refl _
theorem compact_mem (z : List Int) (x : Int) : x ∈ Lib.compact z ↔ x ∈ z := by
  unfold Lib.compact Lib.compactUpTo
  simp only [List.mem_map, List.mem_filter, List.mem_range]
  constructor
  · rintro ⟨j, ⟨hj, _⟩, rfl⟩
    simp [hj]
  · intro hx
    obtain ⟨j, hj, rfl⟩ := List.mem_iff_getElem.1 hx
    have key : ∀ j, j < z.length → ∃ i, (i < z.length ∧ Lib.keeps z.toArray i = true) ∧ z.toArray[i]! = z.toArray[j]! := by
      intro j
      induction j with
      | zero => intro h; exact ⟨0, ⟨h, by simp [Lib.keeps]⟩, rfl⟩
      | succ j ih =>
        intro h
        by_cases he : z.toArray[j + 1]! = z.toArray[j]!
        · obtain ⟨i, hi, hie⟩ := ih (by omega)
          exact ⟨i, hi, hie.trans he.symm⟩
        · exact ⟨j + 1, ⟨h, Lib.keeps_pos (by simpa using he)⟩, rfl⟩
    obtain ⟨i, hi, hie⟩ := key j hj
    exact ⟨i, hi, by rw [hie]; simp [hj]⟩
theorem compact_sorted (l : List Int) (n : Nat) (h : ∀ x ∈ l, 0 ≤ x ∧ x < n) : Lib.compact (sortI l) = truesL (fun q => decide ((q : Int) ∈ l)) n := by
  have hlt : (Lib.compact (sortI l)).Pairwise (fun a b => a < b) := by
    unfold Lib.compact Lib.compactUpTo
    rw [List.pairwise_map]
    refine List.Pairwise.imp_of_mem ?_ ((List.pairwise_lt_range (n := (sortI l).length)).filter _)
    intro i j hi hj hij
    simp only [List.mem_filter, List.mem_range] at hi hj
    have hk := of_decide_eq_true hj.2
    have h1 := sortI_mono l (i := i) (j := j - 1) (by omega) (by omega)
    have h2 := sortI_mono l (i := j - 1) (j := j) (by omega) hj.1
    rcases hk with h3 | h3
    · omega
    · omega
  have hle : (Lib.compact (sortI l)).Pairwise (fun a b => decide (a ≤ b) = true) := hlt.imp (fun {a b} h => decide_eq_true (by omega))
  refine List.Perm.eq_of_pairwise (le := fun a b => decide (a ≤ b) = true) (fun a b _ _ h1 h2 => ?_) hle (trues_nodup _ n) ?_
  · have := of_decide_eq_true h1
    have := of_decide_eq_true h2
    omega
  · refine (List.perm_ext_iff_of_nodup (hlt.imp (fun {a b} h => by omega)) ?_).2 fun x => ?_
    · unfold truesL
      exact List.Pairwise.map _ (fun a b hab h => hab (by omega)) ((List.nodup_range (n := n)).filter _)
    · rw [compact_mem]
      unfold truesL sortI
      rw [(List.mergeSort_perm l _).mem_iff]
      simp only [List.mem_map, List.mem_filter, List.mem_range, decide_eq_true_eq]
      constructor
      · intro hx
        have := h x hx
        exact ⟨x.toNat, ⟨by omega, by rwa [show ((x.toNat : Nat) : Int) = x by omega]⟩, by omega⟩
      · rintro ⟨q, ⟨_, hq⟩, rfl⟩
        exact hq
theorem compact_len (l : List Int) : (Lib.compact l).length ≤ l.length := by
  unfold Lib.compact Lib.compactUpTo
  rw [List.length_map]
  exact Nat.le_trans (List.length_filter_le _ _) (by simp)
theorem grow_no (w : World) : grow w #[] = w := by simp
theorem compact_c (B : Nat) (l : List Int) (v : Value) (w : World) (h : w.ownsRow B 3 1 v l.length (ints l)) (hl : l.length ≤ 1000000) :
    Calls Try.prog 82 #[v] w fun e w' => ∃ v', e = .returned v' ∧ w'.ownsRow B 3 1 v' (Lib.compact l).length (ints (Lib.compact l)) ∧ Only (fun g => v.ownBlock = some g) w w' := by
  rcases h.2 with ⟨rfl, h0⟩ | ⟨g, cap, cur, rfl, _⟩
  · obtain rfl : l = [] := List.eq_nil_of_length_eq_zero h0
    refine (Any.slices_Compact_int_empty Try.compactA none 0 w).mono ?_
    rintro e w' ⟨rfl, rfl⟩
    exact ⟨_, rfl, World.ownsRow_nil _ _ _ _, .refl _ _⟩
  · obtain ⟨hH, hg, hc, hB⟩ := own_holds h
    refine (Any.slices_Compact_int Try.compactA g 0 cap l w hH (by omega) hc).mono ?_
    rintro e w' ⟨rfl, q, rfl⟩
    have hcl := compact_len l
    have h1 := put_own (l' := Lib.compact l ++ List.replicate (l.length - (Lib.compact l).length) 0) q #[] h (by simp; omega)
    rw [grow_no] at h1
    have h2 := own_take h1 (k := (Lib.compact l).length) (by simp)
    rw [List.take_left'  rfl] at h2
    have h3 := put_fresh w q g (Lib.compact l ++ List.replicate (l.length - (Lib.compact l).length) 0).toArray #[]
    rw [grow_no] at h3
    exact ⟨_, rfl, h2, h3.mono (fun k hk => by rw [hk]; rfl)⟩
theorem idx_nil (F : Nat) (lb : Array Value) (w : World) : Calls Try.prog 99 #[.slice none 0 0, .func (.func F) #[] lb] w fun e w' => e = .returned (.int .i64 (-1)) ∧ w' = w := by
  go_enter Try.func99, Try.ntmps99
  go_wp2_with fail
  go_rounds 1
  go_wp2_with fail
  go_ret
  exact ⟨rfl, rfl⟩
theorem del_nil (F : Nat) (lb : Array Value) (w : World) : Calls Try.prog 89 #[.slice none 0 0, .func (.func F) #[] lb] w fun e w' => e = .returned (.slice none 0 0) ∧ w' = w := by
  go_enter Try.func89, Try.ntmps89
  go_wp2_with fail
  refine (idx_nil F lb w).mono ?_
  rintro e w1 ⟨rfl, rfl⟩
  go_wp2_with fail
  go_ret
  exact ⟨rfl, rfl⟩
/-- DeleteFunc by a function value that only reads, in whatever world the row is written. -/
theorem del_c (B : Nat) (l : List Int) (p : Int → Bool) (F : Nat) (lb : Array Value) (v : Value) (w : World) (h : w.ownsRow B 3 1 v l.length (ints l)) (hl : l.length ≤ 1000000)
    (eg : ∀ args w, (callFunc F args).run Try.prog w = .ok (.enter F args) w)
    (hp : ∀ (W : World) (x : Int), Below B w W → Calls Try.prog F (#[.int .i64 x] ++ lb) W fun e w' => e = .returned (.bool (p x)) ∧ w' = W) :
    Calls Try.prog 89 #[v, .func (.func F) #[] lb] w fun e w' => ∃ v', e = .returned v' ∧ w'.ownsRow B 3 1 v' (l.filter fun x => !p x).length (ints (l.filter fun x => !p x)) ∧ Only (fun g => v.ownBlock = some g) w w' := by
  rcases h.2 with ⟨rfl, h0⟩ | ⟨g, cap, cur, rfl, _⟩
  · obtain rfl : l = [] := List.eq_nil_of_length_eq_zero h0
    refine (del_nil F lb w).mono ?_
    rintro e w' ⟨rfl, rfl⟩
    exact ⟨_, rfl, World.ownsRow_nil _ _ _ _, .refl _ _⟩
  · obtain ⟨hH, hg, hc, hB⟩ := own_holds h
    have hfl : (l.filter fun x => !p x).length ≤ l.length := List.length_filter_le _ _
    refine (AnyE.slices_DeleteFunc Try.delA (Value.int .i64) (fun _ => rfl) p F lb eg 0 (fun w => Try.zeroValue3 w) g 0 cap l.toArray w (fun W x hb => ?_) (fun n os dk x hs => ?_) hH (by simp; omega) (by simpa using hc)).mono ?_
    · exact (hp W x (hb.mono (by omega))).mono (by rintro e w' ⟨rfl, rfl⟩; exact ⟨rfl, 0, rfl⟩)
    · exact (hp _ x ((put_fresh w n g dk os).below (by omega) (fun k hk => by omega))).mono (by rintro e w' ⟨rfl, rfl⟩; exact ⟨rfl, 0, rfl⟩)
    rintro e w' ⟨rfl, q, rfl⟩
    have h1 := put_own (l' := (l.filter fun x => !p x) ++ List.replicate (l.length - (l.filter fun x => !p x).length) 0) q #[] h (by simp; omega)
    rw [grow_no] at h1
    have h2 := own_take h1 (k := (l.filter fun x => !p x).length) (by simp)
    rw [List.take_left' rfl] at h2
    have h3 := put_fresh w q g ((l.filter fun x => !p x) ++ List.replicate (l.length - (l.filter fun x => !p x).length) 0).toArray #[]
    rw [grow_no] at h3
    exact ⟨_, rfl, h2, h3.mono (fun k hk => by rw [hk]; rfl)⟩
end Go.Proofs.Ytbbhbjdpdhbjlaa.Ge
namespace Go.Proofs.Ytbbhbjdpdhbjlaa.Ge
open Go.RowKit Go.Maps Go.Sort Go.Shelf Pl Ft Mm In Gp
theorem rev_c (B : Nat) (l : List Int) (v : Value) (w : World) (h : w.ownsRow B 3 1 v l.length (ints l)) (hl : l.length ≤ 1000000) :
    Calls Try.prog 73 #[v] w fun e w' => e = .returned (.tuple #[]) ∧ w'.ownsRow B 3 1 v l.length (ints l.reverse) ∧ Only (fun g => v.ownBlock = some g) w w' := by
  rcases h.2 with ⟨rfl, h0⟩ | ⟨g, cap, cur, rfl, _⟩
  · obtain rfl : l = [] := List.eq_nil_of_length_eq_zero h0
    refine (Any.slices_Reverse_int_empty Try.revA none 0 w).mono ?_
    rintro e w' ⟨rfl, rfl⟩
    exact ⟨rfl, World.ownsRow_nil _ _ _ _, .refl _ _⟩
  · obtain ⟨hH, hg, hc, hB⟩ := own_holds h
    refine (Any.slices_Reverse_int Try.revA g 0 cap l w hH (by omega)).mono ?_
    rintro e w' ⟨rfl, q, rfl⟩
    have h1 := put_own (l' := l.reverse) q #[] h (by simp)
    rw [grow_no, List.length_reverse] at h1
    have h3 := put_fresh w q g l.reverse.toArray #[]
    rw [grow_no] at h3
    exact ⟨rfl, h1, h3.mono (fun k hk => by rw [hk]; rfl)⟩
end Go.Proofs.Ytbbhbjdpdhbjlaa.Ge
