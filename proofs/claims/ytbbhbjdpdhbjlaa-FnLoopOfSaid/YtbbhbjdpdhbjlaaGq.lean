/- DeleteFunc at nodes; the loop of a head: the program. -/
import Derived.Test.YtbbhbjdpdhbjlaaGw
set_option linter.unusedSimpArgs false
set_option linter.unusedVariables false
namespace Go.Proofs.Ytbbhbjdpdhbjlaa.Ge
open Go.RowKit Go.Maps Go.Sort Go.Shelf Pl Ft Mm In Gp

/-- A node below N. -/
structure Nd (N : Nat) where
  val : Nat
  lt : val < N
def encNd (N : Nat) (x : Nd N) : Value := .int .i64 (x.val : Int)
theorem putRow_nd {N : Nat} [Inhabited (Nd N)] (w : World) (g : Nat) (d : List (Nd N)) : putRow (encNd N) w g 0 d.toArray = putRow (Value.int .i64) w g 0 (natI (d.map Nd.val)).toArray := by
  unfold putRow putCells
  congr 1
  funext c
  apply Array.ext_getElem?
  intro k
  simp only [Array.getElem?_mapIdx]
  congr 1
  funext x
  have hs : (natI (d.map Nd.val)).toArray.size = d.toArray.size := by simp [natI]
  rw [hs]
  by_cases h : 0 ≤ k ∧ k < 0 + d.toArray.size
  · rw [if_pos h, if_pos h]
    have hk : k < d.length := by simpa using h.2
    have h2 : (natI (d.map Nd.val)).toArray[k - 0]! = ((d.toArray[k - 0]!).val : Int) := by simp [natI, hk]
    rw [h2]
    rfl
  · rw [if_neg h, if_neg h]
def toNd (N : Nat) (l : List Nat) (h : ∀ x ∈ l, x < N) : List (Nd N) := l.pmap (fun a ha => (⟨a, ha⟩ : Nd N)) h
theorem toNd_val {N : Nat} {l : List Nat} {h : ∀ x ∈ l, x < N} : (toNd N l h).map Nd.val = l := by
  unfold toNd
  rw [List.map_pmap]
  simp
theorem nd_filter {N : Nat} (d : List (Nd N)) (p : Nat → Bool) : (d.filter fun x => !p x.val).map Nd.val = (d.map Nd.val).filter fun x => !p x := by
  rw [List.filter_map]
  rfl
theorem del_n (N : Nat) (hN : 0 < N) (B : Nat) (l : List Nat) (hlt : ∀ x ∈ l, x < N) (p : Nat → Bool) (F : Nat) (lb : Array Value) (v : Value) (w : World) (h : w.ownsRow B 3 1 v (natI l).length (ints (natI l))) (hl : l.length ≤ 1000000)
    (eg : ∀ args w, (callFunc F args).run Try.prog w = .ok (.enter F args) w)
    (hp : ∀ (W : World) (x : Nat), x < N → Below B w W → Calls Try.prog F (#[.int .i64 x] ++ lb) W fun e w' => e = .returned (.bool (p x)) ∧ w' = W) :
    Calls Try.prog 89 #[v, .func (.func F) #[] lb] w fun e w' => ∃ v', e = .returned v' ∧ w'.ownsRow B 3 1 v' (natI (l.filter fun x => !p x)).length (ints (natI (l.filter fun x => !p x))) ∧ Only (fun g => v.ownBlock = some g) w w' := by
  have hnl := natI_len l
  rcases h.2 with ⟨rfl, h0⟩ | ⟨g, cap, cur, rfl, _⟩
  · obtain rfl : l = [] := List.eq_nil_of_length_eq_zero (by omega)
    refine (del_nil F lb w).mono ?_
    rintro e w' ⟨rfl, rfl⟩
    exact ⟨_, rfl, World.ownsRow_nil _ _ _ _, .refl _ _⟩
  · obtain ⟨hH, hg, hc, hB⟩ := own_holds h
    haveI : Inhabited (Nd N) := ⟨⟨0, hN⟩⟩
    obtain ⟨d, hd⟩ : ∃ d, toNd N l hlt = d := ⟨_, rfl⟩
    have hdv : d.map Nd.val = l := by rw [← hd, toNd_val]
    have hdl : d.length = l.length := by rw [← hdv, List.length_map]
    have hfl : (l.filter fun x => !p x).length ≤ l.length := List.length_filter_le _ _
    have hff : (d.filter fun x => !p x.val).map Nd.val = l.filter fun x => !p x := by rw [nd_filter, hdv]
    have hfd : (d.filter fun x => !p x.val).length = (l.filter fun x => !p x).length := by rw [← hff, List.length_map]
    have hHd : Holds (encNd N) w g 0 d.toArray := by
      intro j hj
      have hj' : j < d.length := by simpa using hj
      have h1 := hH j (by simp [natI]; omega)
      refine ⟨h1.1.trans ?_, h1.2⟩
      have h2 : j < l.length := by omega
      congr 1
      unfold encNd
      simp only [List.size_toArray, hj', natI, getElem!_pos, List.length_map, h2, List.getElem_toArray, List.getElem_map]
      congr 2
      have h3 : (d.map Nd.val)[j]'(by simpa using hj') = l[j] := by simp only [hdv]
      rw [← h3, List.getElem_map]
    have hcall := AnyE.slices_DeleteFunc Try.delA (encNd N) (fun _ => rfl) (fun x => p x.val) F lb eg (⟨0, hN⟩ : Nd N) (fun w => Try.zeroValue3 w) g 0 cap d.toArray w
      (fun W x hb => (hp W x.val x.lt (hb.mono (by omega))).mono (by rintro e w' ⟨rfl, rfl⟩; exact ⟨rfl, 0, rfl⟩))
      (fun n os dk x hs => (hp _ x.val x.lt (by
        show Below B w (sortWorld (encNd N) w g 0 n dk os)
        unfold sortWorld
        rw [show dk = (dk.toList).toArray by simp, putRow_nd]
        exact (put_fresh w n g _ os).below (by omega) (fun k hk => by omega))).mono (by rintro e w' ⟨rfl, rfl⟩; exact ⟨rfl, 0, rfl⟩))
      hHd (by simp; omega) (by simp; omega)
    rw [show (natI l).length = d.toArray.size by rw [hnl]; simp [hdl]]
    refine hcall.mono ?_
    rintro e w' ⟨rfl, q, rfl⟩
    have e1 : ((d.toArray.toList.filter fun x => !p x.val) ++ List.replicate (d.toArray.size - (d.toArray.toList.filter fun x => !p x.val).length) (⟨0, hN⟩ : Nd N)).map Nd.val = (l.filter fun x => !p x) ++ List.replicate (l.length - (l.filter fun x => !p x).length) 0 := by
      rw [List.map_append, List.map_replicate]
      simp only [List.size_toArray, hdl]
      rw [hff, hfd]
    rw [putRow_nd, e1]
    have h1 := put_own (l' := natI ((l.filter fun x => !p x) ++ List.replicate (l.length - (l.filter fun x => !p x).length) 0)) q #[] h (by rw [natI_len, natI_len, List.length_append, List.length_replicate]; omega)
    rw [grow_no] at h1
    have h2 := own_take h1 (k := (natI (l.filter fun x => !p x)).length) (by rw [natI_len, natI_len, List.length_append]; omega)
    rw [natI_app, List.take_left' rfl] at h2
    have h3 := put_fresh w q g (natI ((l.filter fun x => !p x) ++ List.replicate (l.length - (l.filter fun x => !p x).length) 0)).toArray #[]
    rw [grow_no] at h3
    refine ⟨_, rfl, ?_, h3.mono (fun k hk => by rw [hk]; rfl)⟩
    rw [show (d.toArray.toList.filter fun x => !p x.val).length = (natI (l.filter fun x => !p x)).length by rw [natI_len]; exact hfd, natI_app]
    exact h2
end Go.Proofs.Ytbbhbjdpdhbjlaa.Ge
