/- Arguments opened: an image that came in reads as an image; a list of numbers as numbers. -/
import Derived.Test.YtadcepgeodcacaaDoorHarn4
import Derived.ChangeShapes
import Derived.ChangeSlices
import Derived.ChangeArms
import Derived.WideShapes
import Derived.Deep.Fields
import Derived.Deep.Slices
import Derived.DataReads
set_option linter.unusedSimpArgs false
set_option linter.unusedVariables false
namespace Go.Proofs.YtadcepgeodcacaaDoor.Im
open Go.RowKit Pl Ft Mm In C2
open Go.ChangeShapes Go.WideShapes Go.Deep

section
variable {H : Type} {enc : TypeId × Value → H} {P : Program} {w : World} {base : Nat} {spare : Nat → Bool} {held : Bool}
/-- A struct of one-cell fields by value: its cells, and what each reads as. -/
theorem fields_of {r : Reach} {b0 : Nat} {t : TypeId} {fs : Array Field} {v : Value} {d : DataW H} {p : List MemPlace} (hs : P.underlying t = some (.struct fs)) (hone : oneCellFields P fs = true)
    (hv : Value.okWide P w r b0 t v) (h : DataW.Trod enc P w base spare held t v d p) :
    ∃ cs : Array Value, v = .agg cs ∧ cs.size = P.cellsOf t ∧ ∀ (i : Nat) (f : Field) (u : Value), fs[i]? = some f → cs[i]? = some u → ∃ n y, DataW.trod enc P w base spare held n f.type [u] = some y := by
  obtain ⟨cs, rfl, hsz⟩ := okWide_struct hs hv
  obtain ⟨fuel, hf⟩ := h
  obtain ⟨xs, n, _, _, _, hlen, hx⟩ := DataW.trod_struct hs hf
  refine ⟨cs, rfl, hsz, fun i f u hi hu => ?_⟩
  obtain ⟨o, k⟩ := hone_of hone i f hi
  have h1 := hx i f hi
  have hil : i < xs.length := by rw [hlen]; exact (Array.getElem?_eq_some_iff.1 hi).1
  rw [List.getElem?_eq_getElem hil, k, o] at h1
  have hc : ((Value.agg cs).cells.toList.drop i).take 1 = [u] := by
    have hu' : cs.toList[i]? = some u := by simpa using hu
    have hl : i < cs.toList.length := (List.getElem?_eq_some_iff.1 hu').1
    have e : cs.toList.drop i = cs.toList[i] :: cs.toList.drop (i + 1) := List.drop_eq_getElem_cons hl
    have e2 : cs.toList[i] = u := (List.getElem?_eq_some_iff.1 hu').2
    simp only [Value.cells]
    rw [e, e2]
    rfl
  rw [hc] at h1
  exact ⟨n, _, h1⟩
/-- A slice of numbers that came in. -/
theorem ints_of {t e : TypeId} {fuel : Nat} {u : Value} {x : DataW H × List MemPlace} (ht : P.underlying t = some (.slice e)) (he : P.underlying e = some (.int .i64)) (hc : P.cellsOf e = 1)
    (h : DataW.trod enc P w base spare held fuel t [u] = some x) : ∃ xs : List Int, Rd w u xs ∧ CapOk u ∧ xs.length ≤ maxLen := by
  rcases open_ints ht he hc h with ⟨hcs, _⟩ | ⟨a, len, cap, zs, hcs, _, hl, hm, hz, _, hcell, _⟩
  · simp only [List.cons.injEq, and_true] at hcs
    subst hcs
    exact ⟨[], Rd.nil _ _, ⟨_, _, _, rfl, Nat.le_refl _⟩, Nat.zero_le _⟩
  · simp only [List.cons.injEq, and_true] at hcs
    subst hcs
    have hlz : len ≤ zs.length := by rw [hz]; split <;> omega
    have htl : (zs.take len).length = len := by rw [List.length_take]; omega
    refine ⟨zs.take len, ?_, ⟨_, _, _, rfl, hl⟩, by omega⟩
    have := rd_of_cells (w := w) (ad := a) (xs := zs.take len) (cap := cap) (fun j hj => by
      rw [htl] at hj
      rw [hcell j (by omega)]
      congr 2
      rw [List.getD_eq_getElem?_getD, List.getD_eq_getElem?_getD, List.getElem?_take_of_lt hj])
    rwa [htl] at this
/-- A slice of names that came in. -/
theorem names_of {t e : TypeId} {f0 f1 : Field} {fuel : Nat} {u : Value} {x : DataW H × List MemPlace} (ht : P.underlying t = some (.slice e)) (he : P.underlying e = some (.struct #[f0, f1])) (hone : oneCellFields P #[f0, f1] = true) (hC : P.cellsOf e = 2)
    (h0 : P.underlying f0.type = some .string) (h1 : P.underlying f1.type = some (.int .i64)) (h : DataW.trod enc P w base spare held fuel t [u] = some x) :
    ∃ l : List Nm, NRd w u l ∧ CapOk u ∧ l.length ≤ maxLen ∧ ∀ n ∈ l, n.text.size ≤ maxLen := by
  rcases open_slice ht h with ⟨hcs, _⟩ | ⟨a, len, cap, m, n, D, Pl, hcs, _, hl, hm, hmm, _, hi⟩
  · simp only [List.cons.injEq, and_true] at hcs
    subst hcs
    exact ⟨[], NRd.nil _ _, ⟨_, _, _, rfl, Nat.le_refl _⟩, Nat.zero_le _, fun n hn => by cases hn⟩
  · simp only [List.cons.injEq, and_true] at hcs
    subst hcs
    have hlm : len ≤ m := by rw [hmm]; split <;> omega
    have each : ∀ i, ∃ q : Nm, i < len → w.cell? (a.add (i * 2)) = some (.string q.text) ∧ w.cell? (a.add (i * 2 + 1)) = some (.int .i64 q.at_) ∧ q.text.size ≤ maxLen := by
      intro i
      by_cases hil : i < len
      · obtain ⟨cs', hc, htr⟩ := hi i (by omega)
        rw [hC] at hc
        obtain ⟨_, hcl, hat⟩ := World.cells?_some hc
        obtain ⟨ys, k, _, _, _, hyl, hf⟩ := DataW.trod_struct he htr
        obtain ⟨o0, k0⟩ := hone_of hone 0 f0 rfl
        obtain ⟨o1, k1⟩ := hone_of hone 1 f1 rfl
        have g0 := hf 0 f0 rfl
        have g1 := hf 1 f1 rfl
        match cs', hcl with
        | [u0, u1], _ =>
          rw [o0, k0] at g0
          rw [o1, k1] at g1
          rw [List.getElem?_eq_getElem (by rw [hyl]; simp)] at g0 g1
          obtain ⟨s, hs, _, hsz⟩ := DataW.trod_string h0 g0
          obtain ⟨z, hz, _, _⟩ := DataW.trod_int h1 g1
          simp at hs hz
          subst hs hz
          have a0 := hat 0 (by decide)
          have a1 := hat 1 (by decide)
          simp only [List.getElem?_cons_zero, List.getElem?_cons_succ] at a0 a1
          refine ⟨⟨s, z⟩, fun _ => ⟨a0, ?_, hsz⟩⟩
          have e : (a.add (i * 2)).add 1 = a.add (i * 2 + 1) := by
            unfold Addr.add
            by_cases hi0 : i * 2 = 0 <;> simp [hi0] <;> omega
          rw [← e]
          exact a1
      · exact ⟨.none, fun hlt => absurd hlt hil⟩
    obtain ⟨f, hf⟩ := Classical.skolem.1 each
    have hlen : ((List.range len).map f).length = len := by simp
    have hget : ∀ j, j < len → ((List.range len).map f).getD j .none = f j := by
      intro j hj
      simp [hj]
    refine ⟨(List.range len).map f, ?_, ⟨_, _, _, rfl, hl⟩, by omega, ?_⟩
    · have := nrd_of_cells (w := w) (ad := a) (l := (List.range len).map f) (cap := cap) (fun j hj => by
        rw [hlen] at hj
        rw [hget j hj]
        exact ⟨(hf j hj).1, (hf j hj).2.1⟩)
      rwa [hlen] at this
    · intro n hn
      obtain ⟨j, hj, rfl⟩ := List.mem_map.1 hn
      exact (hf j (List.mem_range.1 hj)).2.2
end
theorem cells_img : Tryd.prog.cellsOf 35 = 5 := by kernel_rfl
theorem cells_int : Tryd.prog.cellsOf 3 = 1 := by kernel_rfl
theorem cells_name : Tryd.prog.cellsOf 96 = 2 := by kernel_rfl
set_option maxRecDepth 100000 in
/-- An image that came in. -/
theorem image_of {H : Type} {enc : TypeId × Value → H} {w : World} {b0 base : Nat} {spare : Nat → Bool} {held : Bool} {r : Reach} {v : Value} {d : DataW H} {p : List MemPlace}
    (hv : Value.okWide Tryd.prog w r b0 35 v) (h : DataW.Trod enc Tryd.prog w base spare held 35 v d p) :
    ∃ (m : Img) (vc vd vn : Value), v = imgVal vc vd vn m ∧ Rd w vc m.code ∧ Rd w vd m.data ∧ NRd w vn m.names ∧ Wide m := by
  obtain ⟨cs, rfl, hsz, hf⟩ := fields_of Tryd.underlying35 (by kernel_rfl) hv h
  rw [cells_img] at hsz
  obtain ⟨l⟩ := cs
  match l, hsz with
  | [u0, u1, u2, u3, u4], _ =>
    obtain ⟨_, _, t0⟩ := hf 0 _ u0 rfl rfl
    obtain ⟨_, _, t1⟩ := hf 1 _ u1 rfl rfl
    obtain ⟨_, _, t2⟩ := hf 2 _ u2 rfl rfl
    obtain ⟨_, _, t3⟩ := hf 3 _ u3 rfl rfl
    obtain ⟨_, _, t4⟩ := hf 4 _ u4 rfl rfl
    obtain ⟨xs, hx, _, hxl⟩ := ints_of Tryd.underlying32 Tryd.underlying3 cells_int t0
    obtain ⟨e, he, _, _⟩ := DataW.trod_int Tryd.underlying3 t1
    obtain ⟨r, hr, _, _⟩ := DataW.trod_int Tryd.underlying3 t2
    obtain ⟨ys, hy, _, hyl⟩ := ints_of Tryd.underlying32 Tryd.underlying3 cells_int t3
    obtain ⟨ns, hn, _, hnl, hnt⟩ := names_of Tryd.underlying33 Tryd.underlying96 (by kernel_rfl) cells_name Tryd.underlying9 Tryd.underlying3 t4
    simp at he hr
    subst he hr
    unfold maxLen at hxl hyl hnl hnt
    exact ⟨⟨xs, e, r, ys, ns⟩, u0, u3, u4, rfl, hx, hy, hn, ⟨hxl, hyl, hnl, hnt⟩⟩
end Go.Proofs.YtadcepgeodcacaaDoor.Im
