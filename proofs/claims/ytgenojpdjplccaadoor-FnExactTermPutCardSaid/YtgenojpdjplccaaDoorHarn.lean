/- The laws' own helpers over numbers, names and images: what they return (toIntS, toNameS, toImage, szImage, eqImage) · The laws' own helpers over names and images: toName, toNameS, toImage · The laws' own helpers over names and images: szImage (how great an argument is), eqImage · The laws' own helpers over names and images: eqNameS, eqImage · Arguments opened: an image that came in reads as an image; a list of numbers as numbers. -/
import Derived.Test.YtgenojpdjplccaaDoorImg
import Derived.Test.YtgenojpdjplccaaDoorC2f
import Derived.Deep.RegionWith
import Derived.Deep.DeepCutAuto
import Derived.RegionTactic
import Derived.BigRegion
import Derived.ChangeShapes
import Derived.ChangeSlices
import Derived.ChangeArms
import Derived.WideShapes
import Derived.Deep.Fields
import Derived.Deep.Slices
import Derived.DataReads
set_option linter.unusedSimpArgs false
set_option linter.unusedVariables false
namespace Go.Proofs.YtgenojpdjplccaaDoor.Im
open Go.RowKit Pl Ft Mm In C2

/-- An address that holds a cell has no spot: what an argument is reads as what a slice is. -/
theorem cell_spot {w : World} {a : Addr} {u : Value} (h : w.cell? a = some u) : a = ⟨a.block, a.off, none⟩ := by
  unfold World.cell? at h
  split at h
  · split at h
    · cases h
    · rename_i hn
      cases hs : a.spot with
      | none => rw [← hs]
      | some s => rw [hs] at hn; simp at hn
  · cases h
theorem cell_lt {w : World} {a : Addr} {u : Value} (h : w.cell? a = some u) : a.block < w.heap.size := by
  unfold World.cell? at h
  split at h
  · rename_i hs
    exact (Array.getElem?_eq_some_iff.1 hs).1
  · cases h
theorem add_none (g o n : Nat) : (⟨g, o, none⟩ : Addr).add n = ⟨g, o + n, none⟩ := by unfold Addr.add; split <;> simp_all
theorem rd_of_cells {w : World} {ad : Addr} {xs : List Int} {cap : Nat} (h : ∀ j, j < xs.length → w.cell? (ad.add j) = some (.int .i64 (xs.getD j 0))) : Rd w (.slice (some ad) xs.length cap) xs := by
  refine ⟨some ad, cap, rfl, ?_⟩
  by_cases h0 : xs = []
  · exact .inl h0
  · have hp : 0 < xs.length := List.length_pos_iff.2 h0
    have hc := h 0 hp
    have e : ad.add 0 = ad := rfl
    rw [e] at hc
    have hs := cell_spot hc
    refine .inr ⟨ad.block, ad.off, by rw [← hs], cell_lt hc, fun j hj => ?_⟩
    rw [← add_none, ← hs]
    exact h j hj
theorem nrd_of_cells {w : World} {ad : Addr} {l : List Nm} {cap : Nat} (h : ∀ j, j < l.length → w.cell? (ad.add (j * 2)) = some (.string (l.getD j .none).text) ∧ w.cell? (ad.add (j * 2 + 1)) = some (.int .i64 (l.getD j .none).at_)) : NRd w (.slice (some ad) l.length cap) l := by
  refine ⟨some ad, cap, rfl, ?_⟩
  by_cases h0 : l = []
  · exact .inl h0
  · have hp : 0 < l.length := List.length_pos_iff.2 h0
    have hc := (h 0 hp).1
    rw [Nat.zero_mul] at hc
    have e : ad.add 0 = ad := rfl
    rw [e] at hc
    have hs := cell_spot hc
    refine .inr ⟨ad.block, ad.off, by rw [← hs], cell_lt hc, fun j hj => ?_⟩
    rw [Nat.add_assoc, ← add_none, ← add_none, ← hs]
    exact h j hj
theorem copy_step (xs : List Int) (Z : List Value) (k : Nat) (h : k < xs.length) (hz : Z.length = xs.length) : (ints (xs.take k) ++ Z.drop k).set k (.int .i64 (xs.getD k 0)) = ints (xs.take (k + 1)) ++ Z.drop (k + 1) := by
  have e : Z.drop k = Z[k]'(by omega) :: Z.drop (k + 1) := List.drop_eq_getElem_cons (by omega)
  have e2 : xs.take (k + 1) = xs.take k ++ [xs.getD k 0] := by rw [List.take_succ_eq_append_getElem h]; simp [h]
  have hl : (ints (xs.take k)).length = k := by simp [ints]; omega
  rw [e, e2, List.set_append_right _ _ (by omega), hl]
  simp only [ints, List.map_append, List.map_cons, List.map_nil, Nat.sub_self, List.set_cons_zero, List.append_assoc, List.singleton_append]
end Go.Proofs.YtgenojpdjplccaaDoor.Im
namespace Go.Proofs.YtgenojpdjplccaaDoor.Im
open Go.RowKit Pl Ft Mm In C2

theorem nm_step (l : List Nm) (Z : List Value) (k : Nat) (h : k < l.length) (hz : Z.length = l.length * 2) :
    ((nmCells (l.take k) ++ Z.drop (k * 2)).set (k * 2) (.string (l.getD k .none).text)).set (k * 2 + 1) (.int .i64 (l.getD k .none).at_) = nmCells (l.take (k + 1)) ++ Z.drop ((k + 1) * 2) := by
  have e0 : Z.drop (k * 2) = Z[k * 2]'(by omega) :: Z.drop (k * 2 + 1) := List.drop_eq_getElem_cons (by omega)
  have e1 : Z.drop (k * 2 + 1) = Z[k * 2 + 1]'(by omega) :: Z.drop (k * 2 + 1 + 1) := List.drop_eq_getElem_cons (by omega)
  have e2 : l.take (k + 1) = l.take k ++ [l.getD k .none] := by rw [List.take_succ_eq_append_getElem h]; simp [h]
  have hl : (nmCells (l.take k)).length = k * 2 := by rw [nmCells_len, List.length_take]; omega
  have e3 : nmCells (l.take k ++ [l.getD k .none]) = nmCells (l.take k) ++ [.string (l.getD k .none).text, .int .i64 (l.getD k .none).at_] := by
    simp only [nmCells, List.flatMap_append, List.flatMap_cons, List.flatMap_nil, List.append_nil, Nm.cells]
  have e4 : (k + 1) * 2 = k * 2 + 1 + 1 := by omega
  rw [e0, e1, e2, e3, e4, List.set_append_right _ _ (by omega), hl, Nat.sub_self, List.set_cons_zero, List.set_append_right _ _ (by omega), hl, Nat.add_sub_cancel_left, List.set_cons_succ, List.set_cons_zero, List.append_assoc]
  rfl
theorem own_far {w : World} {base : Nat} {e : TypeId} {size : Nat} {v : Value} {n : Nat} {xs : List Value} (h : w.ownsRow base e size v n xs) {p : Addr} (hp : ∀ g, v.ownBlock = some g → g ≠ p.block) (u : Value) : (w.setCell p u).ownsRow base e size v n xs := by
  refine ⟨h.1, ?_⟩
  rcases h.2 with h0 | ⟨g, cap, cur, rfl, hg, hr, hrest⟩
  · exact .inl h0
  · exact .inr ⟨g, cap, cur, rfl, hg, (Below.heap_setCell w p u g (hp g rfl)).trans hr, hrest⟩
theorem rd_below {B : Nat} {w w' : World} {v : Value} {xs : List Int} (h : Rd w v xs) (hb : Below w.heap.size w w') : Rd w' v xs := h.on hb
theorem five_row {w : World} {g : Nat} {t : TypeId} {x0 x1 x2 x3 x4 : Value} (h : Row w g t #[x0, x1, x2, x3, x4]) (vc : Value) (e r : Int) (vd vn : Value) :
    Row (((((w.setCell ⟨g, 0, none⟩ vc).setCell ⟨g, 1, none⟩ (.int .i64 e)).setCell ⟨g, 2, none⟩ (.int .i64 r)).setCell ⟨g, 3, none⟩ vd).setCell ⟨g, 4, none⟩ vn) g t #[vc, .int .i64 e, .int .i64 r, vd, vn] := ((((h.set 0 _).set 1 _).set 2 _).set 3 _).set 4 _
theorem five_bel {B : Nat} {w w' : World} {g : Nat} (h : Below B w w') (hg : B ≤ g) (y0 y1 y2 y3 y4 : Value) : Below B w (((((w'.setCell ⟨g, 0, none⟩ y0).setCell ⟨g, 1, none⟩ y1).setCell ⟨g, 2, none⟩ y2).setCell ⟨g, 3, none⟩ y3).setCell ⟨g, 4, none⟩ y4) := by
  have h0 := h.setCell (p := ⟨g, 0, none⟩) hg y0
  have h1 := h0.setCell (p := ⟨g, 1, none⟩) hg y1
  have h2 := h1.setCell (p := ⟨g, 2, none⟩) hg y2
  have h3 := h2.setCell (p := ⟨g, 3, none⟩) hg y3
  exact h3.setCell (p := ⟨g, 4, none⟩) hg y4
theorem own_far5 {w : World} {base : Nat} {e : TypeId} {size : Nat} {v : Value} {n : Nat} {xs : List Value} (h : w.ownsRow base e size v n xs) {g : Nat} (hg : ∀ b, v.ownBlock = some b → b ≠ g) (y0 y1 y2 y3 y4 : Value) :
    (((((w.setCell ⟨g, 0, none⟩ y0).setCell ⟨g, 1, none⟩ y1).setCell ⟨g, 2, none⟩ y2).setCell ⟨g, 3, none⟩ y3).setCell ⟨g, 4, none⟩ y4).ownsRow base e size v n xs :=
  own_far (own_far (own_far (own_far (own_far h (p := ⟨g, 0, none⟩) hg y0) (p := ⟨g, 1, none⟩) hg y1) (p := ⟨g, 2, none⟩) hg y2) (p := ⟨g, 3, none⟩) hg y3) (p := ⟨g, 4, none⟩) hg y4
end Go.Proofs.YtgenojpdjplccaaDoor.Im
namespace Go.Proofs.YtgenojpdjplccaaDoor.Im
open Go.RowKit Pl Ft Mm In C2

/-- What a size tells: less than what was left, or -1; where it isn't, all is small enough. -/
def SzPost (left : Int) (P : Prop) (w : World) (e : Ending) (w' : World) : Prop := ∃ x : Int, e = .returned (.int .i64 x) ∧ x ≤ left ∧ -1 ≤ x ∧ (0 ≤ x → P) ∧ Below w.heap.size w w'
def NamesSm (l : List Nm) (k : Nat) : Prop := ∀ x ∈ l.take k, x.text.size ≤ 1048576
theorem NamesSm.succ {l : List Nm} {k : Nat} (h : NamesSm l k) (hk : k < l.length) (ht : (l.getD k .none).text.size ≤ 1048576) : NamesSm l (k + 1) := by
  have e : l.getD k .none = l[k] := by simp [hk]
  rw [e] at ht
  intro x hx
  rw [List.take_succ_eq_append_getElem hk, List.mem_append, List.mem_singleton] at hx
  rcases hx with hx | rfl
  · exact h x hx
  · exact ht
structure SzRel (l : List Nm) (left : Int) (w : World) (k : Nat) (x : Int) (wr : World) : Prop where
  le : k ≤ l.length
  x0 : 0 ≤ x
  x1 : x ≤ left
  sm : NamesSm l k
  bel : Below w.heap.size w wr
/-- What the parts of an argument are at most. -/
structure Wide (m : Img) : Prop where
  c : m.code.length ≤ 9223372036854775807
  d : m.data.length ≤ 9223372036854775807
  n : m.names.length ≤ 9223372036854775807
  t : ∀ x ∈ m.names, x.text.size ≤ 9223372036854775807
end Go.Proofs.YtgenojpdjplccaaDoor.Im
namespace Go.Proofs.YtgenojpdjplccaaDoor.Im
open Go.RowKit Pl Ft Mm In C2

end Go.Proofs.YtgenojpdjplccaaDoor.Im
namespace Go.Proofs.YtgenojpdjplccaaDoor.Im
open Go.RowKit Pl Ft Mm In C2
open Go.ChangeShapes Go.WideShapes Go.Deep

section
variable {H : Type} {enc : TypeId × Value → H} {P : Program} {w : World} {base : Nat} {spare : Nat → Bool} {held : Bool}
/-- A struct of one-cell fields by value: its cells, and what each reads as. -/
theorem fields_of {r : Reach} {b0 : Nat} {t : TypeId} {fs : Array Field} {v : Value} {d : DataW H} {p : List MemPlace} (hs : P.underlying t = some (.struct fs)) (hone : oneCellFields P fs = true)
    (hv : Value.okWide P w r b0 t v) (h : DataW.Trod enc P w base spare held t v d p) :
    ∃ cs : Array Value, v = .agg cs ∧ cs.size = P.cellsOf t ∧ ∀ (i : Nat) (f : Field) (u : Value), fs[i]? = some f → cs[i]? = some u → ∃ n y, DataW.trod enc P w base spare held n f.type [u] = some y := by
  obtain ⟨cs, rfl, hsz⟩ := okWide_struct hs hv
  obtain ⟨fuel, hf⟩ := h
  obtain ⟨xs, n, _, _, _, hlen, hx⟩ := DataW.trod_struct hs hf
  refine ⟨cs, rfl, hsz, fun i f u hi hu => ?_⟩
  obtain ⟨o, k⟩ := hone_of hone i f hi
  have h1 := hx i f hi
  have hil : i < xs.length := by rw [hlen]; exact (Array.getElem?_eq_some_iff.1 hi).1
  rw [List.getElem?_eq_getElem hil, k, o] at h1
  have hc : ((Value.agg cs).cells.toList.drop i).take 1 = [u] := by
    have hu' : cs.toList[i]? = some u := by simpa using hu
    have hl : i < cs.toList.length := (List.getElem?_eq_some_iff.1 hu').1
    have e : cs.toList.drop i = cs.toList[i] :: cs.toList.drop (i + 1) := List.drop_eq_getElem_cons hl
    have e2 : cs.toList[i] = u := (List.getElem?_eq_some_iff.1 hu').2
    simp only [Value.cells]
    rw [e, e2]
    rfl
  rw [hc] at h1
  exact ⟨n, _, h1⟩
/-- A slice of numbers that came in. -/
theorem ints_of {t e : TypeId} {fuel : Nat} {u : Value} {x : DataW H × List MemPlace} (ht : P.underlying t = some (.slice e)) (he : P.underlying e = some (.int .i64)) (hc : P.cellsOf e = 1)
    (h : DataW.trod enc P w base spare held fuel t [u] = some x) : ∃ xs : List Int, Rd w u xs ∧ CapOk u ∧ xs.length ≤ maxLen := by
  rcases open_ints ht he hc h with ⟨hcs, _⟩ | ⟨a, len, cap, zs, hcs, _, hl, hm, hz, _, hcell, _⟩
  · simp only [List.cons.injEq, and_true] at hcs
    subst hcs
    exact ⟨[], Rd.nil _ _, ⟨_, _, _, rfl, Nat.le_refl _⟩, Nat.zero_le _⟩
  · simp only [List.cons.injEq, and_true] at hcs
    subst hcs
    have hlz : len ≤ zs.length := by rw [hz]; split <;> omega
    have htl : (zs.take len).length = len := by rw [List.length_take]; omega
    refine ⟨zs.take len, ?_, ⟨_, _, _, rfl, hl⟩, by omega⟩
    have := rd_of_cells (w := w) (ad := a) (xs := zs.take len) (cap := cap) (fun j hj => by
      rw [htl] at hj
      rw [hcell j (by omega)]
      congr 2
      rw [List.getD_eq_getElem?_getD, List.getD_eq_getElem?_getD, List.getElem?_take_of_lt hj])
    rwa [htl] at this
/-- A slice of names that came in. -/
theorem names_of {t e : TypeId} {f0 f1 : Field} {fuel : Nat} {u : Value} {x : DataW H × List MemPlace} (ht : P.underlying t = some (.slice e)) (he : P.underlying e = some (.struct #[f0, f1])) (hone : oneCellFields P #[f0, f1] = true) (hC : P.cellsOf e = 2)
    (h0 : P.underlying f0.type = some .string) (h1 : P.underlying f1.type = some (.int .i64)) (h : DataW.trod enc P w base spare held fuel t [u] = some x) :
    ∃ l : List Nm, NRd w u l ∧ CapOk u ∧ l.length ≤ maxLen ∧ ∀ n ∈ l, n.text.size ≤ maxLen := by
  rcases open_slice ht h with ⟨hcs, _⟩ | ⟨a, len, cap, m, n, D, Pl, hcs, _, hl, hm, hmm, _, hi⟩
  · simp only [List.cons.injEq, and_true] at hcs
    subst hcs
    exact ⟨[], NRd.nil _ _, ⟨_, _, _, rfl, Nat.le_refl _⟩, Nat.zero_le _, fun n hn => by cases hn⟩
  · simp only [List.cons.injEq, and_true] at hcs
    subst hcs
    have hlm : len ≤ m := by rw [hmm]; split <;> omega
    have each : ∀ i, ∃ q : Nm, i < len → w.cell? (a.add (i * 2)) = some (.string q.text) ∧ w.cell? (a.add (i * 2 + 1)) = some (.int .i64 q.at_) ∧ q.text.size ≤ maxLen := by
      intro i
      by_cases hil : i < len
      · obtain ⟨cs', hc, htr⟩ := hi i (by omega)
        rw [hC] at hc
        obtain ⟨_, hcl, hat⟩ := World.cells?_some hc
        obtain ⟨ys, k, _, _, _, hyl, hf⟩ := DataW.trod_struct he htr
        obtain ⟨o0, k0⟩ := hone_of hone 0 f0 rfl
        obtain ⟨o1, k1⟩ := hone_of hone 1 f1 rfl
        have g0 := hf 0 f0 rfl
        have g1 := hf 1 f1 rfl
        match cs', hcl with
        | [u0, u1], _ =>
          rw [o0, k0] at g0
          rw [o1, k1] at g1
          rw [List.getElem?_eq_getElem (by rw [hyl]; simp)] at g0 g1
          obtain ⟨s, hs, _, hsz⟩ := DataW.trod_string h0 g0
          obtain ⟨z, hz, _, _⟩ := DataW.trod_int h1 g1
          simp at hs hz
          subst hs hz
          have a0 := hat 0 (by decide)
          have a1 := hat 1 (by decide)
          simp only [List.getElem?_cons_zero, List.getElem?_cons_succ] at a0 a1
          refine ⟨⟨s, z⟩, fun _ => ⟨a0, ?_, hsz⟩⟩
          have e : (a.add (i * 2)).add 1 = a.add (i * 2 + 1) := by
            unfold Addr.add
            by_cases hi0 : i * 2 = 0 <;> simp [hi0] <;> omega
          rw [← e]
          exact a1
      · exact ⟨.none, fun hlt => absurd hlt hil⟩
    obtain ⟨f, hf⟩ := Classical.skolem.1 each
    have hlen : ((List.range len).map f).length = len := by simp
    have hget : ∀ j, j < len → ((List.range len).map f).getD j .none = f j := by
      intro j hj
      simp [hj]
    refine ⟨(List.range len).map f, ?_, ⟨_, _, _, rfl, hl⟩, by omega, ?_⟩
    · have := nrd_of_cells (w := w) (ad := a) (l := (List.range len).map f) (cap := cap) (fun j hj => by
        rw [hlen] at hj
        rw [hget j hj]
        exact ⟨(hf j hj).1, (hf j hj).2.1⟩)
      rwa [hlen] at this
    · intro n hn
      obtain ⟨j, hj, rfl⟩ := List.mem_map.1 hn
      exact (hf j (List.mem_range.1 hj)).2.2
end
theorem cells_int : Tryd.prog.cellsOf 3 = 1 := by kernel_rfl
end Go.Proofs.YtgenojpdjplccaaDoor.Im
