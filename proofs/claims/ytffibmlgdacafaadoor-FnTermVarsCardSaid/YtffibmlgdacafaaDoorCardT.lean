/- What the cards of terms share: what the listed tables give, and a world that holds them. -/
import Derived.Test.YtffibmlgdacafaaDoorUa
import Derived.Test.YtffibmlgdacafaaDoorBase
import Derived.Test.YtffibmlgdacafaaDoorCards
import Derived.Test.YtffibmlgdacafaaDoorTie
import Derived.WalkKit
import Derived.ProofKit
import Derived.OpenShut
import Derived.OpenVars
import Derived.ChangeVars
import Derived.Below
import Derived.Carry
import Derived.LaidSub
import Derived.SevenTiedAt
import Derived.Deep.DeepHandedRow
import Derived.Lib.LaidTab
set_option linter.unusedSimpArgs false
set_option linter.unusedVariables false
namespace Go.Proofs.YtffibmlgdacafaaDoor.CardT
open Go.ChangeShapes Go.WideShapes Go.ChangeAt Go.RowKit Go.Deep

theorem own : ownKnob Tryd.prog.godebug = none := by kernel_rfl
theorem laidOut : laidOutB Tryd.prog = true := by kernel_rfl
def litVal : DataW Unit → Option Value
  | .lit (.int k x) => some (.int k x)
  | .lit (.bool b) => some (.bool b)
  | .lit (.string l) => some (.string ⟨l.toArray⟩)
  | _ => none
def partOf (d : DataW Unit) (i : Nat) : Option (DataW Unit) := match d with | .agg l => l[i]? | _ => none
def flat : TypeDesc → Bool
  | .int _ => true
  | .bool => true
  | .string => true
  | _ => false
section
variable {enc : TypeId × Value → Unit} {P : Program} {w : World} {base : Nat} {spare : Nat → Bool} {held : Bool}
theorem lit_cell {t : TypeId} {fuel : Nat} {u : Value} {x : DataW Unit × List MemPlace} {d : TypeDesc} (ht : P.underlying t = some d) (hf : flat d = true) (h : DataW.trod enc P w base spare held fuel t [u] = some x) : litVal x.1 = some u := by
  cases d <;> simp only [flat, reduceCtorEq] at hf
  · obtain ⟨b, hb, rfl⟩ := DataW.trod_bool ht h
    simp only [List.cons.injEq, and_true] at hb
    subst hb; rfl
  · obtain ⟨n, hn, rfl, _⟩ := DataW.trod_int ht h
    simp only [List.cons.injEq, and_true] at hn
    subst hn; rfl
  · obtain ⟨s, hs, rfl, _⟩ := DataW.trod_string ht h
    simp only [List.cons.injEq, and_true] at hs
    subst hs; rfl
/-- A table of structs of plain fields: each cell is what the list tells. -/
theorem table_cells {t e : TypeId} {n c : Nat} {fs : Array Field} {fuel : Nat} {cs : List Value} {x : DataW Unit × List MemPlace} (ht : P.underlying t = some (.array n e)) (he : P.underlying e = some (.struct fs)) (hone : oneCellFields P fs = true) (hc : P.cellsOf e = c)
    (hfl : fs.all (fun f => ((P.underlying f.type).map flat).getD false) = true) (h : DataW.trod enc P w base spare held fuel t cs = some x) :
    cs.length = P.cellsOf t ∧ ∀ k i, k < n → i < fs.size → i < c → k * c + c ≤ cs.length → ((partOf x.1 k).bind fun d => partOf d i).bind litVal = cs[k * c + i]? := by
  obtain ⟨xs, m, rfl, rfl, hlen, hn, hel⟩ := DataW.trod_array ht h
  refine ⟨hlen, fun k i hk hi hic hkc => ?_⟩
  have h1 := hel k hk
  have hxk : k < xs.length := by omega
  rw [List.getElem?_eq_getElem hxk, hc] at h1
  obtain ⟨ys, m2, hm2, hx2, hl2, hyl, hf⟩ := DataW.trod_struct he h1
  have hfi : fs[i]? = some fs[i] := by simp [hi]
  obtain ⟨o, kk⟩ := hone_of hone i fs[i] hfi
  have h2 := hf i _ hfi
  have hyi : i < ys.length := by omega
  rw [List.getElem?_eq_getElem hyi, kk, o] at h2
  have hu : ∃ u, (((cs.drop (k * c)).take c).drop i).take 1 = [u] ∧ cs[k * c + i]? = some u := by
    have hlt : k * c + i < cs.length := by omega
    refine ⟨cs[k * c + i], ?_, List.getElem?_eq_getElem hlt⟩
    have e1 : ((cs.drop (k * c)).take c).drop i = cs[k * c + i] :: (((cs.drop (k * c)).take c).drop (i + 1)) := by
      have hl : i < ((cs.drop (k * c)).take c).length := by rw [List.length_take, List.length_drop]; omega
      rw [List.drop_eq_getElem_cons hl, List.getElem_take, List.getElem_drop]
    rw [e1]; rfl
  obtain ⟨u, hu1, hu2⟩ := hu
  rw [hu1] at h2
  have hfa : ((P.underlying fs[i].type).map flat).getD false = true := by
    rw [Array.all_eq_true] at hfl
    exact hfl i hi
  cases hd : P.underlying fs[i].type with
  | none => rw [hd] at hfa; simp at hfa
  | some d =>
    rw [hd] at hfa
    have := lit_cell hd (by simpa using hfa) h2
    rw [hu2]
    have e0 : partOf (DataW.agg (xs.map (·.1))) k = some xs[k].1 := by simp [partOf, hxk]
    have e1 : partOf xs[k].1 i = some ys[i].1 := by rw [hx2]; simp [partOf, hyi]
    simp only [e0, Option.bind_some, e1, this]
end
theorem gF : Tryd.prog.globalNamed "loop.example/liftedcode/impl.termForms" = some 0 := by kernel_rfl
theorem tF : (Tryd.prog.globals[(0 : Nat)]?).map (·.type) = some 108 := by kernel_rfl
theorem cF : Tryd.prog.cellsOf 108 = 30 := by kernel_rfl
theorem cF1 : Tryd.prog.cellsOf 107 = 5 := by kernel_rfl
theorem gO : Tryd.prog.globalNamed "loop.example/liftedcode/impl.operators" = some 1 := by kernel_rfl
theorem tO : (Tryd.prog.globals[(1 : Nat)]?).map (·.type) = some 120 := by kernel_rfl
theorem cO : Tryd.prog.cellsOf 120 = 27 := by kernel_rfl
theorem cO1 : Tryd.prog.cellsOf 119 = 3 := by kernel_rfl
theorem var_block {W : World} {n : String} {g : Nat} {cs : Array Value} (hg : Tryd.prog.globalNamed n = some g) (h : W.var? Tryd.prog n = some cs) : ∃ t fr, W.heap[g]? = some (.cells cs t fr) := by
  simp only [World.var?, hg, Option.bind_some] at h
  split at h
  · rename_i c t fr he
    cases h
    exact ⟨t, fr, he⟩
  · cases h
theorem dataF : ∀ k, k < 6 → ∀ i, i < 5 → ((partOf Rows.laid_loop_example_liftedcode_impl_termForms k).bind fun d => partOf d i).bind litVal = Um.formCells.toList[k * 5 + i]?
  | 0, _, 0, _ | 0, _, 1, _ | 0, _, 2, _ | 0, _, 3, _ | 0, _, 4, _ => by rfl
  | 1, _, 0, _ | 1, _, 1, _ | 1, _, 2, _ | 1, _, 3, _ | 1, _, 4, _ => by rfl
  | 2, _, 0, _ | 2, _, 1, _ | 2, _, 2, _ | 2, _, 3, _ | 2, _, 4, _ => by rfl
  | 3, _, 0, _ | 3, _, 1, _ | 3, _, 2, _ | 3, _, 3, _ | 3, _, 4, _ => by rfl
  | 4, _, 0, _ | 4, _, 1, _ | 4, _, 2, _ | 4, _, 3, _ | 4, _, 4, _ => by rfl
  | 5, _, 0, _ | 5, _, 1, _ | 5, _, 2, _ | 5, _, 3, _ | 5, _, 4, _ => by rfl
  | k + 6, h, _, _ => by omega
  | _, _, i + 5, h => by omega
theorem dataO : ∀ k, k < 9 → ∀ i, i < 3 → ((partOf Rows.laid_loop_example_liftedcode_impl_operators k).bind fun d => partOf d i).bind litVal = Um.opCells.toList[k * 3 + i]?
  | 0, _, 0, _ | 0, _, 1, _ | 0, _, 2, _ | 1, _, 0, _ | 1, _, 1, _ | 1, _, 2, _ | 2, _, 0, _ | 2, _, 1, _ | 2, _, 2, _ => by rfl
  | 3, _, 0, _ | 3, _, 1, _ | 3, _, 2, _ | 4, _, 0, _ | 4, _, 1, _ | 4, _, 2, _ | 5, _, 0, _ | 5, _, 1, _ | 5, _, 2, _ => by rfl
  | 6, _, 0, _ | 6, _, 1, _ | 6, _, 2, _ | 7, _, 0, _ | 7, _, 1, _ | 7, _, 2, _ | 8, _, 0, _ | 8, _, 1, _ | 8, _, 2, _ => by rfl
  | k + 9, h, _, _ => by omega
  | _, _, i + 3, h => by omega
theorem same_cells {cs ds : List Value} {n c : Nat} (hc : 0 < c) (h1 : cs.length = n * c) (h2 : ds.length = n * c) (h : ∀ k i, k < n → i < c → cs[k * c + i]? = ds[k * c + i]?) : cs = ds := by
  apply List.ext_getElem?
  intro j
  by_cases hj : j < n * c
  · have hk : j / c < n := Nat.div_lt_of_lt_mul (by rw [Nat.mul_comm]; exact hj)
    have hi : j % c < c := Nat.mod_lt _ hc
    have := h (j / c) (j % c) hk hi
    rwa [Nat.mul_comm, Nat.div_add_mod] at this
  · rw [List.getElem?_eq_none (by omega), List.getElem?_eq_none (by omega)]
set_option maxRecDepth 100000 in
/-- What the rows' lists give: the tables. -/
theorem tabs {W : World} (h1 : laidMetH Tryd.prog [("loop.example/liftedcode/impl.termForms", Rows.laid_loop_example_liftedcode_impl_termForms)] W)
    (h2 : laidMetH Tryd.prog [("loop.example/liftedcode/impl.operators", Rows.laid_loop_example_liftedcode_impl_operators)] W) : Um.Tabs W := by
  rw [MakeChecks.laidMetH_plain _ _ _ (by kernel_rfl)] at h1 h2
  refine ⟨?_, ?_⟩
  · obtain ⟨ps, ⟨g0, t0, cs0, f0, p0, q0, hg0, ht0, hv0, hd0, _, _⟩, _, _⟩ := h1
    obtain rfl := Option.some.inj (gF.symm.trans hg0)
    obtain rfl := Option.some.inj (tF.symm.trans ht0)
    obtain ⟨hl, hc⟩ := table_cells Tryd.underlying108 Tryd.underlying107 (by kernel_rfl) cF1 (by kernel_rfl) hd0
    rw [cF] at hl
    have he : cs0.toList = Um.formCells.toList := by
      refine same_cells (n := 6) (c := 5) (by decide) hl rfl (fun k i hk hi => ?_)
      rw [← hc k i hk hi hi (by omega)]
      exact dataF k hk i hi
    obtain ⟨t, fr, hb⟩ := var_block gF hv0
    obtain rfl : cs0 = Um.formCells := by cases cs0; simpa using congrArg List.toArray he
    exact ⟨t, fr, hb⟩
  · obtain ⟨ps, ⟨g0, t0, cs0, f0, p0, q0, hg0, ht0, hv0, hd0, _, _⟩, _, _⟩ := h2
    obtain rfl := Option.some.inj (gO.symm.trans hg0)
    obtain rfl := Option.some.inj (tO.symm.trans ht0)
    obtain ⟨hl, hc⟩ := table_cells Tryd.underlying120 Tryd.underlying119 (by kernel_rfl) cO1 (by kernel_rfl) hd0
    rw [cO] at hl
    have he : cs0.toList = Um.opCells.toList := by
      refine same_cells (n := 9) (c := 3) (by decide) hl rfl (fun k i hk hi => ?_)
      rw [← hc k i hk hi hi (by omega)]
      exact dataO k hk i hi
    obtain ⟨t, fr, hb⟩ := var_block gO hv0
    obtain rfl : cs0 = Um.opCells := by cases cs0; simpa using congrArg List.toArray he
    exact ⟨t, fr, hb⟩
def setRow (cs : Array Value) : Obj → Obj
  | .cells _ t frozen => .cells cs t frozen
  | o => o
def put (h : Array Obj) (g : Nat) (cs : Array Value) : Array Obj := h.modify g (setRow cs)
/-- A world for the witness: the settled one, both tables as their initialisers lay them. -/
noncomputable def laidWorld (os : Os) : World :=
  { World.holding Tryd.prog os ⟨#[], #[], []⟩ with heap := put (put (World.holding Tryd.prog os ⟨#[], #[], []⟩).heap 0 Um.formCells) 1 Um.opCells }
end Go.Proofs.YtffibmlgdacafaaDoor.CardT
