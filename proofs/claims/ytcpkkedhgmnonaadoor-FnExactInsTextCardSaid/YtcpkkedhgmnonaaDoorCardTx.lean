/- What both cards of InsText share: what the listed tables give, and a world that holds them. -/
import Derived.Test.YtcpkkedhgmnonaaDoorTx5
import Derived.Test.YtcpkkedhgmnonaaDoorLay3
import Derived.Test.YtcpkkedhgmnonaaDoorCards
import Derived.Test.YtcpkkedhgmnonaaDoorTie
import Derived.WalkKit
import Derived.ProofKit
import Derived.OpenShut
import Derived.OpenVars
import Derived.ChangeVars
import Derived.Below
import Derived.Carry
import Derived.LaidSub
import Derived.SevenTiedAt
import Derived.Deep.DeepHandedRow
import Derived.Lib.LaidTab
set_option linter.unusedSimpArgs false
set_option linter.unusedVariables false
namespace Go.Proofs.YtcpkkedhgmnonaaDoor.CardTx
open Go.ChangeShapes Go.WideShapes Go.ChangeAt Go.RowKit

def listed : List (String × DataW Unit) := Rows.fnExactInsTextRow.laid
theorem own : ownKnob Tryd.prog.godebug = none := by kernel_rfl
theorem laidOut : laidOutB Tryd.prog = true := by kernel_rfl
theorem gTab : Tryd.prog.globalNamed "internal/strconv.uint64pow10" = some 4 := by kernel_rfl
theorem gTabType : (Tryd.prog.globals[4]?).map (·.type) = some 101 := by kernel_rfl
theorem cellsTab : Tryd.prog.cellsOf 101 = 20 := by kernel_rfl
theorem cellsU64 : Tryd.prog.cellsOf 88 = 1 := by kernel_rfl
/-- What the row's list gives: the powers of ten. -/
theorem table {W : World} (h : laidMetH Tryd.prog listed W) : Im.Tab W := by
  have h2 : laidMetH Tryd.prog [("internal/strconv.uint64pow10", Lib.tabData .u64 Lib.pow10Tab)] W := laidMetH.filter (fun x => x.1 == "internal/strconv.uint64pow10") h
  exact Lib.tabIs_of_head (rest := []) gTab gTabType Tryd.underlying101 Tryd.underlying88 cellsU64 cellsTab h2
theorem gCond : Tryd.prog.globalNamed "loop.example/liftedcode/impl.condTexts" = some 0 := by kernel_rfl
theorem tCond : (Tryd.prog.globals[0]?).map (·.type) = some 55 := by kernel_rfl
theorem cStr : Tryd.prog.cellsOf 9 = 1 := by kernel_rfl
theorem cCond : Tryd.prog.cellsOf 55 = 6 := by kernel_rfl
theorem cell_lt1 {w : World} {b o : Nat} {u : Value} (h : w.cell? ⟨b, o, none⟩ = some u) : b < w.heap.size := World.block_lt_of_cell? _ ⟨b, o, none⟩ h
set_option maxRecDepth 100000 in
/-- What the row's list gives: the texts of the conditions. -/
theorem conds {W : World} (h : laidMetH Tryd.prog listed W) : Tx.Conds W := by
  have h2 : laidMetH Tryd.prog [("loop.example/liftedcode/impl.condTexts", Rows.laid_loop_example_liftedcode_impl_condTexts)] W := laidMetH.filter (fun x => x.1 == "loop.example/liftedcode/impl.condTexts") h
  rw [MakeChecks.laidMetH_plain _ _ _ (by kernel_rfl)] at h2
  obtain ⟨ps, ⟨g0, t0, cs0, f0, p0, q0, hg0, ht0, hv0, hd0, _, _⟩, _, _⟩ := h2
  obtain rfl := Option.some.inj (gCond.symm.trans hg0)
  obtain rfl := Option.some.inj (tCond.symm.trans ht0)
  obtain ⟨xs, m1, rfl, hx1, hlen, hn3, hel⟩ := DataW.trod_array Tryd.underlying55 hd0
  rw [cCond] at hlen
  have key : ∀ k, k < 6 → W.cell? ⟨0, k, none⟩ = some (.string (Tx.condWords.getD k ⟨#[]⟩)) := by
    intro k hk
    have h1 := hel k hk
    rw [cStr] at h1
    have hxk : k < xs.length := by omega
    rw [List.getElem?_eq_getElem hxk] at h1
    obtain ⟨s, e1, e2, _⟩ := DataW.trod_string Tryd.underlying9 h1
    have hc := World.var?_cell hg0 hv0 k
    rw [hc]
    have hkc : k < cs0.toList.length := by omega
    have e3 : cs0.toList.drop (k * 1) = cs0.toList[k] :: cs0.toList.drop (k + 1) := by rw [Nat.mul_one]; exact List.drop_eq_getElem_cons hkc
    rw [e3] at e1
    simp only [List.take_succ_cons, List.take_zero, List.cons.injEq, and_true] at e1
    have e4 : cs0[k]? = some (.string s) := by rw [← e1]; simp
    rw [e4]
    simp only [Prod.mk.injEq] at hx1
    have hx2 : (xs.map (·.1))[k]? = some (.lit (.string s.data.toList)) := by
      rw [List.getElem?_map, List.getElem?_eq_getElem hxk, e2]; rfl
    have hx3 := hx1.1
    unfold Rows.laid_loop_example_liftedcode_impl_condTexts at hx3
    injection hx3 with hx4
    rw [← hx4] at hx2
    congr 2
    have h6 : k = 0 ∨ k = 1 ∨ k = 2 ∨ k = 3 ∨ k = 4 ∨ k = 5 := by omega
    rcases h6 with rfl | rfl | rfl | rfl | rfl | rfl
    all_goals
      simp only [List.getElem?_cons_zero, List.getElem?_cons_succ, Option.some.injEq, DataW.lit.injEq, Lit.string.injEq] at hx2
      exact Tx.bytes_ext hx2.symm
  exact ⟨cell_lt1 (key 0 (by omega)), key⟩
/-- MaxLen's cell. -/
theorem maxLen_cell {W : World} (h : W.ShapedOpen Tryd.prog) : ∃ m, W.cell? ⟨1, 0, none⟩ = some (.int .i64 m) := Tryd.laysM146.s1_3 W h
def cellsOfD : Nat → DataW Unit → List Value
  | 0, _ => []
  | _ + 1, .lit (.int k x) => [.int k x]
  | _ + 1, .lit (.string b) => [.string ⟨b.toArray⟩]
  | n + 1, .agg l => l.flatMap (cellsOfD n)
  | _, _ => []
def setRow (cs : Array Value) : Obj → Obj
  | .cells _ t frozen => .cells cs t frozen
  | o => o
def put (h : Array Obj) (g : Nat) (d : DataW Unit) : Array Obj := h.modify g (setRow (cellsOfD 4 d).toArray)
/-- A world for the witness: the settled one, the six tables as their initialisers lay them. -/
noncomputable def laidWorld (os : Os) : World :=
  { World.holding Tryd.prog os ⟨#[], #[], []⟩ with heap := put (put (put (put (put (put (World.holding Tryd.prog os ⟨#[], #[], []⟩).heap 0 Rows.laid_loop_example_liftedcode_impl_condTexts) 2 Rows.laid_unicode_utf8_first) 3 Rows.laid_unicode_utf8_acceptRanges) 4 Rows.laid_internal_strconv_uint64pow10) 5 Rows.laid_math_bits_deBruijn32tab) 6 Rows.laid_math_bits_deBruijn64tab }
end Go.Proofs.YtcpkkedhgmnonaaDoor.CardTx
