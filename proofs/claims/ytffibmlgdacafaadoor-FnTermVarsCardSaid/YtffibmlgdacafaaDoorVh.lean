/- How great a term is in which another one was put, plainly. -/
import Derived.Test.YtffibmlgdacafaaDoorVg
import Derived.Test.YtffibmlgdacafaaDoorBase
set_option linter.unusedSimpArgs false
set_option linter.unusedVariables false
namespace Go.Proofs.YtffibmlgdacafaaDoor.Um
open Go.RowKit Pl Ft Mm In C2 Im

theorem put_wide (s : ByteArray) (x : Tm) : ∀ (h : Nat) (t : Tm), (putT s x h t).wide ≤ t.wide + t.size * x.wide
  | 0, t => by unfold putT; omega
  | h + 1, t => by
    have hp := size_pos t
    unfold putT
    split
    · have : 1 * x.wide ≤ t.size * x.wide := Nat.mul_le_mul_right _ hp
      omega
    · have key : ∀ ks : List Tm, wides (ks.map (putT s x h)) ≤ wides ks + sizes ks * x.wide := by
        intro ks
        induction ks with
        | nil => simp [wides_nil]
        | cons k ks ih =>
          have h1 := put_wide s x h k
          rw [List.map_cons, wides_cons, wides_cons, sizes_cons, Nat.add_mul]
          omega
      have h2 := key t.kids
      have e : (Tm.mk t.kind t.num t.text (t.kids.map (putT s x h))).wide = t.text.size + ((t.kids.map (putT s x h)).length + wides (t.kids.map (putT s x h))) := wide_eq _
      rw [List.length_map] at e
      have e2 := wide_eq t
      have e3 := size_eq t
      have e4 : t.size * x.wide = x.wide + sizes t.kids * x.wide := by rw [e3, Nat.add_mul, Nat.one_mul]
      rw [e, e2, e4]
      generalize sizes t.kids * x.wide = q at h2 ⊢
      omega
theorem put_small {s : ByteArray} {x t : Tm} (ht : termOk t = true) (hx : termOk x = true) : (putT s x 14 t).wide ≤ 100000 := by
  obtain ⟨h1, h2⟩ := termOk_bd ht
  obtain ⟨h3, h4⟩ := termOk_bd hx
  have a1 := shape_wide 14 t h1
  have a2 := shape_wide 14 x h3
  have a3 := put_wide s x 14 t
  have a4 : t.size * x.wide ≤ 60 * 1200 := Nat.mul_le_mul h2 (by omega)
  omega
theorem run_put_one {w : World} {b : Nat} (h : Ms.EAt w b idV []) (p : ByteArray) (hp : p.size ≤ maxLen) (v : Value) :
    (Instr.mapUpdate 94 (.map (some b)) (.string p) v).run Tryd.prog w = .ok () (Ms.setE w b idV [(p, v)]) := by
  have hj : Instr.findNow .string (.string p) [] 0 = some none := rfl
  have hk := Ms.check_str p hp w
  unfold Ms.setE
  simp [Instr.mapUpdate, run_underlying Tryd.underlying94, run_underlying Tryd.underlying9, Go.MapKept.run_getObj_map h, hk, Instr.findKey, Result.andThen, hj, Go.MapKept.run_setObj_map _ h, Ms.eEnt, Ms.eList, idV]
end Go.Proofs.YtffibmlgdacafaaDoor.Um
