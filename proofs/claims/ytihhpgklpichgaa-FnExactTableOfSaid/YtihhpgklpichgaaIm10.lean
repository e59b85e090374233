/- imageBytes and ImageBytes of the model. -/
import Derived.Test.YtihhpgklpichgaaIm9
import Derived.RegionTactic
import Derived.BigRegion
import Derived.BigQuiet
import Derived.StillTailTactics
set_option linter.unusedSimpArgs false
set_option linter.unusedVariables false
namespace Go.Proofs.Ytihhpgklpichgaa.Im
open Go.RowKit Pl Ft Mm In C2

theorem front_nine (m : Img) (h : ImgBd m) : [108, 99, (m.code.length : Int) % 256, (m.code.length : Int) / 256, m.entry % 256, m.entry / 256, m.room, (m.data.length : Int), (m.names.length : Int)] = imgFront m := by
  have h1 := h.c1
  have h2 := h.e0
  have h3 := h.e1
  have e : ∀ x : Int, 0 ≤ x → x ≤ 2000 → bytesOf x 2 = [x % 256, x / 256] := by
    intro x h0 h1
    show [x % 256, x / 256 % 256] = _
    rw [show x / 256 % 256 = x / 256 by omega]
  unfold imgFront
  rw [e _ (by omega) (by omega), e _ h2 (by omega)]
  rfl
/-- What the rounds of the model keep: the list, the image's own block, what there was. -/
structure BRel (w : World) (m : Img) (box : Array Value) (xs : List Int) (v : Value) (wr : World) : Prop where
  own : wr.ownsRow (w.heap.size + 1) 3 1 v xs.length (ints xs)
  box : Row wr w.heap.size 30 box
  bel : Below w.heap.size w wr
theorem BRel.size {w : World} {m : Img} {box : Array Value} {xs : List Int} {v : Value} {wr : World} (h : BRel w m box xs v wr) : w.heap.size + 1 ≤ wr.heap.size := h.box.lt
theorem BRel.grow {w : World} {m : Img} {box : Array Value} {xs ys : List Int} {v v' v0 : Value} {wr w' : World} (h : BRel w m box xs v wr) (hg : Grows (w.heap.size + 1) ys v0 v' wr w') : BRel w m box ys v' w' :=
  ⟨hg.own, h.box.below hg.bel (Nat.lt_succ_self _), h.bel.trans (hg.bel.mono (Nat.le_succ _))⟩
theorem BRel.on {w : World} {m : Img} {box : Array Value} {xs : List Int} {v : Value} {wr w' : World} (h : BRel w m box xs v wr) (hb : Below wr.heap.size wr w') : BRel w m box xs v w' :=
  ⟨own_on h.own hb, h.box.on hb, h.bel.trans (hb.mono (by have := h.size; omega))⟩
theorem BRel.alloc {w : World} {m : Img} {box : Array Value} {xs : List Int} {v : Value} {wr : World} (h : BRel w m box xs v wr) (o : Obj) : BRel w m box xs v (wr.alloc o) := h.on ((Below.refl _ _).alloc (Nat.le_refl _) o)
end Go.Proofs.Ytihhpgklpichgaa.Im
