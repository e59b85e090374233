/- slices.Clone of numbers. -/
import Derived.Test.YtiokmebmimgdjaaMp
import Derived.Test.YtiokmebmimgdjaaApp
import Derived.RegionTactic
import Derived.BigRegion
import Derived.WalkSpells
set_option linter.unusedSimpArgs false
set_option linter.unusedVariables false
namespace Go.Proofs.Ytiokmebmimgdjaa.Wk
open Go.RowKit Pl Ft Mm In C2 Im Sw

def WaysPost (l : List Int) (w : World) (e : Ending) (w' : World) : Prop := ∃ v, e = .returned v ∧ w'.ownsRow w.heap.size 3 1 v l.length (ints l) ∧ Below w.heap.size w w'
theorem one_lit (w : World) (l : List Int) (cs : Array Value) (h : cs.toList = ints l) (hl : l.length ≤ 1000) (n : Nat) (hn : n = l.length) {B : Nat} (hB : B ≤ w.heap.size) : (w.alloc (.cells cs 3)).ownsRow B 3 1 (.slice (some ⟨w.heap.size, 0, none⟩) n n) l.length (ints l) := own_mono (own_lit w l cs h hl n hn) hB
set_option maxRecDepth 100000 in
set_option maxHeartbeats 1000000 in
theorem clone_c (xs : List Int) (B : Nat) (v : Value) (w : World) (h : w.ownsRow B 3 1 v xs.length (ints xs)) (hl : xs.length ≤ 1000000) :
    Calls Try.prog 37 #[v] w (WaysPost xs w) := by
  have HO := hid h
  have hq := fun (a : Option Addr) (n c : Nat) (w : World) => Lib.run_eql_slice_nil w 22 3 a n c 0 0 Try.underlying22
  rcases h.2 with ⟨rfl, h0⟩ | ⟨g, cap, cur, rfl, _⟩
  · obtain rfl : xs = [] := List.eq_nil_of_length_eq_zero h0
    clear h
    go_enter Try.func37, Try.ntmps37
    go_wp2_with fail
    go_ret
    exact ⟨_, rfl, World.ownsRow_nil _ _ _ _, Below.refl _ _⟩
  · have HSr := hid (SrcAt.of_rd (Rd.of_own (HO.out.alloc (.cells #[] 3))))
    have HL := hid (own_lit w [] #[] rfl (by simp) 0 rfl)
    have hb := (Below.refl w.heap.size w).alloc (Nat.le_refl _) (.cells #[] 3)
    clear h
    go_enter Try.func37, Try.ntmps37
    go_wp2_with (at_builtin; refine app_ints _ rfl _ _ rfl w.heap.size [] xs _ rfl HL.out _ _ _ rfl rfl HSr.out (by simp; omega) (by simp) ?_)
    intro v2 w2 hg2
    have HG := hid hg2
    obtain ⟨s2, c2, rfl⟩ := own_slice hg2.own
    clear hg2
    go_wp2_with fail
    go_ret
    exact ⟨_, rfl, HG.out.own, hb.trans HG.out.bel⟩
end Go.Proofs.Ytiokmebmimgdjaa.Wk
