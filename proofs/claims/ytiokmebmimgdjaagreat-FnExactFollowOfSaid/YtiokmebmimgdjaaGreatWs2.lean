/- The walk of the model: what was met, as a slice of bools; trues. -/
import Derived.Test.YtiokmebmimgdjaaGreatWs
set_option linter.unusedSimpArgs false
set_option linter.unusedVariables false
namespace Go.Proofs.YtiokmebmimgdjaaGreat.Wk
open Go.RowKit Pl Ft Mm In C2 Im Sw

/-- Block g holds at least n bools: these. -/
def BAt (w : World) (g n : Nat) (f : Nat → Bool) : Prop := ∃ cur, Row w g 4 cur ∧ ∀ j, j < n → cur[j]? = some (.bool (f j))
theorem BAt.cell {w : World} {g n : Nat} {f : Nat → Bool} (h : BAt w g n f) {j : Nat} (hj : j < n) : w.cell? ⟨g, j, none⟩ = some (.bool (f j)) := by
  obtain ⟨cur, hr, hc⟩ := h
  rw [hr.cell j]
  exact hc j hj
theorem BAt.lt {w : World} {g n : Nat} {f : Nat → Bool} (h : BAt w g n f) : g < w.heap.size := by obtain ⟨cur, hr, _⟩ := h; exact hr.lt
theorem BAt.on {w w' : World} {g n : Nat} {f : Nat → Bool} (h : BAt w g n f) (hb : Below w.heap.size w w') : BAt w' g n f := by
  obtain ⟨cur, hr, hc⟩ := h
  exact ⟨cur, hr.on hb, hc⟩
theorem BAt.set {w : World} {g n : Nat} {f : Nat → Bool} (h : BAt w g n f) {p : Nat} (hp : p < n) : BAt (w.setCell ⟨g, p, none⟩ (.bool true)) g n (fun q => f q || q == p) := by
  obtain ⟨cur, hr, hc⟩ := h
  refine ⟨_, hr.set p (.bool true), fun j hj => ?_⟩
  have hps : p < cur.size := by
    have := hc p hp
    exact (Array.getElem?_eq_some_iff.1 this).1
  by_cases hjp : j = p
  · subst hjp
    simp [hps]
  · rw [Array.getElem?_setIfInBounds_ne (fun e => hjp e.symm), hc j hj]
    have : (j == p) = false := by rw [beq_eq_false_iff_ne]; exact hjp
    show _ = some (Value.bool (f j || j == p))
    rw [this, Bool.or_false]
theorem BAt.only {q : Nat → Prop} {w w' : World} {g n : Nat} {f : Nat → Bool} (h : BAt w g n f) (hg : ¬ q g) (ho : Only q w w') : BAt w' g n f := by
  obtain ⟨cur, hr, hc⟩ := h
  exact ⟨cur, row_only hr hg ho, hc⟩
def WaysPost2 (l : List Int) (w : World) (e : Ending) (w' : World) : Prop := ∃ v, e = .returned v ∧ w'.ownsRow w.heap.size 3 1 v l.length (ints l) ∧ Below w.heap.size w w'
def truesL (f : Nat → Bool) (k : Nat) : List Int := ((List.range k).filter f).map fun (j : Nat) => (j : Int)
theorem truesL_yes {f : Nat → Bool} {k : Nat} (h : f k = true) : truesL f (k + 1) = truesL f k ++ [(k : Int)] := by simp [truesL, List.range_succ, h]
theorem truesL_no {f : Nat → Bool} {k : Nat} (h : f k = false) : truesL f (k + 1) = truesL f k := by simp [truesL, List.range_succ, h]
theorem truesL_len (f : Nat → Bool) (k : Nat) : (truesL f k).length ≤ k := by
  unfold truesL
  rw [List.length_map]
  exact Nat.le_trans (List.length_filter_le _ _) (by simp)
set_option maxRecDepth 100000 in
set_option maxHeartbeats 1000000 in
theorem trues_c (n g cap : Nat) (f : Nat → Bool) (w : World) (h : BAt w g n f) (hn : n ≤ 2000) :
    Calls Tryz.prog 58 #[.slice (some ⟨g, 0, none⟩) n cap] w (WaysPost2 (truesL f n) w) := by
  have HB := hid h
  have hgl := h.lt
  clear h
  have HB0 := hid ((Below.refl w.heap.size w).alloc (Nat.le_refl _) (.cells #[] 3))
  have HL := hid (own_lit w [] #[] rfl (by simp) 0 rfl)
  go_enter Tryz.func58, Tryz.ntmps58
  go_wp2_with fail
  go_loopw [3, 4] (fun v c wr => ∃ (k : Nat) (xs : List Int), c = .int .i64 k ∧ k ≤ n ∧ xs = truesL f k ∧ wr.ownsRow w.heap.size 3 1 v xs.length (ints xs) ∧ Below w.heap.size w wr) (fun _ c _ => n - (intOf c).toNat)
  case atStart => exact ⟨0, [], rfl, by omega, rfl, HL.out, HB0.out⟩
  case round =>
    obtain ⟨k, xs, rfl, hk, hxs, hown, hbel⟩ := hrel
    have HO := hid hown
    have HBe := hid hbel
    have HX := hid hxs
    have hxl : xs.length ≤ k := by rw [hxs]; exact truesL_len f k
    have hz := hbel.size
    have HBr := hid (HB.out.on hbel)
    obtain ⟨sv, cv, rfl⟩ := own_slice hown
    clear hown hbel hxs
    by_cases hlt : k < n
    · have hc := HBr.out.cell hlt
      cases hf : f k
      · rw [hf] at hc
        have HF := hid (truesL_no hf)
        clear hf
        go_wp2_with fail
        go_roundw
        case rel => exact ⟨k + 1, xs, by go_num, by omega, by rw [HF.out]; exact HX.out, HO.out, HBe.out⟩
        case measure => simp [intOf]; omega
      · rw [hf] at hc
        have HF := hid (truesL_yes hf)
        clear hf
        go_wp2_with (at_builtin; refine app_ints _ rfl _ _ rfl w.heap.size xs [(k : Int)] _ rfl (HO.out.alloc _) _ _ _ rfl rfl (SrcAt.at_ _ [(k : Int)] #[.int .i64 k] _ 1 rfl (by simp) rfl) (by simp; omega) (by simp; omega) ?_)
        intro v2 w2 hg2
        have HO2 := hid hg2.own
        have HB2 := hid ((HBe.out.alloc HBe.out.size (.cells #[.int .i64 k] 3)).trans hg2.bel)
        obtain ⟨s2, c2, rfl⟩ := own_slice hg2.own
        clear hg2 hc
        go_wp2_with fail
        go_roundw
        case rel => exact ⟨k + 1, xs ++ [(k : Int)], by go_num, by omega, by rw [HF.out, HX.out], HO2.out, HB2.out⟩
        case measure => simp [intOf]; omega
    · obtain rfl : k = n := by omega
      have HX2 := HX.out
      go_wp2_with fail
      go_ret
      exact ⟨_, rfl, by rw [← HX2]; exact HO.out, HBe.out⟩
end Go.Proofs.YtiokmebmimgdjaaGreat.Wk
