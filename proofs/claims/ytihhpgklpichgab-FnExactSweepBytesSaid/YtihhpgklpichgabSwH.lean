/- The laws' own helpers over lines of a listing: szLineS, eqLineS, markLineS, heldLineS · The laws' own helpers over lines of a listing: eqLineS, markLineS, heldLineS · The laws' own helper over lines of a listing: heldLineS. -/
import Derived.Test.YtihhpgklpichgabSw
import Derived.Test.YtihhpgklpichgabMark
import Derived.Test.YtihhpgklpichgabL2
import Derived.Test.YtihhpgklpichgabHarn
set_option linter.unusedSimpArgs false
set_option linter.unusedVariables false
namespace Go.Proofs.Ytihhpgklpichgab.Sw
open Go.RowKit Pl Ft Mm In C2 Im

theorem eqIns_c (i : IIns) (w : World) : Calls Try.prog 18 #[i.val, i.val] w fun e w' => e = .returned (.bool true) ∧ Below w.heap.size w w' := by
  obtain ⟨op, a, b, n⟩ := i
  unfold IIns.val
  simp only
  go_enter Try.func18, Try.ntmps18
  go_wp2_with fail
  go_ret
  exact ⟨rfl, by have := (Below.refl w.heap.size w).alloc (Nat.le_refl _) (.cells #[.int .i64 op, .int .i64 a, .int .i64 b, .int .i64 n] 24); exact this.alloc this.size _⟩
def ILine.arr (l : ILine) : Array Value := #[.int .i64 l.at_, .bool l.is, .int .i64 l.ins.op, .int .i64 l.ins.a, .int .i64 l.ins.b, .int .i64 l.ins.n, .int .i64 l.byte]
theorem eqLine_c (l : ILine) (w : World) : Calls Try.prog 97 #[.agg l.arr, .agg l.arr] w fun e w' => e = .returned (.bool true) ∧ Below w.heap.size w w' := by
  obtain ⟨at_, is, ⟨op, a, b, n⟩, byte⟩ := l
  unfold ILine.arr
  simp only
  have ha1 := (Below.refl w.heap.size w).alloc (Nat.le_refl _) (.cells #[.int .i64 at_, .bool is, .int .i64 op, .int .i64 a, .int .i64 b, .int .i64 n, .int .i64 byte] 110)
  have HB0 := hid (ha1.alloc ha1.size (.cells #[.int .i64 at_, .bool is, .int .i64 op, .int .i64 a, .int .i64 b, .int .i64 n, .int .i64 byte] 110))
  have HX0 := hid ((Row.new w 110 #[.int .i64 at_, .bool is, .int .i64 op, .int .i64 a, .int .i64 b, .int .i64 n, .int .i64 byte]).alloc (.cells #[.int .i64 at_, .bool is, .int .i64 op, .int .i64 a, .int .i64 b, .int .i64 n, .int .i64 byte] 110))
  have HY0 := hid (Row.new (w.alloc (.cells #[.int .i64 at_, .bool is, .int .i64 op, .int .i64 a, .int .i64 b, .int .i64 n, .int .i64 byte] 110)) 110 #[.int .i64 at_, .bool is, .int .i64 op, .int .i64 a, .int .i64 b, .int .i64 n, .int .i64 byte])
  simp only [World.size_alloc] at HY0
  clear ha1
  go_enter Try.func97, Try.ntmps97
  go_wp2_with fail
  refine (eqIns_c ⟨op, a, b, n⟩ _).mono ?_
  rintro e w1 ⟨rfl, hb1⟩
  have HB1 := hid (HB0.out.trans (hb1.mono HB0.out.size))
  have HX1 := hid (HX0.out.on hb1)
  have HY1 := hid (HY0.out.on hb1)
  clear hb1
  have x6 := HX1.out.cell 6
  have y6 := HY1.out.cell 6
  simp at x6 y6
  go_wp2_with fail
  go_ret
  exact ⟨rfl, HB1.out⟩
end Go.Proofs.Ytihhpgklpichgab.Sw
namespace Go.Proofs.Ytihhpgklpichgab.Sw
open Go.RowKit Pl Ft Mm In C2 Im

set_option maxHeartbeats 2000000 in
theorem eqLineS_c (l : List ILine) (va vb : Value) (w : World) (ha : CRd w va l.length (lnCells l)) (hb : CRd w vb l.length (lnCells l)) (hl : l.length ≤ 1048576) :
    Calls Try.prog 45 #[va, vb] w fun e w' => e = .returned (.bool true) ∧ Below w.heap.size w w' := by
  obtain ⟨a, ca, rfl, ha⟩ := ha
  obtain ⟨b, cb, rfl, hb⟩ := hb
  have HA := hid ha
  have HB := hid hb
  clear ha hb
  go_enter Try.func45, Try.ntmps45
  go_wp2_with fail
  go_loopw [5] (fun c wr => ∃ k : Nat, c = .int .i64 k ∧ k ≤ l.length ∧ Below w.heap.size w wr) (fun c _ => l.length - (intOf c).toNat)
  case atStart => exact ⟨0, rfl, by omega, Below.refl _ _⟩
  case round =>
    obtain ⟨k, rfl, hk, hbel⟩ := hrel
    have HBe := hid hbel
    have hz := hbel.size
    clear hbel
    by_cases hlt : k < l.length
    · rcases HA.out with h | ⟨g, o, rfl, hg, hc⟩
      · omega
      rcases HB.out with h | ⟨g2, o2, rfl, hg2, hc2⟩
      · omega
      obtain ⟨c0, c1, c2, c3, c4, c5, c6⟩ := lnCells_get l k hlt
      have q0 := (HBe.out.cell (p := ⟨g, o + (k * 7), none⟩) hg).trans (hc _ _ c0)
      have q1 := (HBe.out.cell (p := ⟨g, o + (k * 7 + 1), none⟩) hg).trans (hc _ _ c1)
      have q2 := (HBe.out.cell (p := ⟨g, o + (k * 7 + 2), none⟩) hg).trans (hc _ _ c2)
      have q3 := (HBe.out.cell (p := ⟨g, o + (k * 7 + 3), none⟩) hg).trans (hc _ _ c3)
      have q4 := (HBe.out.cell (p := ⟨g, o + (k * 7 + 4), none⟩) hg).trans (hc _ _ c4)
      have q5 := (HBe.out.cell (p := ⟨g, o + (k * 7 + 5), none⟩) hg).trans (hc _ _ c5)
      have q6 := (HBe.out.cell (p := ⟨g, o + (k * 7 + 6), none⟩) hg).trans (hc _ _ c6)
      have r0 := (HBe.out.cell (p := ⟨g2, o2 + (k * 7), none⟩) hg2).trans (hc2 _ _ c0)
      have r1 := (HBe.out.cell (p := ⟨g2, o2 + (k * 7 + 1), none⟩) hg2).trans (hc2 _ _ c1)
      have r2 := (HBe.out.cell (p := ⟨g2, o2 + (k * 7 + 2), none⟩) hg2).trans (hc2 _ _ c2)
      have r3 := (HBe.out.cell (p := ⟨g2, o2 + (k * 7 + 3), none⟩) hg2).trans (hc2 _ _ c3)
      have r4 := (HBe.out.cell (p := ⟨g2, o2 + (k * 7 + 4), none⟩) hg2).trans (hc2 _ _ c4)
      have r5 := (HBe.out.cell (p := ⟨g2, o2 + (k * 7 + 5), none⟩) hg2).trans (hc2 _ _ c5)
      have r6 := (HBe.out.cell (p := ⟨g2, o2 + (k * 7 + 6), none⟩) hg2).trans (hc2 _ _ c6)
      obtain ⟨⟨l0, l1, ⟨l2, l3, l4, l5⟩, l6⟩, hln⟩ : ∃ n, l.getD k .none = n := ⟨_, rfl⟩
      rw [hln] at q0 q1 q2 q3 q4 q5 q6 r0 r1 r2 r3 r4 r5 r6
      simp only [← Nat.add_assoc] at q0 q1 q2 q3 q4 q5 q6 r0 r1 r2 r3 r4 r5 r6
      have hk1 : (k : Int) < l.length := by omega
      have hk0 : 0 ≤ (k : Int) := by omega
      clear hc hc2 c0 c1 c2 c3 c4 c5 c6 hln
      go_wp2_with fail
      go_region_with (go_at_call 97; refine (eqLine_c ⟨l0, l1, ⟨l2, l3, l4, l5⟩, l6⟩ _).mono ?_; rintro e w1 ⟨rfl, hb1⟩)
      all_goals
        have HB1 := hid (HBe.out.drew.trans (hb1.mono hz))
        clear hb1 q0 q1 q2 q3 q4 q5 q6 r0 r1 r2 r3 r4 r5 r6
        go_wp2_with fail
        go_roundw
        case rel => exact ⟨k + 1, by go_num, by omega, HB1.out⟩
        case measure => simp [intOf]; omega
    · obtain rfl : k = l.length := by omega
      go_wp2_with fail
      go_ret
      exact ⟨rfl, HBe.out⟩
def lnMark (q : Nat) : ILine := ⟨(q : Int), ((q : Int) + 1) % 3 == 0, ⟨(q : Int) + 1 + 1, (q : Int) + 1 + 1 + 1, (q : Int) + 1 + 1 + 1 + 1, (q : Int) + 1 + 1 + 1 + 1 + 1⟩, (q : Int) + 1 + 1 + 1 + 1 + 1 + 1⟩
def lnMarks (s n : Nat) : List ILine := (List.range n).map fun j => lnMark (s + 7 * j)
theorem lnMarks_len (s n : Nat) : (lnMarks s n).length = n := by simp [lnMarks]
theorem lnMarks_get (s n j : Nat) (h : j < n) : (lnMarks s n).getD j .none = lnMark (s + 7 * j) := by simp [lnMarks, h]
theorem lnMarks_succ (s k : Nat) : lnMarks s (k + 1) = lnMarks s k ++ [lnMark (s + 7 * k)] := by simp [lnMarks, List.range_succ]
theorem sets7 {A R : List Value} {n : Nat} (hn : A.length = n) (a0 a1 a2 a3 a4 a5 a6 b0 b1 b2 b3 b4 b5 b6 : Value) :
    (((((((A ++ a0 :: a1 :: a2 :: a3 :: a4 :: a5 :: a6 :: R).set n b0).set (n + 1) b1).set (n + 2) b2).set (n + 3) b3).set (n + 4) b4).set (n + 5) b5).set (n + 6) b6 = A ++ b0 :: b1 :: b2 :: b3 :: b4 :: b5 :: b6 :: R := by
  subst hn
  simp [List.set_append]
theorem lnMark_step (s : Nat) (l : List ILine) (k q : Nat) (h : k < l.length) (hq : q = s + 7 * k) :
    (((((((lnCells (lnMarks s k ++ l.drop k)).set (k * 7) (.int .i64 q)).set (k * 7 + 1) (.bool (((q : Int) + 1) % 3 == 0))).set (k * 7 + 2) (.int .i64 ((q : Int) + 1 + 1))).set (k * 7 + 2 + 1) (.int .i64 ((q : Int) + 1 + 1 + 1))).set (k * 7 + 2 + 2) (.int .i64 ((q : Int) + 1 + 1 + 1 + 1))).set (k * 7 + 2 + 3) (.int .i64 ((q : Int) + 1 + 1 + 1 + 1 + 1))).set (k * 7 + 6) (.int .i64 ((q : Int) + 1 + 1 + 1 + 1 + 1 + 1)) = lnCells (lnMarks s (k + 1) ++ l.drop (k + 1)) := by
  have e : l.drop k = l[k] :: l.drop (k + 1) := List.drop_eq_getElem_cons h
  have n1 : k * 7 + 2 + 1 = k * 7 + 3 := rfl
  have n2 : k * 7 + 2 + 2 = k * 7 + 4 := rfl
  have n3 : k * 7 + 2 + 3 = k * 7 + 5 := rfl
  rw [n1, n2, n3]
  have hl : (lnCells (lnMarks s k)).length = k * 7 := by rw [lnCells_len, lnMarks_len]
  have e3 : ∀ (x : ILine) (r : List ILine), lnCells (lnMarks s k ++ x :: r) = lnCells (lnMarks s k) ++ (.int .i64 x.at_ :: .bool x.is :: .int .i64 x.ins.op :: .int .i64 x.ins.a :: .int .i64 x.ins.b :: .int .i64 x.ins.n :: .int .i64 x.byte :: lnCells r) := by
    intro x r
    simp only [lnCells, List.flatMap_append, List.flatMap_cons, ILine.cells, List.cons_append, List.nil_append]
  rw [e, lnMarks_succ, List.append_assoc, List.singleton_append, e3, e3, sets7 hl, hq]
  rfl
set_option maxHeartbeats 4000000 in
theorem markLineS_c (B s : Nat) (l : List ILine) (v : Value) (w : World) (hown : w.ownsRow B 110 7 v l.length (lnCells l)) (hl : l.length ≤ 1048576) (hs : s ≤ 16777216) :
    Calls Try.prog 46 #[v, .int .i64 s] w fun e w' => e = .returned (.int .i64 ((s + 7 * l.length : Nat) : Int)) ∧ w'.ownsRow B 110 7 v l.length (lnCells (lnMarks s l.length)) ∧ Only (fun g => v.ownBlock = some g) w w' := by
  obtain ⟨va, cap, rfl⟩ := own_slice hown
  have HO := hid hown
  clear hown
  go_enter Try.func46, Try.ntmps46
  go_wp2
  go_loopw [1, 5] (fun y c wr => ∃ k q : Nat, c = .int .i64 k ∧ y = .int .i64 q ∧ q = s + 7 * k ∧ k ≤ l.length ∧ wr.ownsRow B 110 7 (.slice va l.length cap) l.length (lnCells (lnMarks s k ++ l.drop k)) ∧ Only (fun g => (Value.slice va l.length cap).ownBlock = some g) w wr) (fun _ c _ => l.length - (intOf c).toNat)
  case atStart => exact ⟨0, s, rfl, rfl, by omega, by omega, by simpa [lnMarks] using HO.out, Only.refl _ _⟩
  case round =>
    obtain ⟨k, q, rfl, rfl, hq, hk, hown, hbel⟩ := hrel
    by_cases hlt : k < l.length
    · obtain ⟨g, cap', hv, hg1, hg2⟩ := own_addr hown (by omega)
      have ha : va = some ⟨g, 0, none⟩ := by simp at hv; exact hv.1
      subst ha
      have hq1 : q ≤ 28874368 := by omega
      have HQ := hid hq
      have hlen : k * 7 + 6 < (lnCells (lnMarks s k ++ l.drop k)).length := by rw [lnCells_len, List.length_append, lnMarks_len, List.length_drop]; omega
      have hc0 := hown.cellAt (k * 7) (by omega)
      have hc1 := hown.cellAt (k * 7 + 1) (by omega)
      have hc2 := hown.cellAt (k * 7 + 2) (by omega)
      have hc3 := hown.cellAt (k * 7 + 2 + 1) (by omega)
      have hc4 := hown.cellAt (k * 7 + 2 + 2) (by omega)
      have hc5 := hown.cellAt (k * 7 + 2 + 3) (by omega)
      have hc6 := hown.cellAt (k * 7 + 6) (by omega)
      have hsome : ∀ j, j ≤ 6 → ∃ u, (lnCells (lnMarks s k ++ l.drop k))[k * 7 + j]? = some u := fun j hj => ⟨_, List.getElem?_eq_getElem (by omega)⟩
      obtain ⟨u0, hu0⟩ := hsome 0 (by omega)
      obtain ⟨u1, hu1⟩ := hsome 1 (by omega)
      obtain ⟨u2, hu2⟩ := hsome 2 (by omega)
      obtain ⟨u3, hu3⟩ : ∃ u, (lnCells (lnMarks s k ++ l.drop k))[k * 7 + 2 + 1]? = some u := hsome 3 (by omega)
      obtain ⟨u4, hu4⟩ : ∃ u, (lnCells (lnMarks s k ++ l.drop k))[k * 7 + 2 + 2]? = some u := hsome 4 (by omega)
      obtain ⟨u5, hu5⟩ : ∃ u, (lnCells (lnMarks s k ++ l.drop k))[k * 7 + 2 + 3]? = some u := hsome 5 (by omega)
      obtain ⟨u6, hu6⟩ := hsome 6 (by omega)
      rw [Nat.add_zero] at hu0
      rw [hu0] at hc0
      rw [hu1] at hc1
      rw [hu2] at hc2
      rw [hu3] at hc3
      rw [hu4] at hc4
      rw [hu5] at hc5
      rw [hu6] at hc6
      have hf0 := hown.frozenAt (k * 7)
      have hf1 := hown.frozenAt (k * 7 + 1)
      have hf2 := hown.frozenAt (k * 7 + 2)
      have hf3 := hown.frozenAt (k * 7 + 2 + 1)
      have hf4 := hown.frozenAt (k * 7 + 2 + 2)
      have hf5 := hown.frozenAt (k * 7 + 2 + 3)
      have hf6 := hown.frozenAt (k * 7 + 6)
      have hst := ((((((hown.stored (k * 7) (.int .i64 q)).1.stored (k * 7 + 1) (.bool (((q : Int) + 1) % 3 == 0))).1.stored (k * 7 + 2) (.int .i64 ((q : Int) + 1 + 1))).1.stored (k * 7 + 2 + 1) (.int .i64 ((q : Int) + 1 + 1 + 1))).1.stored (k * 7 + 2 + 2) (.int .i64 ((q : Int) + 1 + 1 + 1 + 1))).1.stored (k * 7 + 2 + 3) (.int .i64 ((q : Int) + 1 + 1 + 1 + 1 + 1))).1.stored (k * 7 + 6) (.int .i64 ((q : Int) + 1 + 1 + 1 + 1 + 1 + 1))
      rw [lnMark_step s l k q hlt hq] at hst
      have HS := hid hst
      have HB2 := hid (((((((hbel.setCell (g := g) rfl (k * 7) (.int .i64 q)).setCell (g := g) rfl (k * 7 + 1) (.bool (((q : Int) + 1) % 3 == 0))).setCell (g := g) rfl (k * 7 + 2) (.int .i64 ((q : Int) + 1 + 1))).setCell (g := g) rfl (k * 7 + 2 + 1) (.int .i64 ((q : Int) + 1 + 1 + 1))).setCell (g := g) rfl (k * 7 + 2 + 2) (.int .i64 ((q : Int) + 1 + 1 + 1 + 1))).setCell (g := g) rfl (k * 7 + 2 + 3) (.int .i64 ((q : Int) + 1 + 1 + 1 + 1 + 1))).setCell (g := g) rfl (k * 7 + 6) (.int .i64 ((q : Int) + 1 + 1 + 1 + 1 + 1 + 1)))
      clear hst hown hbel hv hlen hu0 hu1 hu2 hu3 hu4 hu5 hu6 hsome hq
      go_wp2_with fail
      go_roundw
      case rel =>
        refine ⟨k + 1, q + 7, by go_num, by go_num, by have := HQ.out; omega, by omega, ?_, ?_⟩
        · first | with_reducible exact HS.out.1 | (trace_state; sorry)
        · first | with_reducible exact HB2.out | sorry
      case measure => simp [intOf]; omega
    · obtain rfl : k = l.length := by omega
      have HO2 := hid hown
      have HB2 := hid hbel
      have HQ := hid hq
      clear hown hbel hq
      go_wp2_with fail
      go_ret
      exact ⟨int_eq (by have := HQ.out; omega), by simpa using HO2.out, HB2.out⟩
end Go.Proofs.Ytihhpgklpichgab.Sw
namespace Go.Proofs.Ytihhpgklpichgab.Sw
open Go.RowKit Pl Ft Mm In C2 Im

set_option maxRecDepth 100000 in
set_option maxHeartbeats 2000000 in
theorem heldLineS_c (s n : Nat) (v : Value) (w : World) (ha : CRd w v n (lnCells (lnMarks s n))) (hl : n ≤ 1048576) (hs : s ≤ 16777216) :
    Calls Try.prog 47 #[v, .int .i64 s] w fun e w' => e = .returned (.int .i64 ((s + 7 * n : Nat) : Int)) ∧ w = w' := by
  obtain ⟨a, ca, rfl, ha⟩ := ha
  have HA := hid ha
  clear ha
  go_enter Try.func47, Try.ntmps47
  go_wp2
  go_loop [1, 5] (fun y c => ∃ k q : Nat, c = .int .i64 k ∧ y = .int .i64 q ∧ q = s + 7 * k ∧ k ≤ n) (fun _ c => n - (intOf c).toNat)
  case atStart => exact ⟨0, s, rfl, rfl, by omega, by omega⟩
  case round =>
    obtain ⟨k, q, rfl, rfl, hq, hk⟩ := hrel
    by_cases hlt : k < n
    · rcases HA.out with h | ⟨g, o, rfl, hg, hc⟩
      · omega
      have hq1 : q ≤ 28874368 := by omega
      obtain ⟨c0, c1, c2, c3, c4, c5, c6⟩ := lnCells_get (lnMarks s n) k (by rw [lnMarks_len]; exact hlt)
      rw [lnMarks_get s n k hlt, ← hq] at c0 c1 c2 c3 c4 c5 c6
      have q0 := hc _ _ c0
      have q1 := hc _ _ c1
      have q2 := hc _ _ c2
      have q3 : w.cell? ⟨g, o + (k * 7 + 2 + 1), none⟩ = _ := hc _ _ c3
      have q4 : w.cell? ⟨g, o + (k * 7 + 2 + 2), none⟩ = _ := hc _ _ c4
      have q5 : w.cell? ⟨g, o + (k * 7 + 2 + 3), none⟩ = _ := hc _ _ c5
      have q6 := hc _ _ c6
      unfold lnMark at q0 q1 q2 q3 q4 q5 q6
      simp only at q0 q1 q2 q3 q4 q5 q6
      rw [← Nat.add_assoc] at q1 q2 q6
      rw [← Nat.add_assoc, ← Nat.add_assoc] at q3 q4 q5
      have HQ := hid hq
      clear hc c0 c1 c2 c3 c4 c5 c6 hq
      go_wp2_with fail
      go_round
      case rel => exact ⟨k + 1, q + 7, by go_num, by go_num, by have := HQ.out; omega, by omega⟩
      case measure => simp [intOf]; omega
    · obtain rfl : k = n := by omega
      have HQ := hid hq
      clear hq
      go_wp2_with fail
      go_ret
      exact ⟨int_eq (by have := HQ.out; omega), rfl⟩
end Go.Proofs.Ytihhpgklpichgab.Sw
