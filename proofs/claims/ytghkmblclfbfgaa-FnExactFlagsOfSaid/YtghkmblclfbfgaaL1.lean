/- The walks of chapter 1's laws: each returns true and writes nothing that was there. -/
import Derived.Test.YtghkmblclfbfgaaSrc2
namespace Go.Proofs.Ytghkmblclfbfgaa.L1
open Go.RowKit Pl C1 Src

theorem wordOf_small (a : Option Addr) (len cap : Nat) (zs : List Int) (w : World) (hB : Bytes w a len zs) :
    Calls Try.prog 3 #[.slice a len cap] w fun e w' => e = .returned (.bool true) ∧ Below w.heap.size w w' := by
  have hs := hB.small
  have H := hid hB
  clear hB
  go_enter Try.func3, Try.ntmps3
  go_wp2_with fail
  refine (drawWordOf_c a len cap zs w H.out).mono ?_
  rintro e w1 ⟨n, rfl, hn1, hn2, b1⟩
  go_wp2_with (first | (go_at_call 16; refine (wordOf_c _ _).mono ?_; rintro e w' ⟨rfl, rfl⟩) | (go_at_call 17; refine (sWordOf_c _ _).mono ?_; rintro e w' ⟨rfl, rfl⟩) | (go_at_call 18; refine (signedOf_c _ _).mono ?_; rintro e w' ⟨rfl, rfl⟩))
  go_ret
  have hb := sg_back (n % 65536) (by omega) (by omega)
  exact ⟨bool_eq (by simp; exact hb.1), b1⟩
theorem signedOf_small (a : Option Addr) (len cap : Nat) (zs : List Int) (w : World) (hB : Bytes w a len zs) :
    Calls Try.prog 4 #[.slice a len cap] w fun e w' => e = .returned (.bool true) ∧ Below w.heap.size w w' := by
  have hs := hB.small
  have H := hid hB
  clear hB
  go_enter Try.func4, Try.ntmps4
  go_wp2_with fail
  refine (drawSignedOf_c a len cap zs w H.out).mono ?_
  rintro e w1 ⟨n, rfl, hn1, hn2, b1⟩
  by_cases h0 : 0 ≤ n
  · by_cases h1 : n ≤ 65535
    · have hb := sg_back n h0 h1
      obtain ⟨hb1, hb2, hb3⟩ := hb
      have hb4 : (signedOf n % 65536 == n) = true := by simpa using hb1
      clear hb1
      go_wp2_with (first | (go_at_call 16; refine (wordOf_c _ _).mono ?_; rintro e w' ⟨rfl, rfl⟩) | (go_at_call 20; refine (sSignedOf_c _ _).mono ?_; rintro e w' ⟨rfl, rfl⟩) | (go_at_call 18; refine (signedOf_c _ _).mono ?_; rintro e w' ⟨rfl, rfl⟩))
      go_ret
      exact ⟨bool_eq (by simp), b1⟩
    · go_wp2_with (first | (go_at_call 16; refine (wordOf_c _ _).mono ?_; rintro e w' ⟨rfl, rfl⟩) | (go_at_call 20; refine (sSignedOf_c _ _).mono ?_; rintro e w' ⟨rfl, rfl⟩) | (go_at_call 18; refine (signedOf_c _ _).mono ?_; rintro e w' ⟨rfl, rfl⟩))
      go_ret
      exact ⟨bool_eq (by simp), b1⟩
  · go_wp2_with (first | (go_at_call 16; refine (wordOf_c _ _).mono ?_; rintro e w' ⟨rfl, rfl⟩) | (go_at_call 20; refine (sSignedOf_c _ _).mono ?_; rintro e w' ⟨rfl, rfl⟩) | (go_at_call 18; refine (signedOf_c _ _).mono ?_; rintro e w' ⟨rfl, rfl⟩))
    go_ret
    exact ⟨bool_eq (by simp), b1⟩
theorem lowPut_small (a : Option Addr) (len cap : Nat) (zs : List Int) (w : World) (hB : Bytes w a len zs) :
    Calls Try.prog 5 #[.slice a len cap] w fun e w' => e = .returned (.bool true) ∧ Below w.heap.size w w' := by
  have hs := hB.small
  have H := hid hB
  clear hB
  go_enter Try.func5, Try.ntmps5
  go_wp2_with fail
  refine (drawLowPut_c a len cap zs w H.out).mono ?_
  rintro e w1 ⟨x, y, rfl, ⟨hx1, hx2⟩, ⟨hy1, hy2⟩, b1⟩
  obtain ⟨l0, l1, l2, l3⟩ := low_bd x y hx1 hx2 hy1 hy2
  have l4 : (lowPut (lowPut x y) y == lowPut x y) = true := by simpa using l2
  have L3 := hid l3
  clear l2 l3
  go_wp2_with (first | (go_at_call 22; refine (lowPut_c _ _ _).mono ?_; rintro e w' ⟨rfl, rfl⟩) | (go_at_call 23; refine (sLowPut_c _ _ _).mono ?_; rintro e w' ⟨rfl, rfl⟩) | (go_at_call 24; refine (aluDo_c _ _ _ _).mono ?_; rintro e w2 ⟨rfl, b2⟩; replace b1 := b1.trans (b2.mono b1.size); clear b2))
  all_goals go_ret
  all_goals exact ⟨bool_eq (by first | (simp; done) | (rw [L3.out]; simp)), b1⟩
theorem aluDo_small (a : Option Addr) (len cap : Nat) (zs : List Int) (w : World) (hB : Bytes w a len zs) :
    Calls Try.prog 6 #[.slice a len cap] w fun e w' => e = .returned (.bool true) ∧ Below w.heap.size w w' := by
  have hs := hB.small
  have H := hid hB
  clear hB
  go_enter Try.func6, Try.ntmps6
  go_wp2_with fail
  refine (drawAluDo_c a len cap zs w H.out).mono ?_
  rintro e w1 ⟨op, x, y, rfl, ⟨ho1, ho2⟩, ⟨hx1, hx2⟩, ⟨hy1, hy2⟩, b1⟩
  have hX := isW_mk hx1 hx2
  have hY := isW_mk hy1 hy2
  by_cases h6 : op = 6
  · subst h6
    have e6 : aluDo 6 x y = -1 := by simp [aluDo]
    go_wp2_with (first | (go_at_call 24; refine (aluDo_c _ _ _ _).mono ?_; rintro e w2 ⟨rfl, b2⟩; replace b1 := b1.trans (b2.mono b1.size); clear b2) | (go_at_call 26; refine (sAluDo_c _ _ _ _).mono ?_; rintro e w' ⟨rfl, rfl⟩))
    go_ret
    exact ⟨rfl, b1⟩
  · have hb := alu_bd op x y hX hY
    have ein := aluDo_in op x y ho1 (by omega) hX hY
    rw [← ein] at hb
    clear ein
    obtain ⟨hb1, hb2⟩ := hb
    by_cases h0 : op = 0
    · subst h0
      have k1 : (aluDo 1 (aluDo 0 x y) y != x) = false := by simpa using alu_back0 x y hX hY
      have k2 : (aluDo 0 y x == aluDo 0 x y) = true := by simpa using alu_swap 0 x y (by omega) (by omega) (by omega) hX hY
      go_wp2_with (first | (go_at_call 24; refine (aluDo_c _ _ _ _).mono ?_; rintro e w2 ⟨rfl, b2⟩; replace b1 := b1.trans (b2.mono b1.size); clear b2) | (go_at_call 26; refine (sAluDo_c _ _ _ _).mono ?_; rintro e w' ⟨rfl, rfl⟩))
      go_ret
      exact ⟨rfl, b1⟩
    · by_cases h5 : op = 5
      · subst h5
        have k1 : (aluDo 5 (aluDo 5 x y) y != x) = false := by simpa using alu_back5 x y hX hY
        have k2 : (aluDo 5 y x == aluDo 5 x y) = true := by simpa using alu_swap 5 x y (by omega) (by omega) (by omega) hX hY
        go_wp2_with (first | (go_at_call 24; refine (aluDo_c _ _ _ _).mono ?_; rintro e w2 ⟨rfl, b2⟩; replace b1 := b1.trans (b2.mono b1.size); clear b2) | (go_at_call 26; refine (sAluDo_c _ _ _ _).mono ?_; rintro e w' ⟨rfl, rfl⟩))
        go_ret
        exact ⟨rfl, b1⟩
      · by_cases h1 : op = 1
        · subst h1
          go_wp2_with (first | (go_at_call 24; refine (aluDo_c _ _ _ _).mono ?_; rintro e w2 ⟨rfl, b2⟩; replace b1 := b1.trans (b2.mono b1.size); clear b2) | (go_at_call 26; refine (sAluDo_c _ _ _ _).mono ?_; rintro e w' ⟨rfl, rfl⟩))
          go_ret
          exact ⟨rfl, b1⟩
        · have k2 : (aluDo op y x == aluDo op x y) = true := by simpa using alu_swap op x y ho1 (by omega) h1 hX hY
          go_wp2_with (first | (go_at_call 24; refine (aluDo_c _ _ _ _).mono ?_; rintro e w2 ⟨rfl, b2⟩; replace b1 := b1.trans (b2.mono b1.size); clear b2) | (go_at_call 26; refine (sAluDo_c _ _ _ _).mono ?_; rintro e w' ⟨rfl, rfl⟩))
          go_ret
          exact ⟨rfl, b1⟩
theorem keep {W w1 : World} (hb : Below W.heap.size W w1) {b o : Nat} {v : Value} (h : W.cell? ⟨b, o, none⟩ = some v) : w1.cell? ⟨b, o, none⟩ = some v := by
  rw [hb.cell (p := ⟨b, o, none⟩) (World.block_lt_of_cell? _ _ h)]; exact h
theorem cells3 (w : World) (x y z : Value) (t : TypeId) : (w.alloc (.cells #[x, y, z] t)).cell? ⟨w.heap.size, 0, none⟩ = some x ∧ (w.alloc (.cells #[x, y, z] t)).cell? ⟨w.heap.size, 1, none⟩ = some y ∧ (w.alloc (.cells #[x, y, z] t)).cell? ⟨w.heap.size, 2, none⟩ = some z := by
  refine ⟨?_, ?_, ?_⟩ <;> simp [go_sem]
theorem hol_pair (c : Int) (x y z : Bool) (h0 : 0 ≤ c) (h1 : c ≤ 5) : (hol (c / 2 * 2 + 1 - c % 2) x y z != hol c x y z) = true := by
  rcases ops_of h0 h1 with rfl | rfl | rfl | rfl | rfl | rfl <;> cases x <;> cases y <;> cases z <;> decide
theorem condHolds_small (a : Option Addr) (len cap : Nat) (zs : List Int) (w : World) (hB : Bytes w a len zs) :
    Calls Try.prog 8 #[.slice a len cap] w fun e w' => e = .returned (.bool true) ∧ Below w.heap.size w w' := by
  have hs := hB.small
  have H := hid hB
  clear hB
  go_enter Try.func8, Try.ntmps8
  go_wp2_with fail
  refine (drawCondHolds_c a len cap zs w H.out).mono ?_
  rintro e w1 ⟨c, x, y, z, rfl, ⟨hc1, hc2⟩, b1⟩
  have hp : c ≤ 5 → (hol (c / 2 * 2 + 1 - c % 2) x y z != hol c x y z) = true := fun h => hol_pair c x y z hc1 h
  have HP := hid hp
  clear hp
  by_cases h6 : c = 6
  all_goals
    go_wp2_with fail
    obtain ⟨f0, f1, f2⟩ := cells3 w1 (.bool x) (.bool y) (.bool z) 33
    refine (condHolds_c _ _ _ _ _).mono ?_
    rintro e w2 ⟨rfl, b2⟩
    replace f0 := keep b2 f0
    replace f1 := keep b2 f1
    replace f2 := keep b2 f2
    have b1' := (b1.alloc b1.size _).trans (b2.mono (by have := b1.size; simp; omega))
    clear b2
    go_wp2_with fail
    refine (sCondHolds_c _ _ _ _ _).mono ?_
    rintro e w3 ⟨rfl, b3⟩
    replace f0 := keep b3 f0
    replace f1 := keep b3 f1
    replace f2 := keep b3 f2
    have b2' := b1'.trans (b3.mono b1'.size)
    clear b3
  · subst h6
    go_wp2_with fail
    go_ret
    exact ⟨bool_eq (by simp), b2'⟩
  · have k1 := HP.out (by omega)
    have h5 : c ≤ 5 := by omega
    clear h6
    go_wp2_with fail
    refine (condHolds_c _ _ _ _ _).mono ?_
    rintro e w4 ⟨rfl, b4⟩
    have b3' := b2'.trans (b4.mono b2'.size)
    clear b4
    go_wp2_with fail
    go_ret
    exact ⟨bool_eq (by simpa using k1), b3'⟩
theorem fl_sym (x y : Int) (hx : isW x = true) (hy : isW y = true) (he : x ≠ y) : fEq x y = false ∧ fEq y x = false ∧ (fLess x y != fLess y x) = true ∧ (fLow x y != fLow y x) = true := by
  obtain ⟨x0, x1⟩ := isW_iff.1 hx; obtain ⟨y0, y1⟩ := isW_iff.1 hy
  refine ⟨by simp [fEq, he], by simp [fEq, Ne.symm he], ?_, ?_⟩
  · simp only [fLess, hx, hy, sg, Bool.true_and]
    split <;> split <;> by_cases h : x < y <;> simp <;> omega
  · simp only [fLow, hx, hy, Bool.true_and]
    by_cases h : x < y <;> simp <;> omega
theorem fl_same (x : Int) (hx : isW x = true) : fEq x x = true ∧ fLess x x = false ∧ fLow x x = false := by
  simp [fEq, fLess, fLow, hx]
theorem flagsOf_small (a : Option Addr) (len cap : Nat) (zs : List Int) (w : World) (hB : Bytes w a len zs) :
    Calls Try.prog 7 #[.slice a len cap] w fun e w' => e = .returned (.bool true) ∧ Below w.heap.size w w' := by
  have hs := hB.small
  have H := hid hB
  clear hB
  go_enter Try.func7, Try.ntmps7
  go_wp2_with fail
  refine (drawFlagsOf_c a len cap zs w H.out).mono ?_
  rintro e w1 ⟨x, y, rfl, ⟨hx1, hx2⟩, ⟨hy1, hy2⟩, b1⟩
  have hX := isW_mk hx1 hx2
  have hY := isW_mk hy1 hy2
  by_cases hxy : x = y
  · subst hxy
    obtain ⟨q1, q2, q3⟩ := fl_same x hX
    go_wp2_with fail
    refine (flagsOf_c _ _ _).mono ?_
    rw [q1, q2, q3]
    rintro e w2 ⟨rfl, b2⟩
    have b1' := b1.trans (b2.mono b1.size)
    clear b2
    go_wp2_with fail
    obtain ⟨f0, f1, f2⟩ := cells3 w2 (.bool true) (.bool false) (.bool false) 33
    refine (sFlagsOf_c _ _ _).mono ?_
    rw [q1, q2, q3]
    rintro e w3 ⟨rfl, b3⟩
    replace f0 := keep b3 f0
    replace f1 := keep b3 f1
    replace f2 := keep b3 f2
    have z3 : w2.heap.size < w3.heap.size := by have := b3.size; simp at this; omega
    have b2' := (b1'.alloc b1'.size _).trans (b3.mono (by have := b1'.size; simp; omega))
    clear b3
    go_wp2_with fail
    obtain ⟨g0, g1, g2⟩ : _ ∧ _ ∧ _ := ⟨World.cell?_alloc_past (w := w3) (.cells #[.bool true, .bool false, .bool false] 33) w2.heap.size 0 z3, World.cell?_alloc_past (w := w3) (.cells #[.bool true, .bool false, .bool false] 33) w2.heap.size 1 z3, World.cell?_alloc_past (w := w3) (.cells #[.bool true, .bool false, .bool false] 33) w2.heap.size 2 z3⟩
    rw [f0] at g0
    rw [f1] at g1
    rw [f2] at g2
    clear f0 f1 f2
    refine (flagsOf_c _ _ _).mono ?_
    rw [q1, q2, q3]
    rintro e w4 ⟨rfl, b4⟩
    replace g0 := keep b4 g0
    replace g1 := keep b4 g1
    replace g2 := keep b4 g2
    have z4 : w2.heap.size < w4.heap.size := by have := b4.size; simp at this; omega
    have b3' := (b2'.alloc b2'.size _).trans (b4.mono (by have := b2'.size; simp; omega))
    clear b4
    go_wp2_with fail
    go_ret
    exact ⟨bool_eq (by simp), b3'.alloc b3'.size _⟩
  · obtain ⟨q1, q2, q3, q4⟩ := fl_sym x y hX hY hxy
    obtain ⟨l1, e1⟩ : ∃ l, fLess x y = l := ⟨_, rfl⟩
    obtain ⟨l2, e2⟩ : ∃ l, fLess y x = l := ⟨_, rfl⟩
    obtain ⟨l3, e3⟩ : ∃ l, fLow x y = l := ⟨_, rfl⟩
    obtain ⟨l4, e4⟩ : ∃ l, fLow y x = l := ⟨_, rfl⟩
    rw [e1, e2] at q3
    rw [e3, e4] at q4
    go_wp2_with fail
    refine (flagsOf_c _ _ _).mono ?_
    rw [q1, e1, e3]
    rintro e w2 ⟨rfl, b2⟩
    have b1' := b1.trans (b2.mono b1.size)
    clear b2
    go_wp2_with fail
    obtain ⟨f0, f1, f2⟩ := cells3 w2 (.bool false) (.bool l1) (.bool l3) 33
    refine (sFlagsOf_c _ _ _).mono ?_
    rw [q1, e1, e3]
    rintro e w3 ⟨rfl, b3⟩
    replace f0 := keep b3 f0
    replace f1 := keep b3 f1
    replace f2 := keep b3 f2
    have z3 : w2.heap.size < w3.heap.size := by have := b3.size; simp at this; omega
    have b2' := (b1'.alloc b1'.size _).trans (b3.mono (by have := b1'.size; simp; omega))
    clear b3
    go_wp2_with fail
    obtain ⟨g0, g1, g2⟩ : _ ∧ _ ∧ _ := ⟨World.cell?_alloc_past (w := w3) (.cells #[.bool false, .bool l1, .bool l3] 33) w2.heap.size 0 z3, World.cell?_alloc_past (w := w3) (.cells #[.bool false, .bool l1, .bool l3] 33) w2.heap.size 1 z3, World.cell?_alloc_past (w := w3) (.cells #[.bool false, .bool l1, .bool l3] 33) w2.heap.size 2 z3⟩
    rw [f0] at g0
    rw [f1] at g1
    rw [f2] at g2
    clear f0 f1 f2
    refine (flagsOf_c _ _ _).mono ?_
    rw [q2, e2, e4]
    rintro e w4 ⟨rfl, b4⟩
    replace g0 := keep b4 g0
    replace g1 := keep b4 g1
    replace g2 := keep b4 g2
    have z4 : w2.heap.size < w4.heap.size := by have := b4.size; simp at this; omega
    have b3' := (b2'.alloc b2'.size _).trans (b4.mono (by have := b2'.size; simp; omega))
    clear b4
    cases l1 <;> cases l2 <;> first | (exfalso; revert q3; decide) | skip
    all_goals cases l3 <;> cases l4 <;> first | (exfalso; revert q4; decide) | skip
    all_goals
      go_wp2_with fail
      go_ret
      exact ⟨bool_eq (by simp), b3'.alloc b3'.size _⟩
end Go.Proofs.Ytghkmblclfbfgaa.L1
