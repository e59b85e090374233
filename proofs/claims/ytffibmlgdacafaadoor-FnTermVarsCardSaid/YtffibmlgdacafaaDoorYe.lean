/- The law of TermVars over drawn terms: its draw, and what it asks of lists of texts. -/
import Derived.Test.YtffibmlgdacafaaDoorYd
import Derived.Test.YtffibmlgdacafaaDoorYa
import Derived.Test.YtffibmlgdacafaaDoorUy
import Derived.Test.YtffibmlgdacafaaDoorUx
set_option linter.unusedSimpArgs false
set_option linter.unusedVariables false
namespace Go.Proofs.YtffibmlgdacafaaDoor.Um
open Go.RowKit Pl Ft Mm In C2 Im Src

set_option maxHeartbeats 1000000 in
theorem sameTexts_c (xs : List ByteArray) (va vb : Value) (w : World) (ha : SRd w va xs) (hb : SRd w vb xs) (hl : xs.length ≤ 1048576) :
    Calls Tryd.prog 67 #[va, vb] w fun e w' => e = .returned (.bool true) ∧ Below w.heap.size w w' := by
  obtain ⟨a, ca, rfl, ha⟩ := ha
  obtain ⟨b, cb, rfl, hb⟩ := hb
  have HA := hid ha
  have HB := hid hb
  clear ha hb
  go_enter Tryd.func67, Tryd.ntmps67
  go_wp2_with fail
  go_loopw [5] (fun c wr => ∃ k m : Nat, c = .int .i64 k ∧ k ≤ xs.length ∧ wr = w.drewN m) (fun c _ => xs.length - (intOf c).toNat)
  case atStart => exact ⟨0, 0, rfl, by omega, rfl⟩
  case round =>
    obtain ⟨k, m, rfl, hk, rfl⟩ := hrel
    by_cases hlt : k < xs.length
    · rcases HA.out with h | ⟨g, o, rfl, hg, hc⟩
      · subst h; simp at hlt
      rcases HB.out with h | ⟨g2, o2, rfl, hg2, hc2⟩
      · subst h; simp at hlt
      have q1 := hc k hlt
      have q2 := hc2 k hlt
      obtain ⟨s, hs⟩ : ∃ s, xs.getD k ⟨#[]⟩ = s := ⟨_, rfl⟩
      rw [hs] at q1 q2
      have hk1 : (k : Int) < xs.length := by omega
      have hk0 : 0 ≤ (k : Int) := by omega
      clear hc hc2 hs
      go_wp2_with fail
      go_quiet (fail)
      go_wp2_with fail
      go_roundw
      case rel => exact ⟨k + 1, _, by go_num, by omega, rfl⟩
      case measure => simp [intOf]; omega
    · obtain rfl : k = xs.length := by omega
      go_wp2_with fail
      go_ret
      exact ⟨rfl, below_drewN _ _⟩
theorem SameTexts_c (xs : List ByteArray) (va vb : Value) (w : World) (ha : SRd w va xs) (hb : SRd w vb xs) (hl : xs.length ≤ 1048576) :
    Calls Tryd.prog 29 #[va, vb] w fun e w' => e = .returned (.bool true) ∧ Below w.heap.size w w' := by
  have H := hid (And.intro ha hb)
  obtain ⟨a, ca, rfl, _⟩ := ha
  obtain ⟨b, cb, rfl, _⟩ := hb
  go_enter Tryd.func29, Tryd.ntmps29
  go_wp2_with fail
  refine (sameTexts_c xs _ _ w H.out.1 H.out.2 hl).mono ?_
  rintro e w1 ⟨rfl, hb1⟩
  have HB1 := hid hb1
  clear hb1
  go_wp2_with fail
  go_ret
  exact ⟨rfl, HB1.out⟩
theorem InTexts_c (l : List ByteArray) (v : Value) (s : ByteArray) (w : World) (hr : SRd w v l) (hl : l.length ≤ 1048576) :
    Calls Tryd.prog 31 #[v, .string s] w fun e w' => e = .returned (.bool (hasText l s)) ∧ w' = w := by
  have H := hid hr
  obtain ⟨a, ca, rfl, _⟩ := hr
  go_enter Tryd.func31, Tryd.ntmps31
  go_wp2_with fail
  refine (inTexts_c l _ s w H.out hl).mono ?_
  rintro e w1 ⟨rfl, rfl⟩
  obtain ⟨b, hb⟩ : ∃ b, hasText l s = b := ⟨_, rfl⟩
  rw [hb]
  have HBb := hid hb
  clear hb
  go_wp2_with fail
  go_ret
  exact ⟨bool_eq HBb.out.symm, rfl⟩
set_option maxHeartbeats 1000000 in
theorem drawTermVars_c (a : Option Addr) (len cap : Nat) (zs : List Int) (w : World) (hB : Bytes w a len zs) :
    Calls Tryd.prog 26 #[.slice a len cap] w fun e w' => ∃ (t : Tm) (v : Value), e = .returned (tmVal t v) ∧ KRd w' 8 v t.kids ∧ t.wide ≤ 480 ∧ Below w.heap.size w w' := by
  have hal := (Below.refl w.heap.size w).alloc (Nat.le_refl _) (.cells #[.int .i64 0, .int .i64 0, .string ⟨#[]⟩, .slice none 0 0] 28)
  have HB0 := hid hal
  have H := hid (hB.alloc (.cells #[.int .i64 0, .int .i64 0, .string ⟨#[]⟩, .slice none 0 0] 28))
  have HZ0 := hid (Row.new w 28 #[.int .i64 0, .int .i64 0, .string ⟨#[]⟩, .slice none 0 0])
  clear hB hal
  go_enter Tryd.func26, Tryd.ntmps26
  go_wp2_with fail
  refine (from_c a len cap zs _ H.out).mono ?_
  rintro e w1 ⟨sb, rfl, hsb, s1, b1⟩
  have S1 := hid s1
  have HB1 := hid (HB0.out.trans (b1.mono HB0.out.size))
  have HZ1 := hid (HZ0.out.on b1)
  have HSb := hid (show w.heap.size < sb by have := HZ0.out.lt; omega)
  clear s1 b1 hsb
  go_wp2_with fail
  refine (badTerm_c sb a len cap zs 0 w1 S1.out (by omega)).mono ?_
  rintro e w2 ⟨t, vt, k0, rfl, hkp, hwt, hk0, hl0, hs, hm⟩
  obtain ⟨st, ct, rfl⟩ := hkp.slice
  obtain ⟨t0, t1, t2, lt, hp⟩ := Pt.of t
  have HP := hid hp
  rw [hp.val]
  rw [hp.l] at hkp ⊢
  have HZ2 := hid (show Row w2 w.heap.size 28 #[.int .i64 0, .int .i64 0, .string ⟨#[]⟩, .slice none 0 0] from (hm.block _ HZ1.out.lt (by have := HSb.out; omega)).trans HZ1.out)
  have HB2 := hid (hm.below HB1.out (by have := HSb.out; omega) HB1.out.size)
  have HK2 := hid hkp
  have HW := hid hwt
  have hz1 := HZ1.out.lt
  clear hkp hwt hs hm hp
  have r0 := HZ2.out.cell 0
  have r1 := HZ2.out.cell 1
  have r2 := HZ2.out.cell 2
  have r3 := HZ2.out.cell 3
  simp at r0 r1 r2 r3
  have hfr := HZ2.out.free
  go_wp2_with fail
  clear r0 r1 r2 r3 hfr
  refine bodyPost_ret (v := .agg #[.int .i64 t0, .int .i64 t1, .string t2, .slice st lt ct])
    (results_cell_row Tryd.results26 _ _ w.heap.size 28 #[.int .i64 t0, .int .i64 t1, .string t2, .slice st lt ct] (0, 0) _ rfl (four_row HZ2.out (.int .i64 t0) (.int .i64 t1) (.string t2) (.slice st lt ct)) Tryd.underlying28 rfl size_term) rfl ?_
  exact ⟨t, .slice st lt ct, by rw [HP.out.val], (HK2.out.keep (by rw [four_size]; exact Nat.le_refl _) (fun b hb _ => four_far _ _ _ (by omega) _ _ _ _ _ _ _ _)).rd, HW.out, four_bel HB2.out (Nat.le_refl _) _ _ _ _⟩
end Go.Proofs.YtffibmlgdacafaaDoor.Um
