/- FnInsAt: the walk. -/
import Derived.Test.YtihhpgklpichgabDraw3
import Derived.Test.YtihhpgklpichgabBack
import Derived.Test.YtihhpgklpichgabL2d
import Derived.Test.YtihhpgklpichgabL2f
import Derived.Test.YtihhpgklpichgabRdr
set_option linter.unusedSimpArgs false
set_option linter.unusedVariables false
namespace Go.Proofs.Ytihhpgklpichgab.C2
open Go.RowKit Pl Ft Mm Src In Im

theorem src_rd {w : World} {a : Option Addr} {c : Nat} {ys : List Int} (h : SrcAt w a ys.length 1 (ints ys)) : ∃ v, Rd w (.slice a ys.length c) ys ∧ v = Value.slice a ys.length c := by
  refine ⟨_, ⟨a, c, rfl, ?_⟩, rfl⟩
  rcases h.2 with h0 | ⟨ad, rfl, hc⟩
  · exact .inl (List.eq_nil_of_length_eq_zero h0)
  · by_cases hn : ys = []
    · exact .inl hn
    · have hp : 0 < ys.length := List.length_pos_iff.2 hn
      have c0 := hc 0 _ (show (ints ys)[0]? = some (.int .i64 ys[0]) by simp [ints, hp])
      have e0 : ad.add 0 = ad := rfl
      rw [e0] at c0
      have hs := cell_spot c0
      refine .inr ⟨ad.block, ad.off, by rw [← hs], cell_lt c0, fun j hj => ?_⟩
      rw [← add_none, ← hs]
      exact hc j _ (by simp [ints, hj])
set_option maxRecDepth 100000 in
set_option maxHeartbeats 2000000 in
theorem insAtLaw_w (a : Option Addr) (len cap : Nat) (zs : List Int) (w : World) (hB : Bytes w a len zs) :
    Calls Try.prog 6 #[.slice a len cap] w fun e w' => e = .returned (.bool true) ∧ Below w.heap.size w w' := by
  have hs := hB.small
  have H := hid hB
  clear hB
  go_enter Try.func6, Try.ntmps6
  go_wp2_with fail
  refine (drawInsAt_c a len cap zs w H.out).mono ?_
  rintro e w1 ⟨v, xs, at_, rfl, hown, hxl, hat0, hat1, b1⟩
  obtain ⟨sx, cx, rfl⟩ := own_slice hown
  have HCap := hid (own_cap2 hown)
  have hcx := (own_cap2 hown) _ _ _ rfl
  have HX1 := hid hown
  have B1 := hid b1
  clear hown b1
  have HEq := hid (insAt_eq xs at_)
  obtain ⟨o, ho⟩ : ∃ o, insAt xs at_ = o := ⟨_, rfl⟩
  have HO := hid ho
  obtain ⟨⟨jop, ja, jb, jn⟩, hj⟩ : ∃ i, o.getD insZero = i := ⟨_, rfl⟩
  have HJ := hid hj
  have HV := hid (show insVal o = .tuple #[.agg #[.int .i64 jop, .int .i64 ja, .int .i64 jb, .int .i64 jn], .bool o.isSome] by unfold insVal; rw [hj]; rfl)
  clear ho hj
  go_wp2_with fail
  refine (insAt_c xs (.slice sx xs.length cx) at_ _ (.of_own HX1.out) HCap.out (by omega)).mono ?_
  rintro e w2 ⟨rfl, hb2⟩
  have HX2 := hid (own_on HX1.out hb2)
  have B2 := hid (B1.out.trans (hb2.mono B1.out.size))
  clear hb2
  rw [HO.out, HV.out]
  go_wp2_with fail
  have hal := (Below.refl w2.heap.size w2).alloc (Nat.le_refl _) (.cells #[.int .i64 jop, .int .i64 ja, .int .i64 jb, .int .i64 jn] 24)
  have HR3 := hid (Row.new w2 24 #[.int .i64 jop, .int .i64 ja, .int .i64 jb, .int .i64 jn])
  have HX3 := hid (own_on HX2.out hal)
  have B3 := hid (B2.out.trans (hal.mono B2.out.size))
  obtain ⟨rg, hrg⟩ : ∃ g, w2.heap.size = g := ⟨_, rfl⟩
  rw [hrg] at HR3 ⊢
  clear hal hrg
  generalize w2.alloc (.cells #[.int .i64 jop, .int .i64 ja, .int .i64 jb, .int .i64 jn] 24) = w3 at HR3 HX3 B3 ⊢
  refine (sInsAt_c xs (.slice sx xs.length cx) at_ _ (.of_own HX3.out) (by omega)).mono ?_
  rintro e w4 ⟨rfl, hb4⟩
  have HX4 := hid (own_on HX3.out hb4)
  have HR4 := hid (HR3.out.on hb4)
  have B4 := hid (B3.out.trans (hb4.mono B3.out.size))
  clear hb4
  rw [← HEq.out, HO.out, HV.out]
  have hrl := HR4.out.lt
  have x0 := HR4.out.cell 0
  have x1 := HR4.out.cell 1
  have x2 := HR4.out.cell 2
  have x3 := HR4.out.cell 3
  simp at x0 x1 x2 x3
  have heq := eql_ins ⟨jop, ja, jb, jn⟩
  have hgn := fun bo x y => guard_ins bo x y #[.int .i64 jop, .int .i64 ja, .int .i64 jb, .int .i64 jn] #[.int .i64 jop, .int .i64 ja, .int .i64 jb, .int .i64 jn]
  simp only at heq
  have HX5 := hid (HX4.out.alloc (.cells #[.int .i64 jop, .int .i64 ja, .int .i64 jb, .int .i64 jn] 24))
  have B5 := hid (B4.out.alloc B4.out.size (.cells #[.int .i64 jop, .int .i64 ja, .int .i64 jb, .int .i64 jn] 24))
  cases o with
  | none =>
    simp only [Option.isSome_none]
    go_wp2_with fail
    go_ret
    exact ⟨rfl, B5.out⟩
  | some i =>
    obtain rfl : i = ⟨jop, ja, jb, jn⟩ := HJ.out
    simp only [Option.isSome_some]
    have hfact : 0 ≤ at_ ∧ at_ < xs.length ∧ isCode xs = true ∧ insIn xs at_.toNat = some ⟨jop, ja, jb, jn⟩ := by
      have h := HO.out
      unfold insAt at h
      split at h
      · rename_i hc
        simp only [Bool.and_eq_true, decide_eq_true_eq] at hc
        exact ⟨hc.2.1, hc.2.2, hc.1, h⟩
      · cases h
    obtain ⟨ha0, ha1, hcode, hin⟩ := hfact
    obtain ⟨p, rfl⟩ := Int.eq_ofNat_of_zero_le ha0
    rw [Int.toNat_natCast] at hin
    have hbytes : xs.all isByte = true := by simp only [isCode, Bool.and_eq_true] at hcode; exact hcode.2
    obtain ⟨l, hl1, hl2, hl3⟩ := read_put hbytes (by omega) (by omega) hin
    have hl5 := insPut_pos hl1
    obtain ⟨hl0, hl5⟩ := hl5
    have HL1 := hid hl1
    have HL2 := hid hl2
    clear hl1 hl2 hin hcode hbytes
    go_wp2_with fail
    refine (insPut_c ⟨jop, ja, jb, jn⟩ (p : Int) _).mono ?_
    rw [HL1.out]
    rintro e w6 ⟨vb, rfl, hb6, hnil, hown⟩
    have HBk := hid (hown l rfl)
    have HX6 := hid (own_on HX5.out hb6)
    have B6 := hid (B5.out.trans (hb6.mono B5.out.size))
    obtain ⟨sb, cb, rfl⟩ := own_slice HBk.out
    obtain ⟨a', hsl, hsrc⟩ := slice_any sx xs cx p (p + l.length) hcx (by omega) hl3 ((p : Int) + l.length) (by omega)
    rw [Nat.add_sub_cancel_left] at hsl hsrc
    have HSr := hid (hsrc w6 (.of_own HX6.out))
    rw [← HL2.out] at HSr
    clear hb6 hnil hown hsrc x0 x1 x2 x3 heq hgn
    go_wp2_with fail
    refine (SameInts_b l _ _ _ (.of_own HBk.out) (by obtain ⟨_, h, _⟩ := src_rd (c := cx - p) HSr.out; exact h) (by omega)).mono ?_
    rintro e w7 ⟨rfl, hb7⟩
    have B7 := hid (B6.out.trans (hb7.mono B6.out.size))
    clear hb7
    go_wp2_with fail
    go_ret
    exact ⟨rfl, B7.out⟩
end Go.Proofs.Ytihhpgklpichgab.C2
