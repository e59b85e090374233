/- FnInsPut: the walk. -/
import Derived.Test.YtihhpgklpichgabL2e
import Derived.Test.YtihhpgklpichgabL2b
set_option linter.unusedSimpArgs false
set_option linter.unusedVariables false
namespace Go.Proofs.Ytihhpgklpichgab.C2
open Go.RowKit Pl Ft Mm Src In

theorem sameInts_of (l : List Int) (va vb : Value) (w : World) {A B : Nat} (ha : w.ownsRow A 3 1 va l.length (ints l)) (hb : w.ownsRow B 3 1 vb l.length (ints l)) (hl : l.length ≤ 1000) :
    Calls Try.prog 26 #[va, vb] w fun e w' => e = .returned (.bool true) ∧ Below w.heap.size w w' := SameInts_b l va vb w (.of_own ha) (.of_own hb) (by omega)
set_option maxRecDepth 100000 in
set_option maxHeartbeats 2000000 in
theorem insPut_w (a : Option Addr) (len cap : Nat) (zs : List Int) (w : World) (hB : Bytes w a len zs) :
    Calls Try.prog 5 #[.slice a len cap] w fun e w' => e = .returned (.bool true) ∧ Below w.heap.size w w' := by
  have hs := hB.small
  have H := hid hB
  clear hB
  obtain ⟨i0, hi, hz0, hz1, hz2⟩ := info_parts info_int
  have H0 := hid hz0
  have H1 := hid hz1
  have H2 := hid hz2
  have HI := hid hi
  clear hz0 hz1 hz2 hi
  go_enter Try.func5, Try.ntmps5
  go_wp2_with fail
  refine (drawInsPut_c a len cap zs w H.out).mono ?_
  rintro e w1 ⟨i, at_, rfl, hat0, hat1, b1⟩
  have B1 := hid b1
  clear b1
  obtain ⟨op, ia, ib, n⟩ := i
  obtain ⟨p, rfl⟩ := Int.eq_ofNat_of_zero_le hat0
  obtain ⟨oo, ho⟩ : ∃ o, insPut ⟨op, ia, ib, n⟩ (p : Int) = o := ⟨_, rfl⟩
  have HO := hid ho
  have hlen5 : (oo.getD []).length ≤ 5 := by
    cases oo with
    | none => simp
    | some l => exact insPut_len ho
  clear ho
  unfold IIns.val
  simp only
  go_wp2_with fail
  refine (insPut_c ⟨op, ia, ib, n⟩ (p : Int) _).mono ?_
  rw [HO.out]
  rintro e w2 ⟨v, rfl, hb2, hnil, hown⟩
  have HV2 := hid (PutPost.reads hnil hown)
  have R2 := hid ((Row.new w1 24 #[.int .i64 op, .int .i64 ia, .int .i64 ib, .int .i64 n]).on hb2)
  have B2 := hid ((B1.out.alloc B1.out.size _).trans (hb2.mono (by have := B1.out.size; simp; omega)))
  clear hb2 hnil hown
  have o0 := R2.out.cell 0
  have o1 := R2.out.cell 1
  have o2 := R2.out.cell 2
  have o3 := R2.out.cell 3
  simp at o0 o1 o2 o3
  go_wp2_with fail
  refine (sInsPut_c ⟨op, ia, ib, n⟩ (p : Int) _).mono ?_
  rw [HO.out]
  rintro e w3 ⟨v2, rfl, hb3, hnil, hown⟩
  have HW3 := hid (PutPost.reads hnil hown)
  have HV3 := hid (own_on HV2.out hb3)
  have R3 := hid (R2.out.on hb3)
  have B3 := hid (B2.out.trans (hb3.mono B2.out.size))
  clear hb3 hnil hown o0 o1 o2 o3
  go_wp2_with fail
  refine (sameInts_of (oo.getD []) v v2 _ HV3.out HW3.out (by omega)).mono ?_
  rintro e w4 ⟨rfl, hb4⟩
  have HV4 := hid (own_on HV3.out hb4)
  have R4 := hid (R3.out.on hb4)
  have B4 := hid (B3.out.trans (hb4.mono B3.out.size))
  clear hb4
  cases oo with
  | none =>
    simp only [Option.isSome_none]
    go_wp2_with fail
    go_ret
    exact ⟨rfl, B4.out⟩
  | some l =>
    simp only [Option.isSome_some]
    have hv4 := HV4.out
    simp only [Option.getD_some] at hv4
    have HOw := hid hv4
    obtain ⟨hl0, hl5⟩ := insPut_pos HO.out
    have HAtt := hid (insAt_put (i := ⟨op, ia, ib, n⟩) (at_ := p) (l := l) HO.out hl0 (by omega))
    obtain ⟨gl, lcap, hvv, _, hg2⟩ := own_addr hv4 hl0
    subst hvv
    clear hv4
    go_wp2_with (first
      | (refine wpList_make_full _ rfl _ _ 22 rfl w4.heap.size 3 i0 (.int .i64 0) 1 Try.underlying22 HI.out H0.out H1.out .i64 .i64 _ _ p rfl rfl rfl rfl (by rw [H2.out]; omega) (by simp only [maxLen]; omega) (Nat.le_refl _) ?_; intro w5 hown5 hg5; rw [zeros_ints] at hown5; have HOz := hid hown5; have BG5 := hid ((Below.refl w4.heap.size w4).grown hg5 (Nat.le_refl _) (by simp)); have HOl := hid (own_on HOw.out BG5.out); have hz5 := BG5.out.size; clear hown5 hg5)
      | (at_builtin; refine wpList_append_own _ rfl _ _ 22 rfl w4.heap.size 3 i0 (.int .i64 0) 1 8 Try.underlying22 HI.out H0.out H1.out H2.out rfl (by decide) (.slice (some ⟨w4.heap.size, 0, none⟩) p p) p (ints (List.replicate p 0)) rfl HOz.out ⟨gl, 0, none⟩ l.length lcap (ints l) rfl ?c1 ?c2 ?c3 ?c4 ?c5 ?c6 ?_))
    case c1 => simp [ints]
    case c2 => intro j u hj; exact HOl.out.cells (g := gl) rfl j u hj
    case c3 => exact ints_one l
    case c4 => simp only [maxLen]; omega
    case c5 => omega
    case c6 => exact hz5
    intro v6 w6 hown6 hg6 _
    have HO6 := hid (show w6.ownsRow w4.heap.size 3 1 v6 (List.replicate p 0 ++ l).length (ints (List.replicate p 0 ++ l)) by
      rw [List.length_append, List.length_replicate, ints_append]; exact hown6)
    have BG6 := hid (BG5.out.grown hg6 hz5 (fun g hg => (HOz.out.lt g hg).1))
    have B6 := hid (B4.out.trans (BG6.out.mono B4.out.size))
    have R6 := hid (R4.out.below BG6.out R4.out.lt)
    have HCap := hid (own_cap2 HO6.out)
    have hz6 := BG6.out.size
    have hlen6 : (List.replicate p (0 : Int) ++ l).length ≤ 2000 := by rw [List.length_append, List.length_replicate]; omega
    obtain ⟨s6, c6, rfl⟩ := own_slice HO6.out
    clear hown6 hg6
    go_wp2_with fail
    have HI7 := insAt_c (List.replicate p 0 ++ l) (.slice s6 (List.replicate p 0 ++ l).length c6) (p : Int) w6 (.of_own HO6.out) HCap.out (by omega)
    have hlen7 : (List.replicate p (0 : Int) ++ l).length = p + l.length := by simp
    rw [hlen7] at HI7
    refine HI7.mono ?_
    clear HI7
    rintro e w7 ⟨rfl, hb7⟩
    have R7 := hid (R6.out.on hb7)
    have B7 := hid (B6.out.trans (hb7.mono B6.out.size))
    have hz7 := R7.out.lt
    clear hb7
    have HVs : insVal (insAt (List.replicate p 0 ++ l) (p : Int)) = .tuple #[.agg #[.int .i64 op, .int .i64 ia, .int .i64 ib, .int .i64 n], .bool true] := congrArg insVal HAtt.out
    rw [HVs]
    clear HVs
    have o0 := R7.out.cell 0
    have o1 := R7.out.cell 1
    have o2 := R7.out.cell 2
    have o3 := R7.out.cell 3
    simp at o0 o1 o2 o3
    have heq := eql_ins ⟨op, ia, ib, n⟩
    have hgn := fun bo x y => guard_ins bo x y #[.int .i64 op, .int .i64 ia, .int .i64 ib, .int .i64 n] #[.int .i64 op, .int .i64 ia, .int .i64 ib, .int .i64 n]
    simp only at heq
    have hd : decide ((2000 : Int) < ((List.replicate p (0 : Int) ++ l).length : Nat)) = false := by simp only [decide_eq_false_iff_not]; omega
    go_wp2_with fail
    go_ret
    exact ⟨rfl, B7.out.alloc B7.out.size _⟩
end Go.Proofs.Ytihhpgklpichgab.C2
