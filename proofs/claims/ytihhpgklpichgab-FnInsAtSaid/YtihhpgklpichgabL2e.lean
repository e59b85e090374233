/- FnInsOk: the walk. -/
import Derived.Test.YtihhpgklpichgabDraw3
import Derived.Test.YtihhpgklpichgabBack
import Derived.Test.YtihhpgklpichgabC2p
import Derived.Test.YtihhpgklpichgabL2
import Derived.Test.YtihhpgklpichgabC2g
import Derived.Laws.StructEq
set_option linter.unusedSimpArgs false
set_option linter.unusedVariables false
namespace Go.Proofs.Ytihhpgklpichgab.C2
open Go.RowKit Pl Ft Mm Src In

theorem ins_fields : Try.prog.underlying 24 = some (.struct (Try.prog.fieldsOf 24)) := by kernel_rfl
theorem ins_held : Try.prog.stoodInHeld 24 = false := by kernel_rfl
theorem ins_guard : Try.prog.eqGuardType Try.prog.depth 24 = false := by kernel_rfl
theorem eql_ins (i : IIns) (w : World) : (binOp .eql 24 (.agg #[.int .i64 i.op, .int .i64 i.a, .int .i64 i.b, .int .i64 i.n]) (.agg #[.int .i64 i.op, .int .i64 i.a, .int .i64 i.b, .int .i64 i.n])).run Try.prog w = .ok (.bool true) w := by
  have hu := ins_fields.symm.trans Try.underlying24
  simp only [Option.some.injEq, TypeDesc.struct.injEq] at hu
  rw [run_eql_struct, run_equalIn_agg _ _ _ _ _ ins_fields ins_held, hu]
  simp [Op.eqFields, part, go_sem, Try.underlying3]
theorem guard_ins (op : BinOp) (a b : Operand) (xs ys : Array Value) (w : World) : (eqGuard op 24 a b (.agg xs) (.agg ys)).run Try.prog w = .ok () w := run_eqGuard_agg w op 24 a b xs ys ins_guard
theorem zeros_ints (n : Nat) : (madeCells (Value.cells (.int .i64 0)) (n * 1)).toList = ints (List.replicate n 0) := by
  have e : Value.cells (.int .i64 0) = #[.int .i64 0] := rfl
  rw [e, toList_madeCells_one, Nat.mul_one]
  simp [ints]
theorem own_cap2 {w : World} {base : Nat} {e : TypeId} {size : Nat} {v : Value} {n : Nat} {xs : List Value} (h : w.ownsRow base e size v n xs) : ∀ a k c, v = .slice a k c → k ≤ c := by
  intro a k c hv
  rcases h.2 with ⟨rfl, h0⟩ | ⟨g, cap, cur, rfl, _, _, hc, _⟩
  · simp only [Value.slice.injEq] at hv; omega
  · simp only [Value.slice.injEq] at hv; omega
theorem insPut_pos {i : IIns} {at_ : Int} {l : List Int} (h : insPut i at_ = some l) : 0 < l.length ∧ l.length ≤ 5 := by
  unfold insPut at h
  cases hf : formOf i with
  | none => rw [hf] at h; cases h
  | some f =>
    rw [hf] at h
    simp only at h
    split at h
    · split at h
      · have hs := (form_bounds hf).size
        simp only [Option.some.injEq] at h
        have h1 := putList_len (letters f.follows) i (at_ + longOf (letters f.follows))
        have h2 := longOf_bd (letters f.follows)
        rw [letters_len] at h2
        rw [← h]
        simp only [List.length_cons]
        omega
      · cases h
    · cases h
set_option maxRecDepth 100000 in
set_option maxHeartbeats 2000000 in
theorem insOk_w (a : Option Addr) (len cap : Nat) (zs : List Int) (w : World) (hB : Bytes w a len zs) :
    Calls Try.prog 4 #[.slice a len cap] w fun e w' => e = .returned (.bool true) ∧ Below w.heap.size w w' := by
  have hs := hB.small
  have H := hid hB
  clear hB
  obtain ⟨i0, hi, hz0, hz1, hz2⟩ := info_parts info_int
  have H0 := hid hz0
  have H1 := hid hz1
  have H2 := hid hz2
  have HI := hid hi
  clear hz0 hz1 hz2 hi
  go_enter Try.func4, Try.ntmps4
  go_wp2_with fail
  refine (drawInsOk_c a len cap zs w H.out).mono ?_
  rintro e w1 ⟨i, rfl, hsm, b1⟩
  have B1 := hid b1
  clear b1 hsm
  obtain ⟨op, ia, ib, n⟩ := i
  unfold IIns.val
  simp only
  go_wp2_with fail
  refine (insOk_c ⟨op, ia, ib, n⟩ _).mono ?_
  rintro e w2 ⟨rfl, hb2⟩
  have R2 := hid ((Row.new w1 24 #[.int .i64 op, .int .i64 ia, .int .i64 ib, .int .i64 n]).on hb2)
  have B2 := hid ((B1.out.alloc B1.out.size _).trans (hb2.mono (by have := B1.out.size; simp; omega)))
  clear hb2
  have o0 := R2.out.cell 0
  have o1 := R2.out.cell 1
  have o2 := R2.out.cell 2
  have o3 := R2.out.cell 3
  simp at o0 o1 o2 o3
  go_wp2_with fail
  refine (sInsOk_c ⟨op, ia, ib, n⟩ _).mono ?_
  rintro e w3 ⟨rfl, hb3⟩
  have R3 := hid (R2.out.on hb3)
  have B3 := hid (B2.out.trans (hb3.mono B2.out.size))
  clear hb3 o0 o1 o2 o3
  cases hv : validIns ⟨op, ia, ib, n⟩
  · clear hv
    go_wp2_with fail
    go_ret
    exact ⟨rfl, B3.out⟩
  have HV := hid hv
  clear hv
  have o0 := R3.out.cell 0
  have o1 := R3.out.cell 1
  have o2 := R3.out.cell 2
  have o3 := R3.out.cell 3
  simp at o0 o1 o2 o3
  by_cases h27 : op = 27
  · subst h27
    obtain ⟨hn0, hn1⟩ := jump_n HV.out rfl
    simp only at hn0 hn1
    obtain ⟨p, rfl⟩ := Int.eq_ofNat_of_zero_le hn0
    have HJ := hid (show isJump ⟨27, ia, ib, (p : Int)⟩ = true → (p : Int) = (⟨27, ia, ib, (p : Int)⟩ : IIns).n from fun _ => rfl)
    by_cases h1991 : (p : Int) ≤ 1991
    case neg =>
      go_wp2_with fail
      go_ret
      exact ⟨rfl, B3.out⟩
    obtain ⟨l, hl⟩ := put_exists (i := ⟨27, ia, ib, (p : Int)⟩) (at_ := (p : Int)) HV.out (by omega) (by omega) HJ.out
    have hll := insPut_pos hl
    obtain ⟨hl0, hl5⟩ := hll
    have HL := hid hl
    have HAtt := hid (insAt_put (i := ⟨27, ia, ib, (p : Int)⟩) (at_ := p) (l := l) hl hl0 (by omega))
    clear hl
    go_wp2_with fail
    refine (insPut_c ⟨27, ia, ib, (p : Int)⟩ (p : Int) _).mono ?_
    rw [HL.out]
    rintro e w4 ⟨v, rfl, hb4, hnil, hown⟩
    have HOw := hid (hown l rfl)
    have R4 := hid (R3.out.on hb4)
    have B4 := hid (B3.out.trans (hb4.mono B3.out.size))
    have hz4 := hb4.size
    obtain ⟨gl, lcap, hv4, _, hg2⟩ := own_addr (hown l rfl) hl0
    subst hv4
    clear hb4 hnil hown o0 o1 o2 o3
    go_wp2_with (first
      | (refine wpList_make_full _ rfl _ _ 22 rfl w4.heap.size 3 i0 (.int .i64 0) 1 Try.underlying22 HI.out H0.out H1.out .i64 .i64 _ _ p rfl rfl rfl rfl (by rw [H2.out]; omega) (by simp only [maxLen]; omega) (Nat.le_refl _) ?_; intro w5 hown5 hg5; rw [zeros_ints] at hown5; have HOz := hid hown5; have BG5 := hid ((Below.refl w4.heap.size w4).grown hg5 (Nat.le_refl _) (by simp)); have HOl := hid (own_on HOw.out BG5.out); have hz5 := BG5.out.size; clear hown5 hg5)
      | (at_builtin; refine wpList_append_own _ rfl _ _ 22 rfl w4.heap.size 3 i0 (.int .i64 0) 1 8 Try.underlying22 HI.out H0.out H1.out H2.out rfl (by decide) (.slice (some ⟨w4.heap.size, 0, none⟩) p p) p (ints (List.replicate p 0)) rfl HOz.out ⟨gl, 0, none⟩ l.length lcap (ints l) rfl ?c1 ?c2 ?c3 ?c4 ?c5 ?c6 ?_))
    case c1 => simp [ints]
    case c2 => intro j u hj; exact HOl.out.cells (g := gl) rfl j u hj
    case c3 => exact ints_one l
    case c4 => simp only [maxLen]; omega
    case c5 => omega
    case c6 => exact hz5
    intro v6 w6 hown6 hg6 _
    have HO6 := hid (show w6.ownsRow w4.heap.size 3 1 v6 (List.replicate p 0 ++ l).length (ints (List.replicate p 0 ++ l)) by
      rw [List.length_append, List.length_replicate, ints_append]; exact hown6)
    have BG6 := hid (BG5.out.grown hg6 hz5 (fun g hg => (HOz.out.lt g hg).1))
    have B6 := hid (B4.out.trans (BG6.out.mono B4.out.size))
    have R6 := hid (R4.out.below BG6.out R4.out.lt)
    have HCap := hid (own_cap2 HO6.out)
    have hz6 := BG6.out.size
    have hlen6 : (List.replicate p (0 : Int) ++ l).length ≤ 2000 := by rw [List.length_append, List.length_replicate]; omega
    clear hown6 hg6
    go_wp2_with fail
    refine (insAt_c (List.replicate p 0 ++ l) v6 (p : Int) _ (.of_own HO6.out) HCap.out (by omega)).mono ?_
    rintro e w7 ⟨rfl, hb7⟩
    have R7 := hid (R6.out.on hb7)
    have B7 := hid (B6.out.trans (hb7.mono B6.out.size))
    have hz7 := R7.out.lt
    clear hb7
    have HVs : insVal (insAt (List.replicate p 0 ++ l) (p : Int)) = .tuple #[.agg #[.int .i64 27, .int .i64 ia, .int .i64 ib, .int .i64 (p : Int)], .bool true] := congrArg insVal HAtt.out
    rw [HVs]
    clear HVs
    have o0 := R7.out.cell 0
    have o1 := R7.out.cell 1
    have o2 := R7.out.cell 2
    have o3 := R7.out.cell 3
    simp at o0 o1 o2 o3
    have heq := eql_ins ⟨27, ia, ib, (p : Int)⟩
    have hgn := fun bo x y => guard_ins bo x y #[.int .i64 27, .int .i64 ia, .int .i64 ib, .int .i64 (p : Int)] #[.int .i64 27, .int .i64 ia, .int .i64 ib, .int .i64 (p : Int)]
    simp only at heq
    go_wp2_with fail
    go_ret
    exact ⟨rfl, B7.out.alloc B7.out.size _⟩
  by_cases h28 : op = 28
  · subst h28
    obtain ⟨hn0, hn1⟩ := jump_n HV.out rfl
    simp only at hn0 hn1
    obtain ⟨p, rfl⟩ := Int.eq_ofNat_of_zero_le hn0
    have HJ := hid (show isJump ⟨28, ia, ib, (p : Int)⟩ = true → (p : Int) = (⟨28, ia, ib, (p : Int)⟩ : IIns).n from fun _ => rfl)
    by_cases h1991 : (p : Int) ≤ 1991
    case neg =>
      go_wp2_with fail
      go_ret
      exact ⟨rfl, B3.out⟩
    obtain ⟨l, hl⟩ := put_exists (i := ⟨28, ia, ib, (p : Int)⟩) (at_ := (p : Int)) HV.out (by omega) (by omega) HJ.out
    have hll := insPut_pos hl
    obtain ⟨hl0, hl5⟩ := hll
    have HL := hid hl
    have HAtt := hid (insAt_put (i := ⟨28, ia, ib, (p : Int)⟩) (at_ := p) (l := l) hl hl0 (by omega))
    clear hl
    go_wp2_with fail
    refine (insPut_c ⟨28, ia, ib, (p : Int)⟩ (p : Int) _).mono ?_
    rw [HL.out]
    rintro e w4 ⟨v, rfl, hb4, hnil, hown⟩
    have HOw := hid (hown l rfl)
    have R4 := hid (R3.out.on hb4)
    have B4 := hid (B3.out.trans (hb4.mono B3.out.size))
    have hz4 := hb4.size
    obtain ⟨gl, lcap, hv4, _, hg2⟩ := own_addr (hown l rfl) hl0
    subst hv4
    clear hb4 hnil hown o0 o1 o2 o3
    go_wp2_with (first
      | (refine wpList_make_full _ rfl _ _ 22 rfl w4.heap.size 3 i0 (.int .i64 0) 1 Try.underlying22 HI.out H0.out H1.out .i64 .i64 _ _ p rfl rfl rfl rfl (by rw [H2.out]; omega) (by simp only [maxLen]; omega) (Nat.le_refl _) ?_; intro w5 hown5 hg5; rw [zeros_ints] at hown5; have HOz := hid hown5; have BG5 := hid ((Below.refl w4.heap.size w4).grown hg5 (Nat.le_refl _) (by simp)); have HOl := hid (own_on HOw.out BG5.out); have hz5 := BG5.out.size; clear hown5 hg5)
      | (at_builtin; refine wpList_append_own _ rfl _ _ 22 rfl w4.heap.size 3 i0 (.int .i64 0) 1 8 Try.underlying22 HI.out H0.out H1.out H2.out rfl (by decide) (.slice (some ⟨w4.heap.size, 0, none⟩) p p) p (ints (List.replicate p 0)) rfl HOz.out ⟨gl, 0, none⟩ l.length lcap (ints l) rfl ?c1 ?c2 ?c3 ?c4 ?c5 ?c6 ?_))
    case c1 => simp [ints]
    case c2 => intro j u hj; exact HOl.out.cells (g := gl) rfl j u hj
    case c3 => exact ints_one l
    case c4 => simp only [maxLen]; omega
    case c5 => omega
    case c6 => exact hz5
    intro v6 w6 hown6 hg6 _
    have HO6 := hid (show w6.ownsRow w4.heap.size 3 1 v6 (List.replicate p 0 ++ l).length (ints (List.replicate p 0 ++ l)) by
      rw [List.length_append, List.length_replicate, ints_append]; exact hown6)
    have BG6 := hid (BG5.out.grown hg6 hz5 (fun g hg => (HOz.out.lt g hg).1))
    have B6 := hid (B4.out.trans (BG6.out.mono B4.out.size))
    have R6 := hid (R4.out.below BG6.out R4.out.lt)
    have HCap := hid (own_cap2 HO6.out)
    have hz6 := BG6.out.size
    have hlen6 : (List.replicate p (0 : Int) ++ l).length ≤ 2000 := by rw [List.length_append, List.length_replicate]; omega
    clear hown6 hg6
    go_wp2_with fail
    refine (insAt_c (List.replicate p 0 ++ l) v6 (p : Int) _ (.of_own HO6.out) HCap.out (by omega)).mono ?_
    rintro e w7 ⟨rfl, hb7⟩
    have R7 := hid (R6.out.on hb7)
    have B7 := hid (B6.out.trans (hb7.mono B6.out.size))
    have hz7 := R7.out.lt
    clear hb7
    have HVs : insVal (insAt (List.replicate p 0 ++ l) (p : Int)) = .tuple #[.agg #[.int .i64 28, .int .i64 ia, .int .i64 ib, .int .i64 (p : Int)], .bool true] := congrArg insVal HAtt.out
    rw [HVs]
    clear HVs
    have o0 := R7.out.cell 0
    have o1 := R7.out.cell 1
    have o2 := R7.out.cell 2
    have o3 := R7.out.cell 3
    simp at o0 o1 o2 o3
    have heq := eql_ins ⟨28, ia, ib, (p : Int)⟩
    have hgn := fun bo x y => guard_ins bo x y #[.int .i64 28, .int .i64 ia, .int .i64 ib, .int .i64 (p : Int)] #[.int .i64 28, .int .i64 ia, .int .i64 ib, .int .i64 (p : Int)]
    simp only at heq
    go_wp2_with fail
    go_ret
    exact ⟨rfl, B7.out.alloc B7.out.size _⟩
  · have e27 : (op == 27) = false := by rw [beq_eq_false_iff_ne]; exact h27
    have e28 : (op == 28) = false := by rw [beq_eq_false_iff_ne]; exact h28
    have HJ := hid (show isJump ⟨op, ia, ib, n⟩ = true → (0 : Int) = (⟨op, ia, ib, n⟩ : IIns).n from fun h => by
      have : op = 27 ∨ op = 28 := by simpa [isJump] using h
      omega)
    by_cases h1991 : (0 : Int) ≤ 1991
    case neg => omega
    obtain ⟨l, hl⟩ := put_exists (i := ⟨op, ia, ib, n⟩) (at_ := (0 : Int)) HV.out (by omega) (by omega) HJ.out
    have hll := insPut_pos hl
    obtain ⟨hl0, hl5⟩ := hll
    have HL := hid hl
    have HAtt := hid (insAt_put (i := ⟨op, ia, ib, n⟩) (at_ := 0) (l := l) hl hl0 (by omega))
    clear hl
    go_wp2_with fail
    refine (insPut_c ⟨op, ia, ib, n⟩ (0 : Int) _).mono ?_
    rw [HL.out]
    rintro e w4 ⟨v, rfl, hb4, hnil, hown⟩
    have HOw := hid (hown l rfl)
    have R4 := hid (R3.out.on hb4)
    have B4 := hid (B3.out.trans (hb4.mono B3.out.size))
    have hz4 := hb4.size
    obtain ⟨gl, lcap, hv4, _, hg2⟩ := own_addr (hown l rfl) hl0
    subst hv4
    clear hb4 hnil hown o0 o1 o2 o3
    go_wp2_with (first
      | (refine wpList_make_full _ rfl _ _ 22 rfl w4.heap.size 3 i0 (.int .i64 0) 1 Try.underlying22 HI.out H0.out H1.out .i64 .i64 _ _ 0 rfl rfl rfl rfl (by rw [H2.out]; omega) (by simp only [maxLen]; omega) (Nat.le_refl _) ?_; intro w5 hown5 hg5; rw [zeros_ints] at hown5; have HOz := hid hown5; have BG5 := hid ((Below.refl w4.heap.size w4).grown hg5 (Nat.le_refl _) (by simp)); have HOl := hid (own_on HOw.out BG5.out); have hz5 := BG5.out.size; clear hown5 hg5)
      | (at_builtin; refine wpList_append_own _ rfl _ _ 22 rfl w4.heap.size 3 i0 (.int .i64 0) 1 8 Try.underlying22 HI.out H0.out H1.out H2.out rfl (by decide) (.slice (some ⟨w4.heap.size, 0, none⟩) 0 0) 0 (ints (List.replicate 0 0)) rfl HOz.out ⟨gl, 0, none⟩ l.length lcap (ints l) rfl ?c1 ?c2 ?c3 ?c4 ?c5 ?c6 ?_))
    case c1 => simp [ints]
    case c2 => intro j u hj; exact HOl.out.cells (g := gl) rfl j u hj
    case c3 => exact ints_one l
    case c4 => simp only [maxLen]; omega
    case c5 => omega
    case c6 => exact hz5
    intro v6 w6 hown6 hg6 _
    have HO6 := hid (show w6.ownsRow w4.heap.size 3 1 v6 (List.replicate 0 0 ++ l).length (ints (List.replicate 0 0 ++ l)) by
      simpa [ints] using hown6)
    have BG6 := hid (BG5.out.grown hg6 hz5 (fun g hg => (HOz.out.lt g hg).1))
    have B6 := hid (B4.out.trans (BG6.out.mono B4.out.size))
    have R6 := hid (R4.out.below BG6.out R4.out.lt)
    have HCap := hid (own_cap2 HO6.out)
    have hz6 := BG6.out.size
    have hlen6 : (List.replicate 0 (0 : Int) ++ l).length ≤ 2000 := by rw [List.length_append, List.length_replicate]; omega
    clear hown6 hg6
    go_wp2_with fail
    refine (insAt_c (List.replicate 0 0 ++ l) v6 (0 : Int) _ (.of_own HO6.out) HCap.out (by omega)).mono ?_
    rintro e w7 ⟨rfl, hb7⟩
    have R7 := hid (R6.out.on hb7)
    have B7 := hid (B6.out.trans (hb7.mono B6.out.size))
    have hz7 := R7.out.lt
    clear hb7
    have HVs : insVal (insAt (List.replicate 0 0 ++ l) (0 : Int)) = .tuple #[.agg #[.int .i64 op, .int .i64 ia, .int .i64 ib, .int .i64 n], .bool true] := congrArg insVal HAtt.out
    rw [HVs]
    clear HVs
    have o0 := R7.out.cell 0
    have o1 := R7.out.cell 1
    have o2 := R7.out.cell 2
    have o3 := R7.out.cell 3
    simp at o0 o1 o2 o3
    have heq := eql_ins ⟨op, ia, ib, n⟩
    have hgn := fun bo x y => guard_ins bo x y #[.int .i64 op, .int .i64 ia, .int .i64 ib, .int .i64 n] #[.int .i64 op, .int .i64 ia, .int .i64 ib, .int .i64 n]
    simp only at heq
    go_wp2_with fail
    go_ret
    exact ⟨rfl, B7.out.alloc B7.out.size _⟩
end Go.Proofs.Ytihhpgklpichgab.C2
