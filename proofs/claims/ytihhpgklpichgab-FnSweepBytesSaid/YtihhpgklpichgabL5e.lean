/- FnSweepBytes: the draw and the walk. -/
import Derived.Test.YtihhpgklpichgabL5d
set_option linter.unusedSimpArgs false
set_option linter.unusedVariables false
namespace Go.Proofs.Ytihhpgklpichgab.Sw
open Go.RowKit Pl Ft Mm In C2 Im Wk Src

theorem flat_set {α β : Type} (c : α → List β) (m : Nat) (hm : ∀ x, (c x).length = m) (d x' : α) (j : Nat) (u : β) (hj : j < m) : ∀ (l : List α) (k : Nat), k < l.length → c x' = (c (l.getD k d)).set j u → (l.flatMap c).set (k * m + j) u = (l.set k x').flatMap c
  | [], k, hk, _ => by simp at hk
  | x :: l, 0, _, he => by
    rw [List.flatMap_cons, Nat.zero_mul, Nat.zero_add, List.set_append_left _ _ (by rw [hm]; exact hj), List.set_cons_zero, List.flatMap_cons]
    rw [he]
    rfl
  | x :: l, k + 1, hk, he => by
    have e : (k + 1) * m + j = (c x).length + (k * m + j) := by rw [hm, Nat.succ_mul]; omega
    rw [List.flatMap_cons, e, List.set_append_right _ _ (by omega), Nat.add_sub_cancel_left, flat_set c m hm d x' j u hj l k (by simpa using hk) he, List.set_cons_succ, List.flatMap_cons]
theorem ln_set_byte (l : List ILine) (k : Nat) (h : k < l.length) (y : Int) : ∃ l' : List ILine, l'.length = l.length ∧ (lnCells l).set (k * 7 + 6) (.int .i64 y) = lnCells l' := by
  obtain ⟨x, hx⟩ : ∃ x, l.getD k .none = x := ⟨_, rfl⟩
  refine ⟨l.set k ⟨x.at_, x.is, x.ins, y⟩, by simp, ?_⟩
  exact flat_set ILine.cells 7 (fun _ => rfl) .none _ 6 _ (by decide) l k h (by rw [hx]; rfl)
theorem ln_set_a (l : List ILine) (k : Nat) (h : k < l.length) (y : Int) : ∃ l' : List ILine, l'.length = l.length ∧ (lnCells l).set (k * 7 + 2 + 1) (.int .i64 y) = lnCells l' := by
  obtain ⟨x, hx⟩ : ∃ x, l.getD k .none = x := ⟨_, rfl⟩
  refine ⟨l.set k ⟨x.at_, x.is, ⟨x.ins.op, y, x.ins.b, x.ins.n⟩, x.byte⟩, by simp, ?_⟩
  exact flat_set ILine.cells 7 (fun _ => rfl) .none _ 3 _ (by decide) l k h (by rw [hx]; rfl)
def DrawnLines (w : World) (e : Ending) (w' : World) : Prop := ∃ (v : Value) (L : List ILine), e = .returned v ∧ w'.ownsRow w.heap.size 110 7 v L.length (lnCells L) ∧ L.length ≤ 2000 ∧ Below w.heap.size w w'
set_option maxRecDepth 100000 in
set_option maxHeartbeats 2000000 in
theorem drawSweepBytes_c (a : Option Addr) (len cap : Nat) (zs : List Int) (w : World) (hB : Bytes w a len zs) :
    Calls Try.prog 54 #[.slice a len cap] w (DrawnLines w) := by
  have H := hid hB
  clear hB
  go_enter Try.func54, Try.ntmps54
  go_wp2_with fail
  refine (from_c a len cap zs w H.out).mono ?_
  rintro e w1 ⟨sb, rfl, hsb, s1, b1⟩
  have S1 := hid s1
  have B1 := hid b1
  have hsb1 := s1.here
  clear s1 b1
  go_wp2_with fail
  refine (bytes_c sb a len cap zs 0 w1 S1.out (by omega)).mono ?_
  rintro e w2 ⟨v, xs, k2, rfl, hown, hx1, hx2, hk2, hk2', s2, m2⟩
  obtain ⟨sx, cx, rfl⟩ := own_slice hown
  have HO2 := hid hown
  have S2 := hid s2
  have B2 := hid (m2.below B1.out hsb B1.out.size)
  have hz2 := m2.size
  clear s2 m2 hown
  go_wp2_with fail
  refine (sSweepOf_c xs _ _ (.of_own HO2.out) (by omega)).mono ?_
  rintro e w3 ⟨v3, rfl, hown3, hb3⟩
  have hll := sweepOf_len xs
  obtain ⟨L, hL⟩ : ∃ L, sweepOf xs = L := ⟨_, rfl⟩
  rw [hL] at hown3 hll
  clear hL
  obtain ⟨s3, c3, rfl⟩ := own_slice hown3
  have HO3 := hid hown3
  have S3 := hid (S2.out.on hb3)
  have B3 := hid (B2.out.trans (hb3.mono B2.out.size))
  have hz3 := hb3.size
  have hw2 : w.heap.size ≤ w2.heap.size := B2.out.size
  clear hown3 hb3
  by_cases h0 : L.length = 0
  · obtain rfl : L = [] := List.eq_nil_of_length_eq_zero h0
    go_wp2_with fail
    go_ret
    exact ⟨_, [], rfl, own_mono HO3.out hw2, by simp, B3.out⟩
  have hpos : (0 : Int) < L.length := by omega
  go_wp2_with fail
  refine (pick_c 4 sb a len cap zs k2 w3 S3.out (by omega) (by omega)).mono ?_
  rintro e w4 ⟨v4, k4, rfl, ⟨hv4, hv4'⟩, hk4, hk4', s4, m4⟩
  have S4 := hid s4
  have HO4 := hid (own_moved HO3.out (by omega) m4)
  have B4 := hid (m4.below B3.out hsb B3.out.size)
  have hz4 := m4.size
  clear s4 m4
  by_cases h4 : v4 = 0
  case neg =>
    have hne : (v4 == 0) = false := by rw [beq_eq_false_iff_ne]; exact h4
    go_wp2_with fail
    go_ret
    exact ⟨_, L, rfl, own_mono HO4.out hw2, hll, B4.out⟩
  subst h4
  go_wp2_with fail
  refine (pick_c L.length sb a len cap zs k4 w4 S4.out (by omega) (by omega)).mono ?_
  rintro e w5 ⟨v5, k5, rfl, ⟨hv5, hv5'⟩, hk5, hk5', s5, m5⟩
  have S5 := hid s5
  have HO5 := hid (own_moved HO4.out (by omega) m5)
  have B5 := hid (m5.below B4.out hsb B4.out.size)
  have hz5 := m5.size
  clear s5 m5
  obtain ⟨j, rfl⟩ := Int.eq_ofNat_of_zero_le hv5
  have hj : j < L.length := by omega
  go_wp2_with fail
  refine (pick_c 256 sb a len cap zs k5 w5 S5.out (by omega) (by omega)).mono ?_
  rintro e w6 ⟨y6, k6, rfl, _, hk6, hk6', s6, m6⟩
  have S6 := hid s6
  have hown6 := own_moved HO5.out (by omega) m6
  have B6 := hid (m6.below B5.out hsb B5.out.size)
  have hz6 := m6.size
  clear s6 m6
  obtain ⟨g, cap6, hv6, hg6, hg6'⟩ := own_addr hown6 (by omega)
  obtain rfl : s3 = some ⟨g, 0, none⟩ := by simp at hv6; exact hv6.1
  have hlen6 : j * 7 + 6 < (lnCells L).length := by rw [lnCells_len]; omega
  have hc6 := hown6.cellAt (j * 7 + 6) (by omega)
  rw [List.getElem?_eq_getElem hlen6] at hc6
  obtain ⟨u6, hu6⟩ : ∃ u, (lnCells L)[j * 7 + 6]'hlen6 = u := ⟨_, rfl⟩
  rw [hu6] at hc6
  have hf6 := hown6.frozenAt (j * 7 + 6)
  obtain ⟨L2, hL2, hset2⟩ := ln_set_byte L j hj y6
  have hst6 := (hown6.stored (j * 7 + 6) (.int .i64 y6)).1
  rw [hset2, ← hL2] at hst6
  have HO7 := hid hst6
  have S7 := hid (S6.out.fresh (g := g) (by omega) (j * 7 + 6) (.int .i64 y6))
  have B7 := hid (B6.out.setCell (p := ⟨g, j * 7 + 6, none⟩) (by simp only; omega) (.int .i64 y6))
  have hj0 : 0 ≤ (j : Int) := by omega
  have hj1 : (j : Int) < L.length := by omega
  clear hst6 hset2 hu6 hlen6 hv6 hown6
  go_wp2_with fail
  clear hc6 hf6
  rw [hL2] at HO7
  have hz7 : w6.heap.size ≤ (w6.setCell ⟨g, j * 7 + 6, none⟩ (.int .i64 y6)).heap.size := by simp [World.setCell]
  generalize w6.setCell ⟨g, j * 7 + 6, none⟩ (.int .i64 y6) = w7 at HO7 S7 B7 hz7 ⊢
  refine (pick_c 4 sb a len cap zs k6 w7 S7.out (by omega) (by omega)).mono ?_
  rintro e w8 ⟨y8, k8, rfl, _, hk8, hk8', s8, m8⟩
  have hown8 := own_moved HO7.out (by omega) m8
  have B8 := hid (m8.below B7.out hsb B7.out.size)
  clear s8 m8
  have hlen8 : j * 7 + 2 + 1 < (lnCells L2).length := by rw [lnCells_len]; omega
  have hc8 := hown8.cellAt (j * 7 + 2 + 1) (by omega)
  rw [List.getElem?_eq_getElem hlen8] at hc8
  obtain ⟨u8, hu8⟩ : ∃ u, (lnCells L2)[j * 7 + 2 + 1]'hlen8 = u := ⟨_, rfl⟩
  rw [hu8] at hc8
  have hf8 := hown8.frozenAt (j * 7 + 2 + 1)
  obtain ⟨L3, hL3, hset3⟩ := ln_set_a L2 j (by omega) y8
  have hst8 := (hown8.stored (j * 7 + 2 + 1) (.int .i64 y8)).1
  rw [hset3] at hst8
  have HO9 := hid hst8
  have B9 := hid (B8.out.setCell (p := ⟨g, j * 7 + 2 + 1, none⟩) (by simp only; omega) (.int .i64 y8))
  clear hst8 hset3 hu8 hlen8 hown8
  go_wp2_with fail
  go_ret
  exact ⟨.slice (some ⟨g, 0, none⟩) L.length c3, L3, rfl, by rw [hL3, hL2]; exact own_mono HO9.out hw2, by omega, B9.out⟩
theorem sameInts_any (xs ys : List Int) (va vb : Value) (w : World) (ha : Rd w va xs) (hb : Rd w vb ys) (hx : xs.length ≤ 4611686018427387904) (hy : ys.length ≤ 4611686018427387904) :
    Calls Try.prog 26 #[va, vb] w (EqPost (eqInts xs ys) w) := by
  have HA := hid ha
  have HB := hid hb
  obtain ⟨a, ca, rfl⟩ := rd_slice ha
  obtain ⟨b, cb, rfl⟩ := rd_slice hb
  clear ha hb
  go_enter Try.func26, Try.ntmps26
  go_wp2_with fail
  refine (sameInts_q xs ys _ _ _ HA.out HB.out hx hy).mono ?_
  rintro e w1 ⟨rfl, m, rfl⟩
  go_wp2_with fail
  go_ret
  exact ⟨rfl, _, rfl⟩
set_option maxRecDepth 100000 in
set_option maxHeartbeats 2000000 in
theorem sweepBytes_w (a : Option Addr) (len cap : Nat) (zs : List Int) (w : World) (hB : Bytes w a len zs) :
    Calls Try.prog 14 #[.slice a len cap] w fun e w' => e = .returned (.bool true) ∧ Below w.heap.size w w' := by
  have hs := hB.small
  have H := hid hB
  clear hB
  go_enter Try.func14, Try.ntmps14
  go_wp2_with fail
  refine (drawSweepBytes_c a len cap zs w H.out).mono ?_
  rintro e w1 ⟨v1, L, rfl, hown1, hll, b1⟩
  obtain ⟨s1, c1, rfl⟩ := own_slice hown1
  have HL1 := hid hown1
  have B1 := hid b1
  clear hown1 b1
  have HSb := hid (fun c h => sweepBytes_some (l := L) (c := c) h)
  obtain ⟨o, ho⟩ : ∃ o, sweepBytes L = o := ⟨_, rfl⟩
  have HO := hid ho
  rw [ho] at HSb
  clear ho
  go_wp2_with fail
  refine (sweepBytes_c L _ _ (.of_own HL1.out) (by omega)).mono ?_
  rw [HO.out]
  rintro e w2 ⟨v2, rfl, hown2, hb2⟩
  have HG2 := hid hown2
  have HL2 := hid (own_on HL1.out hb2)
  have B2 := hid (B1.out.trans (hb2.mono B1.out.size))
  have HCap := hid (own_cap3 hown2)
  clear hown2 hb2
  have hol : (o.getD []).length ≤ 2000 := by
    cases o with
    | none => simp
    | some c => rw [← HO.out]; exact sweepBytes_len L
  obtain ⟨bs, hbs⟩ : ∃ bs, o.getD [] = bs := ⟨_, rfl⟩
  obtain ⟨bo, hbo⟩ : ∃ bs, o.isSome = bs := ⟨_, rfl⟩
  rw [hbs] at HG2 hol
  rw [hbo]
  have HBs := hid hbs
  have HBo := hid hbo
  clear hbs hbo
  obtain ⟨s2, c2, rfl⟩ := own_slice HG2.out
  go_wp2_with fail
  refine (sSweepBytes_c L _ _ (.of_own HL2.out) (by omega)).mono ?_
  rw [HO.out]
  rintro e w3 ⟨v3, rfl, hown3, hb3⟩
  rw [HBs.out] at hown3
  rw [HBo.out]
  obtain ⟨s3, c3, rfl⟩ := own_slice hown3
  have HW3 := hid hown3
  have HG3 := hid (own_on HG2.out hb3)
  have HL3 := hid (own_on HL2.out hb3)
  have B3 := hid (B2.out.trans (hb3.mono B2.out.size))
  clear hown3 hb3
  go_wp2_with fail
  refine (SameInts_b bs _ _ _ (.of_own HG3.out) (.of_own HW3.out) (by omega)).mono ?_
  rintro e w4 ⟨rfl, hb4⟩
  have HG4 := hid (own_on HG3.out hb4)
  have HL4 := hid (own_on HL3.out hb4)
  have B4 := hid (B3.out.trans (hb4.mono B3.out.size))
  clear hb4
  cases bo with
  | false =>
    go_wp2_with fail
    go_ret
    exact ⟨rfl, B4.out⟩
  | true =>
    have hsl := sweepOf_len bs
    have HE := hid (show sweepOf bs = L by
      cases o with
      | none => have := HBo.out; cases this
      | some c => rw [← HBs.out]; exact HSb.out c rfl)
    go_wp2_with fail
    refine (sweepOf_c bs _ _ (.of_own HG4.out) HCap.out (by omega)).mono ?_
    rw [HE.out]
    rintro e w5 ⟨v5, rfl, hown5, hb5⟩
    obtain ⟨s5, c5, rfl⟩ := own_slice hown5
    have HS5 := hid hown5
    have HL5 := hid (own_on HL4.out hb5)
    have B5 := hid (B4.out.trans (hb5.mono B4.out.size))
    clear hown5 hb5
    go_wp2_with fail
    refine (SameLines_c L L _ _ _ (.of_own HS5.out) (.of_own HL5.out) (by omega) (by omega)).mono ?_
    rw [eqLines_self]
    rintro e w6 ⟨rfl, m6, rfl⟩
    have B6 := hid (B5.out.trans ((below_drewN w5 m6).mono B5.out.size))
    go_wp2_with fail
    go_ret
    exact ⟨rfl, B6.out⟩
end Go.Proofs.Ytihhpgklpichgab.Sw
