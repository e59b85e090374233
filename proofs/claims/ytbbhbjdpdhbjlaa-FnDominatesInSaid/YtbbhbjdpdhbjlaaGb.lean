/- The program's nodes below a node; whether a node is over another. -/
import Derived.Test.YtbbhbjdpdhbjlaaGt
set_option linter.unusedSimpArgs false
set_option linter.unusedVariables false
namespace Go.Proofs.Ytbbhbjdpdhbjlaa.Ge
open Go.RowKit Pl Ft Mm In Gp

theorem below1_c (g : List (List Int)) (x : Int) (p B bx bs : Nat) (vg vo : Value) (w : World) (hok : okG g = true) (h : GAt B w vg g) (hx : Row w bx 3 #[.int .i64 x]) (hs : Row w bs 48 #[vg, vo]) (hp : p < g.length) :
    Calls Try.prog 95 #[.int .i64 p, .pointer (some ⟨bx, 0, none⟩), .pointer (some ⟨bs, 0, none⟩)] w fun e w' => ∃ u, e = .returned u ∧ Rd w' u (natI (cut (adj g) x p)) ∧ (∀ k, u.ownBlock = some k → k < B) ∧ w' = w := by
  have x0 := hx.cell 0
  have s0 := hs.cell 0
  have s1 := hs.cell 1
  simp at x0 s0 s1
  have HG := hid h
  have hl := okG_len hok
  clear h hx hs
  by_cases hpx : (p : Int) = x
  · have HC := hid (show cut (adj g) x p = [] by unfold cut; rw [if_pos hpx])
    subst hpx
    go_enter Try.func95, Try.ntmps95
    go_wp2_with fail
    go_ret
    exact ⟨_, rfl, by rw [HC.out]; exact Rd.nil _ _, fun k hk => (by cases hk), rfl⟩
  · have HC := hid (show natI (cut (adj g) x p) = g.getD p [] by unfold cut; rw [if_neg hpx, adj_nat hok hp])
    go_enter Try.func95, Try.ntmps95
    go_wp2_with fail
    refine (next_c g p B vg w HG.out hp (by omega)).mono ?_
    rintro e w1 ⟨u, rfl, hr, hk, rfl⟩
    have HR := hid hr
    have HK := hid hk
    clear hr hk
    go_wp2_with fail
    go_ret
    exact ⟨_, rfl, by rw [HC.out]; exact HR.out, HK.out, rfl⟩
theorem beside_c (x y : Int) (os : List Int) (v : Value) (bx bo : Nat) (w : World) (hx : Row w bx 3 #[.int .i64 x]) (ho : Row w bo 26 #[v]) (hr : Rd w v os) (hl : os.length ≤ 1000) :
    Calls Try.prog 96 #[.int .i64 y, .pointer (some ⟨bx, 0, none⟩), .pointer (some ⟨bo, 0, none⟩)] w fun e w' => e = .returned (.bool (decide (y ≠ x) && decide (y ∈ os))) ∧ w' = w := by
  have x0 := hx.cell 0
  have o0 := ho.cell 0
  simp at x0 o0
  have HR := hid hr
  clear hx ho hr
  by_cases hyx : y = x
  · subst hyx
    go_enter Try.func96, Try.ntmps96
    go_wp2_with fail
    go_ret
    exact ⟨bool_eq (by simp), rfl⟩
  · go_enter Try.func96, Try.ntmps96
    go_wp2_with fail
    refine (contains_c os y v w HR.out (by omega)).mono ?_
    rintro e w1 ⟨rfl, rfl⟩
    obtain ⟨b, hb⟩ : ∃ b, decide (y ∈ os) = b := ⟨_, rfl⟩
    rw [hb]
    have HB := hid hb
    clear hb
    go_wp2_with fail
    go_ret
    exact ⟨bool_eq (by rw [decide_eq_true hyx, Bool.true_and, HB.out, show (y != x) = true by simpa using hyx, Bool.true_and]), rfl⟩
theorem lds_below {g : List (List Int)} {vg vo : Value} {B bx bs : Nat} {x : Int} {w0 : World} (hok : okG g = true) (h : GAt B w0 vg g) (hx : Row w0 bx 3 #[.int .i64 x]) (hs : Row w0 bs 48 #[vg, vo]) :
    Lds (cut (adj g) x) g.length 95 #[] #[.pointer (some ⟨bx, 0, none⟩), .pointer (some ⟨bs, 0, none⟩)] w0 where
  call p w hp hb := by
    refine (below1_c g x p B bx bs vg vo w hok (h.on hb) (hx.on hb) (hs.on hb) hp).mono ?_
    rintro e w' ⟨u, rfl, hr, hk, rfl⟩
    exact ⟨u, rfl, hr, fun k h2 => .inl (Nat.lt_of_lt_of_le (hk k h2) h.le), Below.refl _ _⟩
  enter xs w := by kernel_rfl
  len p hp := by
    unfold cut
    split
    · simp
    · have := adj_len hok hp; omega
theorem below_len {g : List (List Int)} (hok : okG g = true) (x : Int) : (belowP (adj g) x).length ≤ 30 := by
  have h1 : (belowP (adj g) x).length ≤ (orderP (adj g)).length := List.length_filter_le _ _
  have h2 := order_len (adj_bd hok)
  have h3 := okG_len hok
  omega
set_option maxRecDepth 100000 in
set_option maxHeartbeats 2000000 in
theorem below_c (g : List (List Int)) (x : Int) (vg vo : Value) (w : World) (h : Sd w vg vo g) :
    Calls Try.prog 77 #[.agg #[vg, vo], .int .i64 x] w (WaysPost (natI (belowP (adj g) x)) w) := by
  obtain ⟨B, hg⟩ := h.gr
  obtain ⟨sg, cg, rfl⟩ := hg.slice
  obtain ⟨lo, hod⟩ := h.od
  have hok := h.ok
  have hlen := h.len
  have HG := hid hg
  have HOd := hid hod
  have HOk := hid hok
  obtain ⟨od, hodq⟩ : ∃ od, natI (orderP (adj g)) = od := ⟨_, rfl⟩
  have HOq := hid hodq
  have hodl : od.length ≤ 30 := by rw [← hodq, natI_len]; omega
  rw [hodq] at HOd hod
  obtain ⟨so, co, rfl⟩ := own_slice hod
  have HB1 := hid ((Below.refl w.heap.size w).alloc (Nat.le_refl _) (.cells #[.slice sg g.length cg, .slice so od.length co] 48))
  have HS1 := hid (Row.new w 48 #[.slice sg g.length cg, .slice so od.length co])
  clear h hg hod hok hodq
  go_enter Try.func77, Try.ntmps77
  go_upto_region 1 with fail
  obtain ⟨w1, hw1⟩ : ∃ w1, w.alloc (.cells #[.slice sg g.length cg, .slice so od.length co] 48) = w1 := ⟨_, rfl⟩
  have hz1 : w1.heap.size = w.heap.size + 1 := by rw [← hw1]; simp
  rw [hw1] at HB1 HS1 ⊢
  have HB2 := hid (HB1.out.alloc HB1.out.size (.cells #[.int .i64 x] 3))
  have HS2 := hid (HS1.out.alloc (.cells #[.int .i64 x] 3))
  have HX2 := hid (Row.new w1 3 #[.int .i64 x])
  obtain ⟨w2, hw2⟩ : ∃ w2, w1.alloc (.cells #[.int .i64 x] 3) = w2 := ⟨_, rfl⟩
  have hz2 : w2.heap.size = w.heap.size + 2 := by rw [← hw2]; simp [hz1]
  rw [hw2] at HB2 HS2 HX2 ⊢
  rw [hz1] at HX2
  have HZ := hid hz2
  obtain ⟨H, hH⟩ : ∃ H, w.heap.size = H := ⟨_, rfl⟩
  have HH := hid hH
  rw [hH] at HS2 HX2
  try rw [hH]
  have HB3 := hid (HB2.out.alloc HB2.out.size (.cells #[.int .i64 0] 3))
  have HRs := hid (show Rd (w2.alloc (.cells #[.int .i64 0] 3)) (.slice (some ⟨w2.heap.size, 0, none⟩) 1 1) (natI [0]) from Rd.of_own (own_lit w2 [0] #[.int .i64 0] rfl (by simp) 1 rfl))
  have HS3 := hid (HS2.out.alloc (.cells #[.int .i64 0] 3))
  have HX3 := hid (HX2.out.alloc (.cells #[.int .i64 0] 3))
  clear hw1 hw2 hz1 hz2 hH
  go_wp2_with fail
  have hn1 : g.length ≤ 1000 := by omega
  have hrc := reached_c (L := cut (adj g) x) (N := g.length) (F := 95) (rs := #[]) (cs := #[.pointer (some ⟨H + 1, 0, none⟩), .pointer (some ⟨H, 0, none⟩)]) [0] (.slice (some ⟨w2.heap.size, 0, none⟩) 1 1) (w2.alloc (.cells #[.int .i64 0] 3)) (lds_below HOk.out (HG.out.on HB3.out) HX3.out HS3.out) (gd_cut (adj_bd HOk.out) x).bd hn1 (st_lt (adj_bd HOk.out)) (by simp) HRs.out (fun k hk => by cases hk; simp)
  refine hrc.mono ?_
  clear hrc
  rintro e w4 ⟨v4, rfl, hown4, hb4⟩
  have HB4 := hid (HB3.out.trans (hb4.mono HB3.out.size))
  have HS4 := hid (HS3.out.on hb4)
  have HX4 := hid (HX3.out.on hb4)
  have hlf := left_facts (gd_cut (adj_bd HOk.out) x) [0] (st_lt (adj_bd HOk.out))
  have hln := nodup_le g.length _ hlf.nd hlf.lt
  have HO4 := hid (own_mono hown4 HB3.out.size)
  obtain ⟨os, hos⟩ : ∃ os, natI (Gp.leftOf (cut (adj g) x) [0] []) = os := ⟨_, rfl⟩
  have hol : os.length ≤ 1000 := by rw [← hos, natI_len]; omega
  rw [hos] at HO4 hown4
  have HOs := hid hos
  obtain ⟨s4, c4, rfl⟩ := own_slice hown4
  clear hown4 hb4 hos hlf hln
  go_upto_region 2 with fail
  obtain ⟨w5, hw5⟩ : ∃ w5, w4.alloc (.cells #[.slice s4 os.length c4] 26) = w5 := ⟨_, rfl⟩
  have HB5 := hid (hw5 ▸ HB4.out.alloc HB4.out.size (.cells #[.slice s4 os.length c4] 26))
  have HP5 := hid (hw5 ▸ Row.new w4 26 #[.slice s4 os.length c4])
  have hb5 := (Below.refl w4.heap.size w4).alloc (Nat.le_refl _) (.cells #[.slice s4 os.length c4] 26)
  rw [hw5] at hb5 ⊢
  have HS5 := hid (HS4.out.on hb5)
  have HX5 := hid (HX4.out.on hb5)
  have HO5 := hid (own_on HO4.out hb5)
  have HOd5 := hid (own_on HOd.out HB5.out)
  have s1 := HS5.out.cell 1
  simp at s1
  clear hw5 hb5
  go_wp2_with fail
  refine (clone_c od lo _ w5 HOd5.out (by omega)).mono ?_
  rintro e w6 ⟨v6, rfl, hown6, hb6⟩
  have HB6 := hid (HB5.out.trans (hb6.mono HB5.out.size))
  have HX6 := hid (HX5.out.on hb6)
  have HP6 := hid (HP5.out.on hb6)
  have HO6 := hid (own_on HO5.out hb6)
  have HC6 := hid hown6
  have hP5 := HP5.out.lt
  have hX5 := HX5.out.lt
  obtain ⟨s6, c6, rfl⟩ := own_slice hown6
  clear hown6 hb6 s1
  go_wp2_with fail
  have hosb := fun k hk => (HO5.out.lt k hk).2
  have hz5 := HB5.out.size
  have hdel := del_c w5.heap.size od (fun y => decide (y ≠ x) && decide (y ∈ os)) 96 #[.pointer (some ⟨H + 1, 0, none⟩), .pointer (some ⟨w4.heap.size, 0, none⟩)] _ w6 HC6.out (by omega) (fun xs w => by kernel_rfl)
    (fun W y hb => beside_c x y os (.slice s4 os.length c4) (H + 1) w4.heap.size W (HX6.out.below hb hX5) (HP6.out.below hb hP5) (.of_own (own_below HO6.out hosb hb)) hol)
  refine hdel.mono ?_
  clear hdel
  rintro e w7 ⟨v7, rfl, hown7, ho7⟩
  have hfe : (od.filter fun y => !(decide (y ≠ x) && decide (y ∈ os))) = natI (belowP (adj g) x) := by
    rw [← HOq.out, natI_filter]
    unfold belowP
    congr 2
    funext p
    rw [← HOs.out]
    by_cases h1 : (p : Int) = x
    · simp [h1]
    · simp only [h1, ne_eq, not_false_eq_true, decide_true, Bool.true_and, decide_false, Bool.false_or]
      congr 1
      exact decide_eq_decide.2 mem_natI'
  rw [hfe] at hown7
  have HO7 := hid (own_mono hown7 hz5)
  have HB7 := hid (HB6.out.trans (ho7.below HB6.out.size (fun k hk => by have := (HC6.out.lt k hk).1; omega)))
  obtain ⟨s7, c7, rfl⟩ := own_slice hown7
  clear hown7 ho7 hfe
  go_wp2_with fail
  go_ret
  exact ⟨_, rfl, HO7.out, HB7.out⟩
set_option maxRecDepth 100000 in
set_option maxHeartbeats 2000000 in
theorem isOver_c (g : List (List Int)) (x y : Int) (vg vo : Value) (w : World) (h : Sd w vg vo g) :
    Calls Try.prog 55 #[.agg #[vg, vo], .int .i64 x, .int .i64 y] w fun e w' => e = .returned (.bool (decide (y ∈ natI (belowP (adj g) x)))) ∧ Below w.heap.size w w' := by
  have HS := hid h
  have HB1 := hid ((Below.refl w.heap.size w).alloc (Nat.le_refl _) (.cells #[vg, vo] 48))
  have hbl := below_len h.ok x
  obtain ⟨os, hos⟩ : ∃ os, natI (belowP (adj g) x) = os := ⟨_, rfl⟩
  have hol : os.length ≤ 30 := by rw [← hos, natI_len]; omega
  rw [hos]
  have HOs := hid hos
  clear h hos hbl
  go_enter Try.func55, Try.ntmps55
  go_wp2_with fail
  refine (below_c g x vg vo _ (HS.out.on HB1.out)).mono ?_
  rintro e w2 ⟨v2, rfl, hown2, hb2⟩
  have HB2 := hid (HB1.out.trans (hb2.mono HB1.out.size))
  rw [HOs.out] at hown2
  have HO2 := hid hown2
  obtain ⟨s2, c2, rfl⟩ := own_slice hown2
  clear hown2 hb2
  go_wp2_with fail
  refine (contains_c os y _ w2 (.of_own HO2.out) (by omega)).mono ?_
  rintro e w3 ⟨rfl, rfl⟩
  go_wp2_with fail
  go_ret
  exact ⟨rfl, HB2.out⟩
end Go.Proofs.Ytbbhbjdpdhbjlaa.Ge
