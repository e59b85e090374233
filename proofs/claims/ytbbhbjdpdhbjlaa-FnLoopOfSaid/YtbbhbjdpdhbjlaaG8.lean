/- The walk of the law of LoopOf. -/
import Derived.Test.YtbbhbjdpdhbjlaaGg
import Derived.Test.YtbbhbjdpdhbjlaaG7b
set_option linter.unusedSimpArgs false
set_option linter.unusedVariables false
namespace Go.Proofs.Ytbbhbjdpdhbjlaa.Ge
open Go.RowKit Pl Ft Mm In Gp Sr

/-- A graph and a number have been drawn from bytes. -/
def DrawGN (w : World) (e : Ending) (w' : World) : Prop :=
  ∃ (v : Value) (g : List (List Int)) (x : Int), e = .returned (.tuple #[v, .int .i64 x]) ∧ GAt w'.heap.size w' v g ∧ Sz g ∧ Below w.heap.size w w'
set_option maxRecDepth 100000 in
set_option maxHeartbeats 4000000 in
theorem drawLoopOf_c (a : Option Addr) (len cap : Nat) (zs : List Int) (w : World) (hB : Bytes w a len zs) :
    Calls Try.prog 35 #[.slice a len cap] w (DrawGN w) := by
  have H := hid hB
  clear hB
  go_enter Try.func35, Try.ntmps35
  go_wp2_with fail
  refine (from_c a len cap zs w H.out).mono ?_
  rintro e w1 ⟨sb, rfl, hsb, s1, b1⟩
  have S1 := hid s1
  have B1 := hid b1
  clear s1 b1
  go_wp2_with fail
  refine (graph_c sb a len cap zs 0 w1 S1.out (by omega)).mono ?_
  rintro e w2 ⟨v, g, k2, rfl, _, h1, h2, h3, hk2, hk2', s2, m2, lo, us, hlo, hg⟩
  obtain ⟨sg, cg, rfl⟩ := hg.at_.slice
  have HG := hid hg
  have HZ := hid (sz_of h2 h3)
  have B2 := hid (m2.below B1.out hsb B1.out.size)
  have S2 := hid s2
  have hs2 := s2.here
  clear m2 hg h3 s2
  go_wp2_with fail
  refine (validGraph_c g _ w2 HG.out.at_.grd HZ.out).mono ?_
  rintro e w3 ⟨rfl, rfl⟩
  cases hok : okG g
  · clear hok
    go_wp2_with fail
    refine (pick_c g.length sb a len cap zs k2 w3 S2.out (by omega) (by omega)).mono ?_
    rintro e w4 ⟨x4, k4, rfl, hx4, _, _, _, m4⟩
    have HG4 := hid (HG.out.moved hlo m4).at_
    have B4 := hid (m4.below B2.out hsb B2.out.size)
    clear m4
    go_wp2_with fail
    go_ret2
    exact ⟨_, g, x4, rfl, HG4.out, HZ.out, B4.out⟩
  have HOk := hid hok
  clear hok
  have hhl := headsP_len (L := adj g) g.length
  obtain ⟨hs, hhs⟩ : ∃ hs, headsP (adj g) g.length = hs := ⟨_, rfl⟩
  have HHs := hid hhs
  rw [hhs] at hhl
  clear hhs
  go_wp2_with fail
  refine (sHeads_c g _ _ w3 HOk.out HG.out.at_).mono ?_
  rw [HHs.out]
  rintro e w4 ⟨v4, rfl, hown4, hb4⟩
  obtain ⟨s4, c4, rfl⟩ := own_slice hown4
  have HG4 := hid (HG.out.on hb4)
  have S4 := hid (src_below S2.out hb4 hs2)
  have B4 := hid (B2.out.trans (hb4.mono B2.out.size))
  have hz4 := hb4.size
  clear hown4 hb4
  by_cases h0 : hs = []
  · subst h0
    go_wp2_with fail
    refine (pick_c g.length sb a len cap zs k2 w4 S4.out (by omega) (by omega)).mono ?_
    rintro e w5 ⟨x5, k5, rfl, hx5, _, _, _, m5⟩
    have HG5 := hid (HG4.out.moved hlo m5).at_
    have B5 := hid (m5.below B4.out hsb B4.out.size)
    clear m5
    go_wp2_with fail
    go_ret2
    exact ⟨_, g, x5, rfl, HG5.out, HZ.out, B5.out⟩
  have hpos : 0 < hs.length := List.length_pos_iff.2 h0
  clear h0
  go_upto_region 4 with fail
  refine wp_region_any (by kernel_rfl) ?_
  refine wpAny_take (i := 0) (v := _) rfl (by kernel_rfl) (by kernel_rfl) (by kernel_rfl) (fun _ _ _ h => h) (Or.inl ⟨by rfl, fun w => by go_simp; first | done | with_reducible rfl⟩) ?_
  refine wpAny_take (i := 1) (v := _) rfl (by kernel_rfl) (by kernel_rfl) (by kernel_rfl) (fun _ _ _ h => h) (Or.inl ⟨by rfl, fun w => by go_simp; first | done | with_reducible rfl⟩) ?_
  refine wpAny_take (i := 3) (v := _) rfl (by kernel_rfl) (by kernel_rfl) (by kernel_rfl) (fun _ _ _ h => h) (Or.inl ⟨by rfl, fun w => by go_simp; first | done | with_reducible rfl⟩) ?_
  refine wpAny_take (i := 4) (v := _) rfl (by kernel_rfl) (by kernel_rfl) (by kernel_rfl) (fun _ _ _ h => h) (Or.inl ⟨by rfl, fun w => by go_simp; first | done | with_reducible rfl⟩) ?_
  refine wpAny_ready (rs := [2]) (by kernel_rfl) (by simp) ?_
  refine AllReady.cons rfl (fun K hK => ?_) AllReady.nil
  go_simp
  go_at_call 60
  have hbd : Below w4.heap.size w4 w4.drew := (Below.refl _ _).drew
  refine (sHeads_c g _ _ w4.drew HOk.out (HG4.out.on hbd).at_).mono ?_
  rw [HHs.out]
  rintro e w5 ⟨v5, rfl, hown5, hb5⟩
  obtain ⟨s5, c5, rfl⟩ := own_slice hown5
  have hb45 : Below w4.heap.size w4 w5 := hbd.trans hb5
  have HO5 := hid (show w5.ownsRow w4.heap.size 3 1 (.slice s5 hs.length c5) hs.length (ints hs) from hown5)
  have HG5 := hid (HG4.out.on hb45)
  have S5 := hid (src_below S4.out hb45 (by omega))
  have B5 := hid (B4.out.trans (hb45.mono B4.out.size))
  have hz5 := hb45.size
  clear hown5 hb5 hb45 hbd
  simp only
  refine hK _ _ ?_
  clear hK K
  refine wpAny_ready (rs := [5]) (by kernel_rfl) (by simp) ?_
  refine AllReady.cons rfl (fun K hK => ?_) AllReady.nil
  go_simp
  go_at_call 60
  refine (sHeads_c g _ _ w5 HOk.out HG5.out.at_).mono ?_
  rw [HHs.out]
  rintro e w6 ⟨v6, rfl, hown6, hb6⟩
  obtain ⟨s6, c6, rfl⟩ := own_slice hown6
  have HO6 := hid (own_on HO5.out hb6)
  have HG6 := hid (HG5.out.on hb6)
  have S6 := hid (src_below S5.out hb6 (by omega))
  have B6 := hid (B5.out.trans (hb6.mono B5.out.size))
  clear hown6 hb6
  simp only
  refine hK _ _ ?_
  clear hK K
  refine wpAny_take (i := 6) (v := _) rfl (by kernel_rfl) (by kernel_rfl) (by kernel_rfl) (fun _ _ _ h => h) (Or.inl ⟨by rfl, fun w => by go_simp; first | done | with_reducible rfl⟩) ?_
  refine wpAny_ready (rs := [7]) (by kernel_rfl) (by simp) ?_
  refine AllReady.cons rfl (fun K hK => ?_) AllReady.nil
  go_simp
  go_at_call 56
  refine (pick_c hs.length sb a len cap zs k2 w6 S6.out (by omega) (by omega)).mono ?_
  rintro e w7 ⟨x7, k7, rfl, hx7, _, _, _, m7⟩
  obtain ⟨j, rfl⟩ : ∃ j : Nat, x7 = j := ⟨x7.toNat, by omega⟩
  have hj : j < hs.length := by omega
  have HO7 := hid (own_moved HO6.out (by omega) m7)
  have HG7 := hid (HG6.out.moved hlo m7).at_
  have B7 := hid (m7.below B6.out hsb B6.out.size)
  clear m7 hx7
  obtain ⟨a9, c9, e9, h9⟩ := Rd.of_own HO7.out
  rcases h9 with h9 | ⟨b3, o3, rfl, hb3, hc3⟩
  · rw [h9] at hj; simp at hj
  simp only [Value.slice.injEq, true_and, and_true] at e9
  obtain ⟨rfl, rfl⟩ := e9
  have q1 := hc3 j hj
  obtain ⟨x, hxe⟩ : ∃ x, hs.getD j 0 = x := ⟨_, rfl⟩
  rw [hxe] at q1
  clear hc3 hxe
  have hj1 : (j : Int) < hs.length := by omega
  have hj0 : 0 ≤ (j : Int) := by omega
  simp only
  refine hK _ _ ?_
  clear hK K
  refine wpAny_take (i := 10) (v := _) rfl (by kernel_rfl) (by kernel_rfl) (by kernel_rfl) (fun _ _ _ h => h) (Or.inl ⟨by rfl, fun w => by go_simp; first | done | with_reducible rfl⟩) ?_
  refine wpAny_ready (rs := [8]) (by kernel_rfl) (by simp) ?_
  refine AllReady.cons rfl (fun K hK => ?_) AllReady.nil
  go_simp
  refine hK _ _ ?_
  clear hK K
  refine wpAny_ready (rs := [9]) (by kernel_rfl) (by simp) ?_
  refine AllReady.cons rfl (fun K hK => ?_) AllReady.nil
  go_simp
  refine hK _ _ ?_
  clear hK K
  refine wpAny_take (i := 11) (v := _) rfl (by kernel_rfl) (by kernel_rfl) (by kernel_rfl) (fun _ _ _ h => h) (Or.inl ⟨by rfl, fun w => by go_simp; first | done | with_reducible rfl⟩) ?_
  refine wpAny_done (by kernel_rfl) ?_ _
  go_wp2_with fail
  go_ret2
  exact ⟨_, g, x, rfl, HG7.out, HZ.out, B7.out⟩
set_option maxRecDepth 100000 in
set_option maxHeartbeats 4000000 in
theorem loopOf_w (a : Option Addr) (len cap : Nat) (zs : List Int) (w : World) (hB : Bytes w a len zs) :
    Calls Try.prog 8 #[.slice a len cap] w fun e w' => e = .returned (.bool true) ∧ Below w.heap.size w w' := by
  have hs := hB.small
  have H := hid hB
  clear hB
  go_enter Try.func8, Try.ntmps8
  go_wp2_with fail
  refine (drawLoopOf_c a len cap zs w H.out).mono ?_
  rintro e w1 ⟨v1, g, hd, rfl, hg, hz, b1⟩
  obtain ⟨sg, cg, rfl⟩ := hg.slice
  have HG := hid hg
  have HZ := hid hz
  have hgl := hz.len
  have B1 := hid b1
  clear hg hz b1
  have hol := loopS_len g hd
  have HIn := hid (fun v => loop_in (g := g) (x := hd) (v := v))
  obtain ⟨os, hos⟩ : ∃ os, loopS g hd = os := ⟨_, rfl⟩
  have HOs := hid hos
  rw [hos] at hol HIn
  obtain ⟨r, hr⟩ : ∃ r, redS g = r := ⟨_, rfl⟩
  have HR := hid hr
  clear hos hr
  go_wp2_with fail
  refine (loopOf_c g hd _ _ w1 HG.out HZ.out).mono ?_
  rw [HOs.out]
  rintro e w2 ⟨v2, rfl, hown2, hb2⟩
  obtain ⟨s2, c2, rfl⟩ := own_slice hown2
  have HO2 := hid hown2
  have HG2 := hid (HG.out.on hb2)
  have B2 := hid (B1.out.trans (hb2.mono B1.out.size))
  clear hown2 hb2
  go_wp2_with fail
  refine (sLoopOf_c g hd _ _ w2 HG2.out HZ.out).mono ?_
  rw [HOs.out]
  rintro e w3 ⟨v3, rfl, hown3, hb3⟩
  obtain ⟨s3, c3, rfl⟩ := own_slice hown3
  have HO3 := hid hown3
  have HP3 := hid (own_on HO2.out hb3)
  have HG3 := hid (HG2.out.on hb3)
  have B3 := hid (B2.out.trans (hb3.mono B2.out.size))
  clear hown3 hb3
  go_wp2_with fail
  refine (SameInts_b os _ _ w3 (.of_own HP3.out) (.of_own HO3.out) (by omega)).mono ?_
  rintro e w4 ⟨rfl, hb4⟩
  have HP4 := hid (own_on HP3.out hb4)
  have HG4 := hid (HG3.out.on hb4)
  have B4 := hid (B3.out.trans (hb4.mono B3.out.size))
  clear hb4
  by_cases h0 : os = []
  · subst h0
    go_wp2_with fail
    go_ret
    exact ⟨rfl, B4.out⟩
  have hpos : 0 < os.length := List.length_pos_iff.2 h0
  have hne : ((os.length : Int) == 0) = false := by rw [beq_eq_false_iff_ne]; omega
  have hne2 : ¬ os.length = 0 := by omega
  clear h0
  go_wp2_with fail
  go_loopw [37] (fun y wr => ∃ i : Nat, y = .int .i64 i ∧ i ≤ os.length ∧ GAt w1.heap.size wr (.slice sg g.length cg) g ∧ wr.ownsRow w1.heap.size 3 1 (.slice s2 os.length c2) os.length (ints os) ∧ Below w.heap.size w wr) (fun y _ => os.length - (intOf y).toNat)
  case atStart => exact ⟨0, rfl, by omega, HG4.out, HP4.out, B4.out⟩
  case round =>
    obtain ⟨i, rfl, hi, hG, hO, hB⟩ := hrel
    have HGr := hid hG
    have HOr := hid hO
    have HBr := hid hB
    clear hG hO hB
    by_cases hlt : i < os.length
    case neg =>
      obtain rfl : i = os.length := by omega
      have hmem : os.getD 0 0 ∈ os := by simp [hpos]
      have HX := hid (HIn.out _ hmem).2
      clear hmem
      go_wp2_with fail
      refine (SpecInList_c os hd _ wr (Rd.of_own HOr.out) (by omega)).mono ?_
      rintro e w7 ⟨rfl, rfl⟩
      rw [decide_eq_true HX.out]
      go_wp2_with fail
      go_ret
      exact ⟨rfl, HBr.out⟩
    have hmem : os.getD i 0 ∈ os := by simp [hlt]
    obtain ⟨x, hxe⟩ : ∃ x, os.getD i 0 = x := ⟨_, rfl⟩
    rw [hxe] at hmem
    have HX := hid (HIn.out x hmem).1
    clear hmem
    obtain ⟨a9, c9, e9, h9⟩ := Rd.of_own HOr.out
    rcases h9 with h9 | ⟨b3, o3, rfl, hb3, hc3⟩
    · rw [h9] at hlt; simp at hlt
    simp only [Value.slice.injEq, true_and, and_true] at e9
    obtain ⟨rfl, rfl⟩ := e9
    have q1 := hc3 i hlt
    rw [hxe] at q1
    clear hc3 hxe
    have hi2 : (i : Int) < os.length := by omega
    have hi0 : 0 ≤ (i : Int) := by omega
    go_wp2_with fail
    refine (reducible_c g _ _ wr HGr.out HZ.out).mono ?_
    rw [HR.out]
    rintro e w6 ⟨rfl, hb6⟩
    have HO6 := hid (own_on HOr.out hb6)
    have HG6 := hid (HGr.out.on hb6)
    have HB6 := hid (HBr.out.trans (hb6.mono HBr.out.size))
    clear hb6
    cases r
    · go_wp2_with fail
      exact ⟨⟨i + 1, by go_num, by omega, HG6.out, HO6.out, HB6.out⟩, by simp only [intOf]; omega⟩
    go_wp2_with fail
    refine (dominatesIn_c g hd x _ _ w6 HG6.out HZ.out).mono ?_
    rw [HX.out]
    rintro e w7 ⟨rfl, hb7⟩
    have HO7 := hid (own_on HO6.out hb7)
    have HG7 := hid (HG6.out.on hb7)
    have HB7 := hid (HB6.out.trans (hb7.mono HB6.out.size))
    clear hb7
    go_wp2_with fail
    exact ⟨⟨i + 1, by go_num, by omega, HG7.out, HO7.out, HB7.out⟩, by simp only [intOf]; omega⟩
end Go.Proofs.Ytbbhbjdpdhbjlaa.Ge
